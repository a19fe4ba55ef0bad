/- The program's chapter 13, ninth part: a map whose keys are pairs of numbers; the places of Entries; PhaseOf. -/
import Derived.Test.YthgdjecbaomffaaStI7
import Derived.Test.YthgdjecbaomffaaStateS6
import Derived.Test.YthgdjecbaomffaaMapK
namespace Go.Proofs.Ythgdjecbaomffaa
open Go.RowKit Go.Sort Go.Maps
open Go.ChangeMaps (heap_setBlock_same heap_setBlock_other)
open Go.MapKept (stamped_empty)

theorem laidM : laidOutB Try.prog = true := by kernel_rfl
theorem rowM : 81 < Try.prog.types.size := of_decide_eq_true (by kernel_rfl)
theorem wideM : (match Try.prog.underlying 81 with | some (.array _ _) | some (.struct _) => true | _ => false) = true := by rw [Try.underlying81]
theorem keyAtM : Try.prog.keyTypeAt 2 81 = true := by kernel_rfl
theorem smallM : 2 + 1 ≤ 10000 := by omega
theorem lawM : Keyed Try.prog 81 := Keyed.of_law (deep_law_laid (P := Try.prog) laidM (m := 2) smallM (k := 81) rowM keyAtM (by rw [Try.underlying81]))
theorem keyTyM : Try.prog.keyType 81 = true := by kernel_rfl
theorem cellsM : Try.prog.cellsOf 81 = 2 := by kernel_rfl
theorem cellsI : Try.prog.cellsOf 2 = 1 := by kernel_rfl
theorem sizeM : ∃ m, Try.prog.types.size = m + 1 := ⟨Try.prog.types.size - 1, by kernel_rfl⟩

theorem mkL_is {i e : Int} (hi : (Lit.int .i64 i).wf = true) (he : (Lit.int .i64 e).wf = true) : keyOf Try.prog 81 (.agg #[.int .i64 i, .int .i64 e]) = some (mkL i e) :=
  keyOf_two Try.underlying81 ⟨rfl, rfl, by decide⟩ ⟨rfl, rfl, by decide⟩ Try.underlying2 keyTyM cellsM cellsI sizeM hi he
theorem mkL_inj {i e i' e' : Int} (hi : (Lit.int .i64 i).wf = true) (he : (Lit.int .i64 e).wf = true) (hi' : (Lit.int .i64 i').wf = true) (he' : (Lit.int .i64 e').wf = true) (h : mkL i e = mkL i' e') : i = i' ∧ e = e' := by
  have h1 := mkL_is hi he
  rw [h] at h1
  have := lawM.inj h1 (mkL_is hi' he')
  simp at this
  exact this

/-- the places of the first k -/
noncomputable def plD (ls : List En) : Nat → DataW Unit
  | 0 => .map []
  | k + 1 => if (eng ls k).ph = 2 then ((plD ls k).put (mkL (eng ls k).job.id 0) (.lit (.int .i64 k))).put (mkL (eng ls k).job.id (eng ls k).ep) (.lit (.int .i64 k)) else (plD ls k).put (mkL (eng ls k).job.id 0) (.lit (.int .i64 k))
theorem plD_map (ls : List En) : ∀ k, IsMap (plD ls k)
  | 0 => isMap_empty
  | k + 1 => by
    simp only [plD]
    split
    · exact ((plD_map ls k).put _ _).put _ _
    · exact (plD_map ls k).put _ _
/-- entry i has this mark -/
def Mk (e : En) (x y : Int) : Prop := e.job.id = x ∧ (y = 0 ∨ (e.ph = 2 ∧ e.ep = y))
theorem keyM (i e : Int) : WideAt.IsKeyLit (mkL i e) := trivial
theorem wf0 : (Lit.int .i64 0).wf = true := by decide
theorem en_id {e : En} (h : enwf e) : (Lit.int .i64 e.job.id).wf = true := WalkArith.wf_i64 (h.1 0 (by omega))
theorem en_ep {e : En} (h : enwf e) : (Lit.int .i64 e.ep).wf = true := WalkArith.wf_i64 (h.1 9 (by omega))
theorem plD_no {ls : List En} (wf : ∀ i, i < ls.length → enwf (eng ls i)) {x y : Int} (hx : (Lit.int .i64 x).wf = true) (hy : (Lit.int .i64 y).wf = true) : ∀ k, k ≤ ls.length → (∀ i, i < k → ¬ Mk (eng ls i) x y) → Maps.has (plD ls k) (mkL x y) = false
  | 0, _, _ => rfl
  | k + 1, hk, h => by
    have ih := plD_no wf hx hy k (by omega) (fun i hi => h i (by omega))
    have w := wf k (by omega)
    have n1 : mkL x y ≠ mkL (eng ls k).job.id 0 := fun q => by
      obtain ⟨q1, q2⟩ := mkL_inj hx hy (en_id w) wf0 q
      exact h k (by omega) ⟨q1.symm, Or.inl q2⟩
    simp only [plD]
    split
    · rename_i hp
      have n2 : mkL x y ≠ mkL (eng ls k).job.id (eng ls k).ep := fun q => by
        obtain ⟨q1, q2⟩ := mkL_inj hx hy (en_id w) (en_ep w) q
        exact h k (by omega) ⟨q1.symm, Or.inr ⟨hp, q2.symm⟩⟩
      rw [has_put_other n2, has_put_other n1, ih]
    · rw [has_put_other n1, ih]
theorem plD_yes {ls : List En} (wf : ∀ i, i < ls.length → enwf (eng ls i)) (un : ∀ i, i < ls.length → ∀ j, j < i → (eng ls j).job.id ≠ (eng ls i).job.id) {x y : Int} (hx : (Lit.int .i64 x).wf = true) (hy : (Lit.int .i64 y).wf = true) {i : Nat} (hm : Mk (eng ls i) x y) :
    ∀ k, k ≤ ls.length → i < k → Maps.has (plD ls k) (mkL x y) = true ∧ ∀ z, (plD ls k).atKey (mkL x y) z = .lit (.int .i64 i)
  | k + 1, hk, hi => by
    have w := wf k (by omega)
    by_cases e : i = k
    · subst e
      simp only [plD]
      split
      · rename_i hp
        by_cases q : y = (eng ls i).ep
        · have : mkL x y = mkL (eng ls i).job.id (eng ls i).ep := by rw [hm.1, q]
          rw [this]
          exact ⟨has_put_same ((plD_map ls i).put _ _) (keyM _ _) _, fun z => atKey_put_same ((plD_map ls i).put _ _) (keyM _ _) _ z⟩
        · have y0 : y = 0 := by rcases hm.2 with g | ⟨_, g⟩ <;> omega
          have n2 : mkL x y ≠ mkL (eng ls i).job.id (eng ls i).ep := fun g => q (mkL_inj hx hy (en_id w) (en_ep w) g).2
          have : mkL x y = mkL (eng ls i).job.id 0 := by rw [hm.1, y0]
          refine ⟨?_, fun z => ?_⟩
          · rw [has_put_other n2, this]; exact has_put_same (plD_map ls i) (keyM _ _) _
          · rw [atKey_put_other n2, this]; exact atKey_put_same (plD_map ls i) (keyM _ _) _ z
      · rename_i hp
        have y0 : y = 0 := by
          rcases hm.2 with g | ⟨g, _⟩
          · exact g
          · exact absurd g hp
        have : mkL x y = mkL (eng ls i).job.id 0 := by rw [hm.1, y0]
        rw [this]
        exact ⟨has_put_same (plD_map ls i) (keyM _ _) _, fun z => atKey_put_same (plD_map ls i) (keyM _ _) _ z⟩
    · have ih := plD_yes wf un hx hy hm k (by omega) (by omega)
      have hne := un k (by omega) i (by omega)
      rw [hm.1] at hne
      have n1 : mkL x y ≠ mkL (eng ls k).job.id 0 := fun g => hne (mkL_inj hx hy (en_id w) wf0 g).1
      have n2 : mkL x y ≠ mkL (eng ls k).job.id (eng ls k).ep := fun g => hne (mkL_inj hx hy (en_id w) (en_ep w) g).1
      simp only [plD]
      split
      · rw [has_put_other n2, has_put_other n1]
        exact ⟨ih.1, fun z => by rw [atKey_put_other n2, atKey_put_other n1]; exact ih.2 z⟩
      · rw [has_put_other n1]
        exact ⟨ih.1, fun z => by rw [atKey_put_other n1]; exact ih.2 z⟩

/-- block b of w is the map of the first k -/
def PlM (w : World) (b : Nat) (ls : List En) (k : Nat) : Prop := w.ownsMap Try.prog 81 (plainElem (H := Unit) Try.prog 3) b (2 * k) (plD ls k)

theorem run_clearM {w : World} {b : Nat} {es : Array MapEntry} {clock : Nat} (hm : w.heap[b]? = some (.map es clock)) (ty : TypeId) : (Builtin.clear_ #[78] ty #[.map (some b)]).run Try.prog w = .ok (.tuple #[]) (ChangeMaps.setBlock w b (.map #[] clock)) := by
  simp [Builtin.clear_, run_underlying Try.underlying78, MapKept.run_getObj_map hm, MapKept.run_setObj_map _ hm, Result.andThen, ChangeMaps.setBlock]

set_option maxRecDepth 8000 in
set_option maxHeartbeats 4000000 in
theorem filled_any (a : Option Addr) (n cap : Nat) (ls : List En) (b : Nat) (es : Array MapEntry) (clock : Nat) (w : World) (h : EntS w a n cap ls) (hm : w.heap[b]? = some (.map es clock)) (hs : n ≤ 1048576) :
    Calls Try.prog 51 #[.map (some b), .slice a n cap] w fun e w' => e = .returned (.map (some b)) ∧ PlM w' b ls n ∧ w.grownBy w' (some b) := by
  have hlen := h.len
  have hmx := h.mx
  have hle := h.le
  have hwf := h.wf
  unfold maxLen at hmx
  have hbl : b < w.heap.size := (Array.getElem?_eq_some_iff.1 hm).1
  obtain ⟨W0, hW0⟩ : ∃ W0, W0 = ChangeMaps.setBlock w b (.map #[] clock) := ⟨_, rfl⟩
  have hcl := fun ty => run_clearM hm ty
  rw [← hW0] at hcl
  have G0 : w.grownBy W0 (some b) := by rw [hW0]; exact ⟨rfl, rfl, rfl, by simp [ChangeMaps.setBlock], fun i _ hi => heap_setBlock_other hm _ (fun e => hi (by rw [e]))⟩
  have M0 : Hid (PlM W0 b ls 0) := by
    unfold Hid PlM; rw [hW0]
    exact ⟨#[], clock, heap_setBlock_same hm _, ⟨by simp, stamped_empty clock, by simp⟩, Nat.le_refl _, rfl⟩
  have HE : Hid (EntS w a n cap ls) := h
  have HM : Hid (w.heap[b]? = some (.map es clock)) := hm
  clear h hm hW0
  go_enter Try.func51, Try.ntmps51
  go_wp2
  go_loopw [10] (fun i wr => ∃ k : Nat, k ≤ n ∧ i = .int .i64 k ∧ Hid (PlM wr b ls k) ∧ w.grownBy wr (some b)) (fun i _ => n - (intOf i).toNat)
  case atStart => exact ⟨0, by omega, rfl, M0, G0⟩
  case round =>
    obtain ⟨k, hk, rfl, HP, hg⟩ := hrel
    rename World => wr
    clear M0 hcl
    by_cases hlt : k < n
    · obtain ⟨bb, off, rfl, hbw, hat⟩ := HE.out.at_ (by omega)
      obtain ⟨v, m, E⟩ := hat.row (i := k) (by omega)
      have hne : bb ≠ b := fun q => by
        have := E.c0
        rw [q] at this
        simp [World.cell?, HM.out] at this
      have hns : some bb ≠ some b := fun q => hne (Option.some.inj q)
      have d0 := hg.cell E.c0 hns
      have d1 := hg.cell E.c1 hns
      have d2 := hg.cell E.c2 hns
      have d3 := hg.cell E.c3 hns
      have d4 := hg.cell E.c4 hns
      have d5 := hg.cell E.c5 hns
      have d6 := hg.cell E.c6 hns
      have d7 := hg.cell E.c7 hns
      have d8 := hg.cell E.c8 hns
      have d9 := hg.cell E.c9 hns
      have d10 := hg.cell E.c10 hns
      have hlt' : (k : Int) < (n : Int) := by omega
      have wfe := hwf k hlt
      have wi := en_id wfe
      have we := en_ep wfe
      have wk : (Lit.int .i64 (k : Int)).wf = true := WalkArith.wf_i64 (by omega)
      have bsz : b < wr.heap.size := Nat.lt_of_lt_of_le hbl hg.size
      clear hat E
      obtain ⟨e, he⟩ : ∃ e, e = eng ls k := ⟨_, rfl⟩
      have HEk : Hid (e = eng ls k) := he
      rw [← he] at d0 d1 d2 d3 d4 d5 d6 d7 d8 d9 d10 wi we
      clear he wfe
      obtain ⟨W1, hW1⟩ : ∃ W1, W1 = wr.alloc (.cells #[.int .i64 e.job.id, .int .i64 e.job.cores, .int .i64 e.job.long, .int .i64 e.job.due, .int .i64 e.job.wt, .int .i64 e.job.rank, .int .i64 e.job.at_, .int .i64 e.ph, .int .i64 e.st, .int .i64 e.ep, .slice v e.ps.length m] 59) := ⟨_, rfl⟩
      have g1 : wr.grownBy W1 (some b) := by rw [hW1]; exact World.grownBy_alloc _ _ _
      have own1 : PlM W1 b ls k := by rw [hW1]; exact World.ownsMap.alloc HP.out _
      have x1 : W1.heap[wr.heap.size]? = some (.cells #[.int .i64 e.job.id, .int .i64 e.job.cores, .int .i64 e.job.long, .int .i64 e.job.due, .int .i64 e.job.wt, .int .i64 e.job.rank, .int .i64 e.job.at_, .int .i64 e.ph, .int .i64 e.st, .int .i64 e.ep, .slice v e.ps.length m] 59 (0, 0)) := by rw [hW1]; exact heap_alloc_new _ _
      obtain ⟨y0, y1, y2, y3, y4, y5, y6, y7, y8, y9, y10, _, _, _, _, _, _, _, _, _, _, _⟩ := box11 x1
      have hnw : some wr.heap.size ≠ some b := fun q => by have := Option.some.inj q; omega
      have hg1 := hg.trans g1
      unfold PlM at own1
      go_upto_region 5 with fail
      rw [← hW1]
      clear hW1 x1 d0 d1 d2 d3 d4 d5 d6 d7 d8 d9 d10 HP
      by_cases hp : e.ph = 2
      · have hp' : (e.ph == 2) = true := by simpa using hp
        have HD : Hid (plD ls (k + 1) = ((plD ls k).put (mkL e.job.id 0) (.lit (.int .i64 k))).put (mkL e.job.id e.ep) (.lit (.int .i64 k))) := by
          unfold Hid; simp only [plD]; rw [← HEk.out, if_pos hp]
        clear hp
        go_wp2_with (at_mapUpdate; first
          | (refine wpList_mapUpdate_in _ rfl _ _ _ 78 rfl 81 3 lawM Try.underlying78 _ b (2 * k) (plD ls k) rfl own1 (by unfold maxLen; omega) _ _ (mkL e.job.id 0) rfl rfl (mkL_is wi wf0) (.lit (.int .i64 k)) [] (plainElem_int Try.underlying3 wk) ?_; intro w2 own2 turn2; have g2 := turn2.grown; have z0 := g2.cell y0 hnw; have z7 := g2.cell y7 hnw; have z9 := g2.cell y9 hnw)
          | (refine wpList_mapUpdate_in _ rfl _ _ _ 78 rfl 81 3 lawM Try.underlying78 _ b (2 * k + 1) ((plD ls k).put (mkL e.job.id 0) (.lit (.int .i64 k))) rfl own2 (by unfold maxLen; omega) _ _ (mkL e.job.id e.ep) rfl rfl (mkL_is wi we) (.lit (.int .i64 k)) [] (plainElem_int Try.underlying3 wk) ?_; intro w3 own3 turn3; have g3 := turn3.grown))
        have HO : Hid (PlM w3 b ls (k + 1)) := by unfold Hid PlM; rw [HD.out]; exact own3.mono (by omega)
        clear own1 own2 own3 HD
        go_roundw
        case rel => exact ⟨k + 1, by omega, by go_num, HO, (hg1.trans g2).trans g3⟩
        case measure => simp [intOf]; omega
      · have hp' : (e.ph == 2) = false := by simpa using hp
        have HD : Hid (plD ls (k + 1) = (plD ls k).put (mkL e.job.id 0) (.lit (.int .i64 k))) := by
          unfold Hid; simp only [plD]; rw [← HEk.out, if_neg hp]
        clear hp
        go_wp2_with (at_mapUpdate; refine wpList_mapUpdate_in _ rfl _ _ _ 78 rfl 81 3 lawM Try.underlying78 _ b (2 * k) (plD ls k) rfl own1 (by unfold maxLen; omega) _ _ (mkL e.job.id 0) rfl rfl (mkL_is wi wf0) (.lit (.int .i64 k)) [] (plainElem_int Try.underlying3 wk) ?_; intro w2 own2 turn2; have g2 := turn2.grown; have z0 := g2.cell y0 hnw; have z7 := g2.cell y7 hnw; have z9 := g2.cell y9 hnw)
        have HO : Hid (PlM w2 b ls (k + 1)) := by unfold Hid PlM; rw [HD.out]; exact own2.mono (by omega)
        clear own1 own2 HD
        go_roundw
        case rel => exact ⟨k + 1, by omega, by go_num, HO, hg1.trans g2⟩
        case measure => simp [intOf]; omega
    · obtain rfl : k = n := by omega
      have hnn : ¬ (k : Int) < (k : Int) := by omega
      go_wp2
      go_ret
      exact ⟨rfl, HP.out, hg⟩

end Go.Proofs.Ythgdjecbaomffaa
