/- Orders of jobs, taken as a row of numbers says. -/
import Derived.Test.YtnbeaeekfahijaaTurns
import Derived.Test.YtnbeaeekfahijaaHods
import Derived.Test.YtnbeaeekfahijaaEndsS2
namespace Go.Proofs.Ytnbeaeekfahijaa
open Go Go.RowKit Go.Sort

def turnedL (ls : List Jb) (t : List Int) : List Jb := t.map fun z => jg ls z.toNat
theorem turnedL_len (ls : List Jb) (t : List Int) : (turnedL ls t).length = t.length := by simp [turnedL]
theorem turnedL_perm {ls : List Jb} {t : List Int} (h : t.Perm (upN ls.length)) : (turnedL ls t).Perm ls := by
  have h1 : (turnedL ls t).Perm (turnedL ls (upN ls.length)) := h.map _
  have h2 : turnedL ls (upN ls.length) = ls := by
    refine List.ext_getElem (by rw [turnedL_len, upN_len]) (fun i h1 h2 => ?_)
    simp [turnedL, upN, jg_get h2]
  rw [h2] at h1
  exact h1

theorem JobS.take {w : World} {a : Option Addr} {n cap : Nat} {ls : List Jb} (h : JobS w a n cap ls) {m : Nat} (hm : m ≤ n) : JobS w a m cap (ls.take m) := by
  have hl := h.len
  have hjg : ∀ i, i < m → jg (ls.take m) i = jg ls i := fun i hi => by unfold jg; rw [List.getElem?_take_of_lt hi]
  refine ⟨by rw [List.length_take]; omega, by have := h.le; omega, h.mx, h.nil, fun i hi => by rw [hjg i hi]; exact h.wf i (by omega), fun h0 => ?_⟩
  obtain ⟨b, off, e, h1, h2⟩ := h.at_ (by omega)
  refine ⟨b, off, e, h1, fun i hi c hc => ?_⟩
  have hi' : i < m := by rw [List.length_take] at hi; omega
  rw [hjg i hi']
  exact h2 i (by omega) c hc

set_option maxRecDepth 8000 in
set_option maxHeartbeats 2000000 in
theorem turned_any (a : Option Addr) (n cap : Nat) (ls : List Jb) (o : Option Addr) (m co : Nat) (t : List Int) (w : World) (h : JobS w a n cap ls) (ht : IntS w o m co t) (hb : ∀ z ∈ t, 0 ≤ z ∧ z < n) (hm : m ≤ 100) :
    Calls Try.prog 32 #[.slice a n cap, .slice o m co] w fun e w' => ∃ g c, e = .returned (.slice (some ⟨g, 0, none⟩) m c) ∧ OwnJ w' w.heap.size g c (turnedL ls t) ∧ Below w.heap.size w w' := by
  obtain ⟨i1, hji, hj0, hj1, hj2⟩ := info_parts infoJ
  have hln := h.len
  have htn := ht.len
  have hcn := h.le
  have hcx := h.mx
  have hco := ht.le
  have hcox := ht.mx
  unfold maxLen at hcx hcox
  have HL : Hid (ls.length = n ∧ t.length = m) := ⟨hln, htn⟩
  clear hln htn
  go_enter Try.func32, Try.ntmps32
  go_wp2_with fail
  go_loopw [5, 6] (fun u i wr => ∃ (k g c : Nat), k ≤ m ∧ i = .int .i64 k ∧ u = .slice (some ⟨g, 0, none⟩) k c ∧ Hid (OwnJ wr w.heap.size g c (turnedL ls (t.take k))) ∧ Below w.heap.size w wr) (fun _ i _ => m - (intOf i).toNat)
  case atStart => exact ⟨0, w.heap.size, 0, by omega, rfl, rfl, own_nil w, (Below.refl _ _).alloc (Nat.le_refl _) _⟩
  case round =>
    obtain ⟨k, g, c, hk, rfl, rfl, HO, hw⟩ := hrel
    have z := hw.size
    by_cases hlt : k < m
    · have hlt' : (k : Int) < (m : Int) := by omega
      obtain ⟨bo, oo, rfl, hbo, hat⟩ := (ht.below hw).at_ (by omega)
      have c0 := hat k hlt
      have hkt : k < t.length := by have := HL.out.2; omega
      have hz := hb _ (List.getElem_mem hkt)
      rw [← zg_get hkt] at hz
      obtain ⟨q, hq⟩ := Int.eq_ofNat_of_zero_le hz.1
      rw [hq] at c0
      have hqn : q < n := by omega
      have hqn' : (q : Int) < (n : Int) := by omega
      obtain ⟨b, off, rfl, hbw, hj⟩ := (h.below hw).at_ (by omega)
      have J := hj.job (i := q) (by have := HL.out.1; omega)
      unfold Job1 at J
      obtain ⟨e0, e1, e2, e3, e4, e5, e6⟩ := J
      have hl : (turnedL ls (t.take k)).length = k := by rw [turnedL_len, List.length_take]; omega
      have hxs : jcells (turnedL ls (t.take k)) ++ jl (jg ls q) = jcells (turnedL ls (t.take (k + 1))) := by
        have e : turnedL ls (t.take (k + 1)) = turnedL ls (t.take k) ++ [jg ls q] := by
          unfold turnedL
          rw [List.take_succ_eq_append_getElem hkt, List.map_append, ← zg_get hkt, hq]
          rfl
        rw [e, jcells_app]
        rfl
      have HX : Hid _ := hxs
      have hl1 : (turnedL ls (t.take (k + 1))).length = k + 1 := by rw [turnedL_len, List.length_take]; omega
      have HL1 : Hid _ := hl1
      have OA := (HO.out.below (box_below (cs := #[.int .i64 (jg ls q).id, .int .i64 (jg ls q).cores, .int .i64 (jg ls q).long, .int .i64 (jg ls q).due, .int .i64 (jg ls q).wt, .int .i64 (jg ls q).rank, .int .i64 (jg ls q).at_]) (T := 31))).own
      rw [hl] at OA
      have HN : Hid _ := new7_cells' wr (jg ls q) 31
      have bK := HO.out.base
      clear hat hj hz hl hxs hl1 hq
      go_wp2_with (at_builtin; refine wpList_append_own_at _ rfl (.tmp 14) (.tmp 22) 24 rfl w.heap.size 31 i1 (.agg #[.int .i64 0, .int .i64 0, .int .i64 0, .int .i64 0, .int .i64 0, .int .i64 0, .int .i64 0]) 7 56 Try.underlying24 hji hj0 hj1 hj2 rfl (by decide) _ _ _ rfl OA ⟨wr.heap.size, 0, none⟩ 1 1 (jl (jg ls q)) rfl rfl HN.out (jl_one (jg ls q)) (by unfold maxLen; omega) (by omega) (by simp; omega) ?_)
      intro v3 w3 own3 grow3 nil3 at3
      obtain ⟨g3, c3, rfl, O3⟩ := ownJ_of' (ys := turnedL ls (t.take (k + 1))) own3 (by rw [HL1.out]) HX.out nil3
      have B3 : Hid (Below w.heap.size w w3) := (hw.alloc z _).grown grow3 (by simp; omega) (fun r e => by have e' : g = r := Option.some.inj e; omega)
      have HO3 : Hid _ := O3
      clear own3 grow3 nil3 at3 OA HN HX O3 e0 e1 e2 e3 e4 e5 e6 c0
      go_wp2
      go_roundw
      case rel => exact ⟨k + 1, g3, c3, by omega, by go_num, rfl, HO3.out, B3.out⟩
      case measure => simp [intOf]; omega
    · have e : k = m := by omega
      subst e
      have HE : Hid (t.take k = t) := by unfold Hid; exact List.take_of_length_le (by have := HL.out.2; omega)
      go_wp2
      go_ret
      exact ⟨g, c, rfl, by rw [← HE.out]; exact HO.out, hw⟩

theorem l1From_turns (cb : Nat) (a : Option Addr) (n cap : Nat) (zs : List Int) (w : World) (h : CurAt w cb a n cap zs) :
    Calls Try.prog 50 #[.pointer (some ⟨cb, 0, none⟩), .int .i64 (-1), .int .i64 7] w fun e w' => ∃ x : Int, e = .returned (.int .i64 x) ∧ -1 ≤ x ∧ x ≤ 7 ∧ But cb w w' := by
  go_enter Try.func50, Try.ntmps50
  go_wp2_with fail
  refine (l1Below_any cb a n cap zs 9 _ h (by omega) (by omega)).mono ?_
  rintro e w2 ⟨x, rfl, x0, x1, h2, hb2⟩
  go_wp2
  go_ret
  exact ⟨_, rfl, by omega, by omega, hb2⟩

theorem drawTurns_any (a : Option Addr) (n cap : Nat) (zs : List Int) (w : World) (h : IsBytes w a n cap zs) (hn : n ≤ 4096) :
    Calls Try.prog 26 #[.slice a n cap] w fun e w' => ∃ x : Int, e = .returned (.int .i64 x) ∧ -1 ≤ x ∧ x ≤ 7 ∧ Below w.heap.size w w' := by
  go_enter Try.func26, Try.ntmps26
  go_wp2_with fail
  refine (l1New_any a n cap zs _ h hn).mono ?_
  rintro e w1 ⟨cb, rfl, hcb, c1, U1⟩
  go_wp2_with fail
  refine (l1From_turns cb a n cap zs _ c1).mono ?_
  rintro e w2 ⟨x, rfl, x0, x1, hb2⟩
  go_wp2
  go_ret
  exact ⟨x, rfl, x0, x1, U1.trans (hb2.below hcb U1.size)⟩

theorem factN_le8 : ∀ n, n ≤ 7 → factN n ≤ 5040
  | 0, _ => by decide
  | 1, _ => by decide
  | 2, _ => by decide
  | 3, _ => by decide
  | 4, _ => by decide
  | 5, _ => by decide
  | 6, _ => by decide
  | 7, _ => by decide
  | n + 8, h => by omega

end Go.Proofs.Ytnbeaeekfahijaa
