/- inHalves and Johnson of the program. -/
import Derived.Test.YtkakdodamnnplaaPassBy
import Derived.Test.YtkakdodamnnplaaPassThr
import Derived.Test.YtkakdodamnnplaaStepApp
import Derived.Laws.EntriesVeiled
namespace Go.Proofs.Ytkakdodamnnplaa
open Go.RowKit Go.Sort

theorem PassB.cells {w : World} {B n : Nat} {ls : List Pz} (h : PassB w B n n ls) (hl : ls.length = n) : ∀ j u, (pzcells ls)[j]? = some u → w.cell? ((⟨B, 0, none⟩ : Addr).add j) = some u := by
  obtain ⟨cur, h1, h2, h3⟩ := h
  intro j u hj
  obtain ⟨h4, rfl⟩ := pzcells_get hj
  have hadd : (⟨B, 0, none⟩ : Addr).add j = ⟨B, j, none⟩ := by unfold Addr.add; split <;> simp_all
  rw [hadd]
  have := h3 (j / 3) (by omega) (j % 3) (by omega)
  rw [show j / 3 * 3 + j % 3 = j by omega] at this
  simp [World.cell?, h1, this]

theorem run_makeRoom (n : Nat) (hn : n ≤ 1048576) (wx : World) : (Instr.makeSlice 24 (.int .i64 0) (.int .i64 (n : Int))).run Try.prog wx = .ok (.slice (some ⟨wx.heap.size, 0, none⟩) 0 n) (wx.alloc (.cells (madeCells #[.int .i64 0, .int .i64 0, .int .i64 0] (n * 3)) 31)) := by
  obtain ⟨i0, hi, hz0, hz1, hz2⟩ := info_parts infoPass
  have := run_make (P := Try.prog) wx 24 31 i0 _ Try.underlying24 hi hz0 .i64 .i64 0 n (Int.le_refl _) (by omega) (by rw [hz2]; omega) (by omega)
  rw [hz1] at this
  simp only [Int.toNat_natCast, Int.toNat_zero] at this
  exact this

theorem filter_step {ls : List Pz} {p : Pz → Bool} {m : Nat} (hm : m < ls.length) : (ls.take (m + 1)).filter p = (ls.take m).filter p ++ (if p (pzg ls m) then [pzg ls m] else []) := by
  rw [take_step hm, List.filter_append]
  congr 1
  rcases h : p (pzg ls m) with _ | _ <;> simp [List.filter, h]

/-- the halves that are done: k of them -/
def HalfS (ls : List Pz) (k : Int) (ys : List Pz) : Prop :=
  (k = 0 ∧ ys = []) ∨ (k = 1 ∧ ys.Perm (ls.filter risP) ∧ ys.Pairwise fun x y => decide (keyA y x < 0) = false) ∨
  (k = 2 ∧ ∃ A B, ys = A ++ B ∧ A.Perm (ls.filter risP) ∧ (A.Pairwise fun x y => decide (keyA y x < 0) = false) ∧ B.Perm (ls.filter fun x => !risP x) ∧ B.Pairwise fun x y => decide (keyB y x < 0) = false)
theorem HalfS.len {ls ys : List Pz} {k : Int} (h : HalfS ls k ys) : ys.length ≤ ls.length := by
  rcases h with ⟨_, rfl⟩ | ⟨_, h, _⟩ | ⟨_, A, B, rfl, hA, _, hB, _⟩
  · simp
  · rw [h.length_eq]; exact List.length_filter_le _ _
  · have := ((hA.append hB).trans (List.filter_append_perm risP ls)).length_eq; omega

set_option maxRecDepth 8000 in
set_option maxHeartbeats 1000000 in
theorem inHalves_any (a : Option Addr) (n cap : Nat) (ls : List Pz) (H : Nat) (w : World) (h : PassS w a n cap ls) (hq : psB ls = true)
    (e0 : w.cell? ⟨H, 0, none⟩ = some (.func (.func 29) #[] #[])) (e1 : w.cell? ⟨H, 1, none⟩ = some (.func (.func 30) #[] #[])) (e2 : w.cell? ⟨H, 2, none⟩ = some (.func (.func 31) #[] #[])) (e3 : w.cell? ⟨H, 3, none⟩ = some (.func (.func 32) #[] #[])) :
    Calls Try.prog 28 #[.slice a n cap, .slice (some ⟨H, 0, none⟩) 2 2] w fun e w' => ∃ g c ys, e = .returned (.slice (some ⟨g, 0, none⟩) ys.length c) ∧ OwnPass w' w.heap.size g c ys ∧ IsJ ls ys ∧ Below w.heap.size w w' := by
  have hlen := h.len
  have hm := h.mx
  have hle := h.le
  have ho := psB_t hq
  have hn40 : n ≤ 40 := by have := ho.n; omega
  unfold maxLen at hm
  obtain ⟨i1, hj, hj0, hj1, hj2⟩ := info_parts infoPass
  have hH : H < w.heap.size := World.block_lt_of_cell? w _ e0
  have hmk := run_makeRoom n (by omega)
  go_enter Try.func28, Try.ntmps28
  go_wp2
  have bx : Below w.heap.size w (w.alloc (.cells (madeCells #[.int .i64 0, .int .i64 0, .int .i64 0] (n * 3)) 31)) := box_below0
  have own0 : OwnPass (w.alloc (.cells (madeCells #[.int .i64 0, .int .i64 0, .int .i64 0] (n * 3)) 31)) w.heap.size w.heap.size n [] :=
    ⟨World.ownsRow_made w _ n (Nat.le_refl _) (by unfold maxLen; omega) (by simp [size_madeCells]), Nat.zero_le _, by unfold maxLen; omega, Nat.le_refl _, by simp⟩
  clear hmk
  go_loopw [5, 16] (fun u i wr => ∃ (k : Int) (g c : Nat) (ys : List Pz), i = .int .i64 k ∧ u = .slice (some ⟨g, 0, none⟩) ys.length c ∧ Hid (OwnPass wr w.heap.size g c ys) ∧ Hid (HalfS ls k ys) ∧ 0 ≤ k ∧ k ≤ 2 ∧ Below w.heap.size w wr) (fun _ i _ => (2 - intOf i).toNat)
  case atStart => exact ⟨0, _, n, [], rfl, rfl, own0, Or.inl ⟨rfl, rfl⟩, by omega, by omega, bx⟩
  case round =>
    obtain ⟨k, gr, cr, ys, rfl, rfl, HR, HS, hk0, hk2, hw⟩ := hrel
    rename World => wo
    have zw := hw.size
    have yl := HS.out.len
    have E0 : wo.cell? ⟨H, 0, none⟩ = some (.func (.func 29) #[] #[]) := (hw.cell (p := ⟨H, 0, none⟩) hH).trans e0
    have E1 : wo.cell? ⟨H, 1, none⟩ = some (.func (.func 30) #[] #[]) := (hw.cell (p := ⟨H, 1, none⟩) hH).trans e1
    have E2 : wo.cell? ⟨H, 2, none⟩ = some (.func (.func 31) #[] #[]) := (hw.cell (p := ⟨H, 2, none⟩) hH).trans e2
    have E3 : wo.cell? ⟨H, 3, none⟩ = some (.func (.func 32) #[] #[]) := (hw.cell (p := ⟨H, 3, none⟩) hH).trans e3
    have hHo : H < wo.heap.size := by omega
    obtain rfl | rfl | rfl : k = 0 ∨ k = 1 ∨ k = 2 := by omega
    · go_wp2
      obtain ⟨W2, hW2⟩ : ∃ W2, W2 = wo.alloc (.cells #[.func (.func 29) #[] #[], .func (.func 30) #[] #[]] 45) := ⟨_, rfl⟩
      have B2 : Below wo.heap.size wo W2 := by rw [hW2]; exact box_below0
      have z2 : W2.heap.size = wo.heap.size + 1 := by rw [hW2]; simp
      have H0 : W2.cell? ⟨wo.heap.size, 0, none⟩ = some (.func (.func 29) #[] #[]) := by rw [hW2]; simp
      have H1 : W2.cell? ⟨wo.heap.size, 1, none⟩ = some (.func (.func 30) #[] #[]) := by rw [hW2]; simp
      rw [← hW2]
      clear hW2 E0 E1 E2 E3
      have hs2 : PassS W2 a n cap ls := h.below (hw.then B2 zw)
      have ownI : OwnPass (W2.alloc (.cells #[] 31)) (wo.heap.size + 1) (wo.heap.size + 1) 0 [] := by have := ownPass_nil W2; rwa [z2] at this
      have bI : Below (wo.heap.size + 1) W2 (W2.alloc (.cells #[] 31)) := by have := box_below0 (w := W2) (o := .cells #[] 31); rwa [z2] at this
      go_loopw [8, 23] (fun v i wr => ∃ (m g uc : Nat) (zs : List Pz), m ≤ n ∧ i = .int .i64 m ∧ v = .slice (some ⟨g, 0, none⟩) zs.length uc ∧ Hid (OwnPass wr (wo.heap.size + 1) g uc zs) ∧ Hid (zs = (ls.take m).filter risP) ∧ zs.length ≤ m ∧ Below (wo.heap.size + 1) W2 wr) (fun _ i _ => n - (intOf i).toNat)
      case atStart => exact ⟨0, _, 0, [], by omega, rfl, rfl, ownI, by simp [Hid], by simp, bI⟩
      case round =>
        obtain ⟨m, g, uc, zs, hmn, rfl, rfl, HO, HF, hzl, hwi⟩ := hrel
        rename World => wr
        have zr := hwi.size
        by_cases hlt : m < n
        · obtain ⟨b, off, rfl, hbw, hat⟩ := hs2.at_ (by omega)
          obtain ⟨hc0, hc1, hc2⟩ := (hat.below hwi (by omega)).row (i := m) (by omega)
          have hlt' : (m : Int) < (n : Int) := by omega
          have A1 : Below wr.heap.size wr (wr.alloc (.cells #[.int .i64 (pzg ls m).id, .int .i64 (pzg ls m).a, .int .i64 (pzg ls m).b] 31)) := box_below0
          have hf : ∀ o, (wr.alloc o).cell? ⟨wo.heap.size, 0, none⟩ = some (.func (.func 29) #[] #[]) := fun o => (World.cell?_alloc_lt _ _ _ (by simp; omega)).trans ((hwi.cell (p := ⟨wo.heap.size, 0, none⟩) (by simp)).trans H0)
          have FS := filter_step (ls := ls) (p := risP) (m := m) (by omega)
          have BK : ∀ W, GrS (wr.alloc (.cells #[.int .i64 (pzg ls m).id, .int .i64 (pzg ls m).a, .int .i64 (pzg ls m).b] 31)) W → Below wr.heap.size wr W := fun W hW => A1.then hW.below (by simp)
          rcases hp : risP (pzg ls m) with _ | _
          · have HFn : Hid (zs = (ls.take (m + 1)).filter risP) := by unfold Hid; rw [FS]; simp [hp]; exact HF.out
            go_wp2_with (go_at_call 29; refine (rises_any (pzg ls m) _).mono ?_; rw [hp]; rintro e w4 ⟨rfl, hg4⟩)
            go_roundw
            case rel => exact ⟨m + 1, g, uc, zs, by omega, by go_num, rfl, HO.out.below (BK _ hg4), HFn, by omega, hwi.then (BK _ hg4) (by omega)⟩
            case measure => simp [intOf]; omega
          · have HFn : Hid (zs ++ [pzg ls m] = (ls.take (m + 1)).filter risP) := by unfold Hid; rw [FS]; simp [hp]; exact HF.out
            have KQ : Hid (∀ W, GrS (wr.alloc (.cells #[.int .i64 (pzg ls m).id, .int .i64 (pzg ls m).a, .int .i64 (pzg ls m).b] 31)) W → W.cell? ⟨wr.heap.size, 0, none⟩ = some (.int .i64 (pzg ls m).id) ∧ W.cell? ⟨wr.heap.size, 1, none⟩ = some (.int .i64 (pzg ls m).a) ∧ W.cell? ⟨wr.heap.size, 2, none⟩ = some (.int .i64 (pzg ls m).b)) := fun W hW => by
              have hc : ∀ o, W.cell? ⟨wr.heap.size, o, none⟩ = (wr.alloc (.cells #[.int .i64 (pzg ls m).id, .int .i64 (pzg ls m).a, .int .i64 (pzg ls m).b] 31)).cell? ⟨wr.heap.size, o, none⟩ := fun o => hW.cell (a := ⟨wr.heap.size, o, none⟩) (by simp)
              rw [hc, hc, hc]; simp
            have lo := HO.out.base
            go_wp2_with (first
              | (go_at_call 29; refine (rises_any (pzg ls m) _).mono ?_; rw [hp]; rintro e w4 ⟨rfl, hg4⟩; obtain ⟨q0, q1, q2⟩ := KQ.out w4 hg4; have z4 : wr.heap.size ≤ w4.heap.size := (BK _ hg4).size; have OA := HO.out.below ((BK _ hg4).alloc z4 (.cells #[.int .i64 (pzg ls m).id, .int .i64 (pzg ls m).a, .int .i64 (pzg ls m).b] 31)); have HN : Hid _ := newPass_plain w4 (pzg ls m) 31)
              | (at_builtin; refine wpList_append_own_at _ rfl (.tmp 31) (.tmp 33) 24 rfl (wo.heap.size + 1) 31 i1 (.agg #[.int .i64 0, .int .i64 0, .int .i64 0]) 3 24 Try.underlying24 hj hj0 hj1 hj2 rfl (by decide) _ _ _ rfl OA.own ⟨w4.heap.size, 0, none⟩ 1 1 [.int .i64 (pzg ls m).id, .int .i64 (pzg ls m).a, .int .i64 (pzg ls m).b] rfl rfl HN.out (pzl_one (pzg ls m)) (by unfold maxLen; omega) (by omega) (by simp; omega) ?_))
            intro v5 w5 own5 grow5 nil5 at5
            obtain ⟨g5, c5, rfl, O5⟩ := ownPass_of' (ys := zs ++ [pzg ls m]) own5 (by simp) (by rw [pzcells_app]; rfl) (fun e => by first | exact nil5 e | (have := (nil5.1 e).2; omega))
            have B5 : Below (wo.heap.size + 1) W2 w5 := ((hwi.then (BK _ hg4) (by omega)).alloc (by omega) _).grown grow5 (by simp; omega) (fun r e => by have e' : g = r := Option.some.inj e; omega)
            clear own5 grow5 nil5 at5 OA HN
            go_wp2
            go_roundw
            case rel => exact ⟨m + 1, g5, c5, zs ++ [pzg ls m], by omega, by go_num, by simp, O5, HFn, by simp; omega, B5⟩
            case measure => simp [intOf]; omega
        · have e : m = n := by omega
          subst e
          have hzs : Hid (zs = ls.filter risP) := by have := HF.out; unfold Hid; rwa [List.take_of_length_le (by omega)] at this
          have wz : ∀ i, i < zs.length → pzwf (pzg zs i) := fun i hi => by
            have hsub : ∀ x ∈ zs, x ∈ ls := by rw [hzs.out]; exact fun x hx => (List.mem_filter.1 hx).1
            have hmem : pzg zs i ∈ ls := hsub _ (by rw [pzg_get hi]; exact List.getElem_mem hi)
            obtain ⟨j, hjl, e⟩ := List.getElem_of_mem hmem
            rw [← e, ← pzg_get hjl]
            exact h.wf j (by omega)
          have SZ : PassS wr (some ⟨g, 0, none⟩) zs.length uc zs := HO.out.toS wz
          have h1r : wr.cell? ⟨wo.heap.size, 1, none⟩ = some (.func (.func 30) #[] #[]) := (hwi.cell (p := ⟨wo.heap.size, 1, none⟩) (by simp)).trans H1
          have BO : Below wo.heap.size wo wr := B2.trans (hwi.mono (by omega))
          have lr := HR.out.lt
          have br := HR.out.base
          have yl' : ys.length ≤ 40 := by omega
          have zl' : zs.length ≤ 40 := by omega
          go_wp2_with (first
            | (go_at_call 44; refine (then_makeP _ _ _).mono ?_; rintro e w6 ⟨rfl, hw6⟩; have HW6 : Hid _ := hw6; clear hw6)
            | (go_at_call 45; refine (sortedByA wr w6 HW6.out (some ⟨g, 0, none⟩) zs.length uc zs SZ (by omega)).mono ?_; rintro e w7 ⟨B7, ys7, rfl, hB7, p7, l7, s7, J7, b7⟩; have B7o : Below wo.heap.size wo w7 := BO.then b7 BO.size; have OR := HR.out.below B7o; have HC : Hid _ := J7.cells l7)
            | (at_builtin; refine wpList_append_own_at _ rfl (.tmp 36) (.tmp 41) 24 rfl w.heap.size 31 i1 (.agg #[.int .i64 0, .int .i64 0, .int .i64 0]) 3 24 Try.underlying24 hj hj0 hj1 hj2 rfl (by decide) _ _ _ rfl OR.own ⟨B7, 0, none⟩ zs.length zs.length (pzcells ys7) rfl (by rw [pzcells_len, l7]) HC.out (pzcells_one _) (by unfold maxLen; omega) (by omega) (by have := B7o.size; omega) ?_))
          intro v8 w8 own8 grow8 nil8 at8
          obtain ⟨g8, c8, rfl, O8⟩ := ownPass_of' (ys := ys ++ ys7) own8 (by simp; omega) (by rw [pzcells_app]) nil8
          have B8 : Below w.heap.size w w8 := (hw.then B7o zw).grown grow8 (by have := B7o.size; omega) (fun r e => by have e' : gr = r := Option.some.inj e; omega)
          have HSn : Hid (HalfS ls 1 (ys ++ ys7)) := by
            rw [hzs.out] at p7
            rcases HS.out with ⟨_, rfl⟩ | ⟨h9, _⟩ | ⟨h9, _⟩
            · exact Or.inr (Or.inl ⟨rfl, by simpa using p7, by simpa using s7⟩)
            · omega
            · omega
          clear own8 grow8 nil8 at8 OR
          go_wp2
          go_roundw
          case rel => exact ⟨1, g8, c8, ys ++ ys7, by go_num, by simp [l7], O8, HSn, by omega, by omega, B8⟩
          case measure => simp [intOf]
    · go_wp2
      obtain ⟨W2, hW2⟩ : ∃ W2, W2 = wo.alloc (.cells #[.func (.func 31) #[] #[], .func (.func 32) #[] #[]] 45) := ⟨_, rfl⟩
      have B2 : Below wo.heap.size wo W2 := by rw [hW2]; exact box_below0
      have z2 : W2.heap.size = wo.heap.size + 1 := by rw [hW2]; simp
      have H0 : W2.cell? ⟨wo.heap.size, 0, none⟩ = some (.func (.func 31) #[] #[]) := by rw [hW2]; simp
      have H1 : W2.cell? ⟨wo.heap.size, 1, none⟩ = some (.func (.func 32) #[] #[]) := by rw [hW2]; simp
      rw [← hW2]
      clear hW2 E0 E1 E2 E3
      have hs2 : PassS W2 a n cap ls := h.below (hw.then B2 zw)
      have ownI : OwnPass (W2.alloc (.cells #[] 31)) (wo.heap.size + 1) (wo.heap.size + 1) 0 [] := by have := ownPass_nil W2; rwa [z2] at this
      have bI : Below (wo.heap.size + 1) W2 (W2.alloc (.cells #[] 31)) := by have := box_below0 (w := W2) (o := .cells #[] 31); rwa [z2] at this
      go_loopw [8, 23] (fun v i wr => ∃ (m g uc : Nat) (zs : List Pz), m ≤ n ∧ i = .int .i64 m ∧ v = .slice (some ⟨g, 0, none⟩) zs.length uc ∧ Hid (OwnPass wr (wo.heap.size + 1) g uc zs) ∧ Hid (zs = (ls.take m).filter (fun x => !risP x)) ∧ zs.length ≤ m ∧ Below (wo.heap.size + 1) W2 wr) (fun _ i _ => n - (intOf i).toNat)
      case atStart => exact ⟨0, _, 0, [], by omega, rfl, rfl, ownI, by simp [Hid], by simp, bI⟩
      case round =>
        obtain ⟨m, g, uc, zs, hmn, rfl, rfl, HO, HF, hzl, hwi⟩ := hrel
        rename World => wr
        have zr := hwi.size
        by_cases hlt : m < n
        · obtain ⟨b, off, rfl, hbw, hat⟩ := hs2.at_ (by omega)
          obtain ⟨hc0, hc1, hc2⟩ := (hat.below hwi (by omega)).row (i := m) (by omega)
          have hlt' : (m : Int) < (n : Int) := by omega
          have A1 : Below wr.heap.size wr (wr.alloc (.cells #[.int .i64 (pzg ls m).id, .int .i64 (pzg ls m).a, .int .i64 (pzg ls m).b] 31)) := box_below0
          have hf : ∀ o, (wr.alloc o).cell? ⟨wo.heap.size, 0, none⟩ = some (.func (.func 31) #[] #[]) := fun o => (World.cell?_alloc_lt _ _ _ (by simp; omega)).trans ((hwi.cell (p := ⟨wo.heap.size, 0, none⟩) (by simp)).trans H0)
          have FS := filter_step (ls := ls) (p := (fun x => !risP x)) (m := m) (by omega)
          have BK : ∀ W, GrS (wr.alloc (.cells #[.int .i64 (pzg ls m).id, .int .i64 (pzg ls m).a, .int .i64 (pzg ls m).b] 31)) W → Below wr.heap.size wr W := fun W hW => A1.then hW.below (by simp)
          rcases hp : (!risP (pzg ls m)) with _ | _
          · have HFn : Hid (zs = (ls.take (m + 1)).filter (fun x => !risP x)) := by unfold Hid; rw [FS]; simp [hp]; exact HF.out
            go_wp2_with (go_at_call 31; refine (falls_any (pzg ls m) _).mono ?_; rw [hp]; rintro e w4 ⟨rfl, hg4⟩)
            go_roundw
            case rel => exact ⟨m + 1, g, uc, zs, by omega, by go_num, rfl, HO.out.below (BK _ hg4), HFn, by omega, hwi.then (BK _ hg4) (by omega)⟩
            case measure => simp [intOf]; omega
          · have HFn : Hid (zs ++ [pzg ls m] = (ls.take (m + 1)).filter (fun x => !risP x)) := by unfold Hid; rw [FS]; simp [hp]; exact HF.out
            have KQ : Hid (∀ W, GrS (wr.alloc (.cells #[.int .i64 (pzg ls m).id, .int .i64 (pzg ls m).a, .int .i64 (pzg ls m).b] 31)) W → W.cell? ⟨wr.heap.size, 0, none⟩ = some (.int .i64 (pzg ls m).id) ∧ W.cell? ⟨wr.heap.size, 1, none⟩ = some (.int .i64 (pzg ls m).a) ∧ W.cell? ⟨wr.heap.size, 2, none⟩ = some (.int .i64 (pzg ls m).b)) := fun W hW => by
              have hc : ∀ o, W.cell? ⟨wr.heap.size, o, none⟩ = (wr.alloc (.cells #[.int .i64 (pzg ls m).id, .int .i64 (pzg ls m).a, .int .i64 (pzg ls m).b] 31)).cell? ⟨wr.heap.size, o, none⟩ := fun o => hW.cell (a := ⟨wr.heap.size, o, none⟩) (by simp)
              rw [hc, hc, hc]; simp
            have lo := HO.out.base
            go_wp2_with (first
              | (go_at_call 31; refine (falls_any (pzg ls m) _).mono ?_; rw [hp]; rintro e w4 ⟨rfl, hg4⟩; obtain ⟨q0, q1, q2⟩ := KQ.out w4 hg4; have z4 : wr.heap.size ≤ w4.heap.size := (BK _ hg4).size; have OA := HO.out.below ((BK _ hg4).alloc z4 (.cells #[.int .i64 (pzg ls m).id, .int .i64 (pzg ls m).a, .int .i64 (pzg ls m).b] 31)); have HN : Hid _ := newPass_plain w4 (pzg ls m) 31)
              | (at_builtin; refine wpList_append_own_at _ rfl (.tmp 31) (.tmp 33) 24 rfl (wo.heap.size + 1) 31 i1 (.agg #[.int .i64 0, .int .i64 0, .int .i64 0]) 3 24 Try.underlying24 hj hj0 hj1 hj2 rfl (by decide) _ _ _ rfl OA.own ⟨w4.heap.size, 0, none⟩ 1 1 [.int .i64 (pzg ls m).id, .int .i64 (pzg ls m).a, .int .i64 (pzg ls m).b] rfl rfl HN.out (pzl_one (pzg ls m)) (by unfold maxLen; omega) (by omega) (by simp; omega) ?_))
            intro v5 w5 own5 grow5 nil5 at5
            obtain ⟨g5, c5, rfl, O5⟩ := ownPass_of' (ys := zs ++ [pzg ls m]) own5 (by simp) (by rw [pzcells_app]; rfl) (fun e => by first | exact nil5 e | (have := (nil5.1 e).2; omega))
            have B5 : Below (wo.heap.size + 1) W2 w5 := ((hwi.then (BK _ hg4) (by omega)).alloc (by omega) _).grown grow5 (by simp; omega) (fun r e => by have e' : g = r := Option.some.inj e; omega)
            clear own5 grow5 nil5 at5 OA HN
            go_wp2
            go_roundw
            case rel => exact ⟨m + 1, g5, c5, zs ++ [pzg ls m], by omega, by go_num, by simp, O5, HFn, by simp; omega, B5⟩
            case measure => simp [intOf]; omega
        · have e : m = n := by omega
          subst e
          have hzs : Hid (zs = ls.filter (fun x => !risP x)) := by have := HF.out; unfold Hid; rwa [List.take_of_length_le (by omega)] at this
          have wz : ∀ i, i < zs.length → pzwf (pzg zs i) := fun i hi => by
            have hsub : ∀ x ∈ zs, x ∈ ls := by rw [hzs.out]; exact fun x hx => (List.mem_filter.1 hx).1
            have hmem : pzg zs i ∈ ls := hsub _ (by rw [pzg_get hi]; exact List.getElem_mem hi)
            obtain ⟨j, hjl, e⟩ := List.getElem_of_mem hmem
            rw [← e, ← pzg_get hjl]
            exact h.wf j (by omega)
          have SZ : PassS wr (some ⟨g, 0, none⟩) zs.length uc zs := HO.out.toS wz
          have h1r : wr.cell? ⟨wo.heap.size, 1, none⟩ = some (.func (.func 32) #[] #[]) := (hwi.cell (p := ⟨wo.heap.size, 1, none⟩) (by simp)).trans H1
          have BO : Below wo.heap.size wo wr := B2.trans (hwi.mono (by omega))
          have lr := HR.out.lt
          have br := HR.out.base
          have yl' : ys.length ≤ 40 := by omega
          have zl' : zs.length ≤ 40 := by omega
          go_wp2_with (first
            | (go_at_call 44; refine (then_makeP _ _ _).mono ?_; rintro e w6 ⟨rfl, hw6⟩; have HW6 : Hid _ := hw6; clear hw6)
            | (go_at_call 45; refine (sortedByB wr w6 HW6.out (some ⟨g, 0, none⟩) zs.length uc zs SZ (by omega)).mono ?_; rintro e w7 ⟨B7, ys7, rfl, hB7, p7, l7, s7, J7, b7⟩; have B7o : Below wo.heap.size wo w7 := BO.then b7 BO.size; have OR := HR.out.below B7o; have HC : Hid _ := J7.cells l7)
            | (at_builtin; refine wpList_append_own_at _ rfl (.tmp 36) (.tmp 41) 24 rfl w.heap.size 31 i1 (.agg #[.int .i64 0, .int .i64 0, .int .i64 0]) 3 24 Try.underlying24 hj hj0 hj1 hj2 rfl (by decide) _ _ _ rfl OR.own ⟨B7, 0, none⟩ zs.length zs.length (pzcells ys7) rfl (by rw [pzcells_len, l7]) HC.out (pzcells_one _) (by unfold maxLen; omega) (by omega) (by have := B7o.size; omega) ?_))
          intro v8 w8 own8 grow8 nil8 at8
          obtain ⟨g8, c8, rfl, O8⟩ := ownPass_of' (ys := ys ++ ys7) own8 (by simp; omega) (by rw [pzcells_app]) nil8
          have B8 : Below w.heap.size w w8 := (hw.then B7o zw).grown grow8 (by have := B7o.size; omega) (fun r e => by have e' : gr = r := Option.some.inj e; omega)
          have HSn : Hid (HalfS ls 2 (ys ++ ys7)) := by
            rw [hzs.out] at p7
            rcases HS.out with ⟨h9, _⟩ | ⟨_, hA, hB⟩ | ⟨h9, _⟩
            · omega
            · exact Or.inr (Or.inr ⟨rfl, ys, ys7, rfl, hA, hB, p7, s7⟩)
            · omega
          clear own8 grow8 nil8 at8 OR
          go_wp2
          go_roundw
          case rel => exact ⟨2, g8, c8, ys ++ ys7, by go_num, by simp [l7], O8, HSn, by omega, by omega, B8⟩
          case measure => simp [intOf]
    · go_wp2
      go_ret
      refine ⟨gr, cr, ys, rfl, HR.out, ?_, hw⟩
      rcases HS.out with ⟨h9, _⟩ | ⟨h9, _⟩ | ⟨_, A, B, rfl, hA, pA, hB, pB⟩
      · omega
      · omega
      · exact isJ_halves hq hA hB pA pB

end Go.Proofs.Ytkakdodamnnplaa
