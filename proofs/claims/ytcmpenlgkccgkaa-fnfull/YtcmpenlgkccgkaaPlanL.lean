/- Left of the model. -/
import Derived.Test.YtcmpenlgkccgkaaPlanM
import Derived.Test.YtcmpenlgkccgkaaPlanS
import Derived.Test.YtcmpenlgkccgkaaProfOk
import Derived.Deep.RegionHeld3
import Derived.Deep.Cut
import Derived.Deep.CutRange
namespace Go.Proofs.Ytcmpenlgkccgkaa
open Go.RowKit Go.Sort

/-- told alike whether it can be reserved or not -/
theorem specReserve_un2 (T x y m : Int) (a : Option Addr) (n cap : Nat) (ls : List Lev) (w : World) (h : LevS w a n cap ls) :
    Calls Try.prog 44 #[.agg #[.int .i64 T, .slice a n cap], .int .i64 x, .int .i64 y, .int .i64 m] w fun e w' => ∃ (T' : Int) (v : Option Addr) (n' c' : Nat) (b : Bool), e = .returned (.tuple #[.agg #[.int .i64 T', .slice v n' c'], .bool b]) ∧ Below w.heap.size w w' ∧ b = resB T ls x y m ∧
      (b = true → ∃ g : Nat, T' = T ∧ v = some ⟨g, 0, none⟩ ∧ n' = (chgL ls x y (-m)).length ∧ w.heap.size ≤ g ∧ (chgL ls x y (-m)).length ≤ c' ∧ c' ≤ maxLen ∧ LevD w' g (chgL ls x y (-m)).length c' (chgL ls x y (-m))) := by
  refine (specReserve_any T x y m a n cap ls w h).mono ?_
  rintro e w' ⟨hb, ⟨hr, g, c, rfl, hg, hgc, hgm, hlc⟩ | ⟨hr, rfl⟩⟩
  · exact ⟨T, _, _, _, true, rfl, hb, hr.symm, fun _ => ⟨g, rfl, rfl, rfl, hg, hgc, hgm, hlc⟩⟩
  · exact ⟨0, none, 0, 0, false, rfl, hb, hr.symm, fun h => by cases h⟩

variable {T : Int} {ls : List Lev} {js : List Jb} {ss : List Int}
theorem lfK_stop {k : Nat} (h : lfK T ls js ss k = none) : ∀ d, lfK T ls js ss (k + d) = none
  | 0 => h
  | d + 1 => by
    have ih := lfK_stop h d
    rw [← Nat.add_assoc, lfK, ih]
theorem lfK_no {k m : Nat} (h : lfK T ls js ss k = none) (hk : k ≤ m) : lfK T ls js ss m = none := by
  have := lfK_stop h (m - k)
  rwa [show k + (m - k) = m by omega] at this
theorem lfK_in {k : Nat} {l : List Lev} (h : lfK T ls js ss k = some l) (hz : zg ss k < -1 ∨ 1000000000 < zg ss k) : lfK T ls js ss (k + 1) = none := by
  rw [lfK, h]; simp only; rw [if_pos hz]
theorem lfK_same {k : Nat} {l : List Lev} (h : lfK T ls js ss k = some l) (hz : zg ss k = -1 ∨ zg ss k = 1000000000) : lfK T ls js ss (k + 1) = some l := by
  rw [lfK, h]; simp only; rw [if_neg (by omega), if_pos hz]
theorem lfK_res {k : Nat} {l : List Lev} (h : lfK T ls js ss k = some l) (hz : 0 ≤ zg ss k ∧ zg ss k < 1000000000) : lfK T ls js ss (k + 1) = if resB T l (zg ss k) (laterI (zg ss k) (jg js k).long) (jg js k).cores = true then some (chgL l (zg ss k) (laterI (zg ss k) (jg js k).long) (-(jg js k).cores)) else none := by
  rw [lfK, h]; simp only; rw [if_neg (by omega), if_neg (by omega)]
theorem lfF_no (h : poB T ls = false ∨ jsB js = false ∨ ss.length ≠ js.length) : lfF T ls js ss = none := by
  unfold lfF
  rw [if_neg fun q => ?_]
  rcases h with h | h | h
  · rw [h] at q; cases q.1
  · rw [h] at q; cases q.2.1
  · exact h q.2.2
theorem lfF_t (h1 : poB T ls = true) (h2 : jsB js = true) (h3 : ss.length = js.length) : lfF T ls js ss = lfK T ls js ss js.length := if_pos ⟨h1, h2, h3⟩
theorem resB_po {l : List Lev} {x y m : Int} (h : resB T l x y m = true) : PO T (chgL l x y (-m)) := by
  unfold resB at h
  simp only [Bool.and_eq_true] at h
  exact poB_t h.2

/-- what Left answers -/
def LfAns (w w' : World) (T : Int) (T' : Int) (v : Option Addr) (n' c' : Nat) (b : Bool) : Option (List Lev) → Prop
  | none => b = false ∧ T' = 0 ∧ v = none ∧ n' = 0 ∧ c' = 0
  | some l => b = true ∧ T' = T ∧ ∃ g : Nat, v = some ⟨g, 0, none⟩ ∧ n' = l.length ∧ w.heap.size ≤ g ∧ l.length ≤ c' ∧ c' ≤ maxLen ∧ LevD w' g l.length c' l

/-- the boxes of what is left (P) and of the answer (R) -/
structure LfW (w W : World) (P R : Nat) (T : Int) (g c : Nat) (l : List Lev) : Prop where
  bel : Below w.heap.size w W
  box : W.heap[P]? = some (.cells #[.int .i64 T, .slice (some ⟨g, 0, none⟩) l.length c] 38 (0, 0))
  res : W.heap[R]? = some (.cells #[.int .i64 0, .slice none 0 0] 38 (0, 0))
  lev : LevD W g l.length c l
  le : l.length ≤ c
  mx : c ≤ maxLen
  g0 : w.heap.size ≤ g
  p0 : w.heap.size ≤ P
  r0 : w.heap.size ≤ R
  gp : g ≠ P
  gr : g ≠ R
  pr : P ≠ R
variable {w W W' : World} {P R g c : Nat} {l : List Lev}
theorem LfW.below (h : LfW w W P R T g c l) (hb : Below W.heap.size W W') : LfW w W' P R T g c l :=
  ⟨h.bel.then hb h.bel.size, (hb.block P (lt_of_block h.box)).trans h.box, (hb.block R (lt_of_block h.res)).trans h.res, h.lev.below hb, h.le, h.mx, h.g0, h.p0, h.r0, h.gp, h.gr, h.pr⟩
theorem LfW.levs (h : LfW w W P R T g c l) (po : PO T l) : LevS W (some ⟨g, 0, none⟩) l.length c l :=
  h.lev.toS rfl h.le h.mx (wf_of_bd fun i hi => by have := po.el i hi; have := po.pos hi; have := po.t1; omega)
theorem LfW.put (h : LfW w W P R T g c l) {g' c2 : Nat} {l2 : List Lev} (hl : LevD W g' l2.length c2 l2) (hc : l2.length ≤ c2) (hm : c2 ≤ maxLen) (h0 : w.heap.size ≤ g') (hP : g' ≠ P) (hR : g' ≠ R) :
    LfW w ((W.setCell ⟨P, 0, none⟩ (.int .i64 T)).setCell ⟨P, 1, none⟩ (.slice (some ⟨g', 0, none⟩) l2.length c2)) P R T g' c2 l2 := by
  obtain ⟨q0, q1⟩ := Proofs.Ytcmpenlgkccgkaa.set2 h.box (.int .i64 T) (.slice (some ⟨g', 0, none⟩) l2.length c2)
  exact ⟨(h.bel.setCell h.p0 _).setCell h.p0 _, q0, (q1 R h.pr.symm).trans h.res, hl.blk (q1 g' hP), hc, hm, h0, h.p0, h.r0, hP, hR, h.pr⟩

set_option maxRecDepth 8000 in
set_option maxHeartbeats 8000000 in
theorem specLeft_any (T : Int) (a b a2 : Option Addr) (n cap nb capb n2 cap2 : Nat) (ls : List Lev) (js : List Jb) (ss : List Int) (w : World) (h : LevS w a n cap ls) (hjs : JobS w b nb capb js) (hss : IntS w a2 n2 cap2 ss) :
    Calls Try.prog 15 #[.agg #[.int .i64 T, .slice a n cap], .slice b nb capb, .slice a2 n2 cap2] w fun e w' => ∃ (T' : Int) (v : Option Addr) (n' c' : Nat) (b : Bool), e = .returned (.tuple #[.agg #[.int .i64 T', .slice v n' c'], .bool b]) ∧ Below w.heap.size w w' ∧ LfAns w w' T T' v n' c' b (lfF T ls js ss) := by
  have hlenb := hjs.len
  have hlen2 := hss.len
  have hmxb := hjs.mx
  have hleb := hjs.le
  unfold maxLen at hmxb
  have hlen := h.len
  subst hlen
  have hmo : Try.prog.follows .mixedOrders = true := by kernel_rfl
  obtain ⟨w0, hw0⟩ : ∃ w0, w0 = (w.alloc (.cells #[.int .i64 T, .slice a ls.length cap] 38)).alloc (.cells #[.int .i64 0, .slice none 0 0] 38) := ⟨_, rfl⟩
  have B0 : Below w.heap.size w w0 := by rw [hw0]; exact box_below.alloc (by simp) _
  have ba0 : w0.heap[w.heap.size]? = some (.cells #[.int .i64 T, .slice a ls.length cap] 38 (0, 0)) := by rw [hw0]; exact (Below.heap_alloc _ _ _ (by simp)).trans (heap_alloc_new _ _)
  have br0 : w0.heap[w.heap.size + 1]? = some (.cells #[.int .i64 0, .slice none 0 0] 38 (0, 0)) := by rw [hw0]; simpa using heap_alloc_new (w.alloc (.cells #[.int .i64 T, .slice a ls.length cap] 38)) (.cells #[.int .i64 0, .slice none 0 0] 38)
  have HW0 : Hid (w0 = (w.alloc (.cells #[.int .i64 T, .slice a ls.length cap] 38)).alloc (.cells #[.int .i64 0, .slice none 0 0] 38)) := hw0
  have HA0 : Hid _ := ba0
  have HR0 : Hid _ := br0
  have zr0 := lt_of_block br0
  clear hw0 ba0 br0
  obtain ⟨r, hr⟩ : ∃ r, r = lfF T ls js ss := ⟨_, rfl⟩
  have HR : Hid (r = lfF T ls js ss) := hr
  rw [← hr]
  clear hr
  have hr0 : w.heap.size ≤ w.heap.size + 1 := by omega
  go_enter Try.func15, Try.ntmps15
  go_wp2_with fail
  rw [← HW0.out]
  refine (specProfileOk_any T a _ cap ls _ (h.below B0)).mono ?_
  rintro e w1 ⟨e1, hb1⟩
  have B1 : Below w.heap.size w w1 := B0.then hb1 B0.size
  have HA1 : Hid _ := (hb1.block _ (lt_of_block HA0.out)).trans HA0.out
  have HR1 : Hid _ := (hb1.block _ (lt_of_block HR0.out)).trans HR0.out
  rcases hp : poB T ls with _ | _
  · rw [hp] at e1
    subst e1
    have HE : Hid _ := lfF_no (T := T) (ls := ls) (js := js) (ss := ss) (Or.inl hp)
    obtain ⟨x0, x1, x2, x3⟩ := boxed HR1.out
    go_wp2
    obtain ⟨q0, q1⟩ := Proofs.Ytcmpenlgkccgkaa.set2 HR1.out (.int .i64 0) (.slice none 0 0)
    obtain ⟨y0, y1, _, _⟩ := boxed q0
    have BF : Below w.heap.size w ((w1.setCell ⟨w.heap.size + 1, 0, none⟩ (.int .i64 0)).setCell ⟨w.heap.size + 1, 1, none⟩ (.slice none 0 0)) := (B1.setCell hr0 _).setCell hr0 _
    exact bodyPost_ret (v := .tuple #[.agg #[.int .i64 0, .slice none 0 0], .bool false]) (by simp [results, Try.results15, go_sem, y0, y1]) rfl ⟨_, _, _, _, _, rfl, BF, by rw [HR.out, HE.out]; exact ⟨rfl, rfl, rfl, rfl, rfl⟩⟩
  rw [hp] at e1
  subst e1
  go_wp2_with fail
  refine (specJobsOk_any b nb capb js _ (hjs.below B1)).mono ?_
  rintro e w2 ⟨e2, hb2⟩
  have B2 : Below w.heap.size w w2 := B1.then hb2 B1.size
  have HA2 : Hid _ := (hb2.block _ (lt_of_block HA1.out)).trans HA1.out
  have HR2 : Hid _ := (hb2.block _ (lt_of_block HR1.out)).trans HR1.out
  rcases hq : jsB js with _ | _
  · rw [hq] at e2
    subst e2
    have HE : Hid _ := lfF_no (T := T) (ls := ls) (js := js) (ss := ss) (Or.inr (Or.inl hq))
    obtain ⟨x0, x1, x2, x3⟩ := boxed HR2.out
    go_wp2
    obtain ⟨q0, q1⟩ := Proofs.Ytcmpenlgkccgkaa.set2 HR2.out (.int .i64 0) (.slice none 0 0)
    obtain ⟨y0, y1, _, _⟩ := boxed q0
    have BF : Below w.heap.size w ((w2.setCell ⟨w.heap.size + 1, 0, none⟩ (.int .i64 0)).setCell ⟨w.heap.size + 1, 1, none⟩ (.slice none 0 0)) := (B2.setCell hr0 _).setCell hr0 _
    exact bodyPost_ret (v := .tuple #[.agg #[.int .i64 0, .slice none 0 0], .bool false]) (by simp [results, Try.results15, go_sem, y0, y1]) rfl ⟨_, _, _, _, _, rfl, BF, by rw [HR.out, HE.out]; exact ⟨rfl, rfl, rfl, rfl, rfl⟩⟩
  rw [hq] at e2
  subst e2
  by_cases hl : n2 = nb
  · subst hl
    have hnn : ((n2 : Int) != (n2 : Int)) = false := by simp
    have HF : Hid (lfF T ls js ss = lfK T ls js ss js.length) := lfF_t hp hq (by omega)
    have po := poB_t hp
    have HJ := jsB_t hq
    obtain ⟨x0, x1, x2, x3⟩ := boxed HA2.out
    clear hp hq
    go_wp2_with fail
    refine (l2Copy_any T a ls.length cap ls _ (h.below B2) (by have := po.n1; omega) (by have := po.n2; omega)).mono ?_
    rintro e w3 ⟨g0, c0, rfl, hg0, hgc0, hgm0, hl3, hb3⟩
    have B3 := B2.then hb3 B2.size
    have br3 := (hb3.block _ (lt_of_block HR2.out)).trans HR2.out
    have zr3 := lt_of_block br3
    have zg3 := hl3.lt
    have hz2 := B2.size
    have hz3 := B3.size
    obtain ⟨W4, hW4⟩ : ∃ W4, W4 = w3.alloc (.cells #[.int .i64 T, .slice (some ⟨g0, 0, none⟩) ls.length c0] 38) := ⟨_, rfl⟩
    have L0 : LfW w W4 w3.heap.size (w.heap.size + 1) T g0 c0 ls := by
      rw [hW4]
      refine ⟨B3.alloc hz3 _, heap_alloc_new _ _, (Below.heap_alloc _ _ _ zr3).trans br3, hl3.below box_below, hgc0, hgm0, ?_, hz3, by omega, by omega, ?_, by omega⟩
      · omega
      · have := lt_of_block HR2.out; omega
    have HW4 : Hid (W4 = w3.alloc (.cells #[.int .i64 T, .slice (some ⟨g0, 0, none⟩) ls.length c0] 38)) := hW4
    clear hW4 x0 x1 x2 x3 br3
    go_upto_region 4 with fail
    rw [← HW4.out]
    generalize w3.heap.size = P at L0 ⊢
    clear HW4
    go_wp2
    go_loopw [9, 10, 11] (fun i _ _ wr => ∃ (k g c : Nat) (l : List Lev), k ≤ n2 ∧ i = .int .i64 k ∧ Hid (lfK T ls js ss k = some l) ∧ PO T l ∧ Hid (LfW w wr P (w.heap.size + 1) T g c l)) (fun i _ _ _ => n2 - (intOf i).toNat)
    case atStart => exact ⟨0, g0, c0, ls, by omega, rfl, rfl, po, L0⟩
    case round =>
      obtain ⟨k, g, c, l, hk, rfl, HK, pl, HW⟩ := hrel
      rename World => wr
      have hB := HW.out.bel
      have hBz := hB.size
      by_cases hlt : k < n2
      · have hcl := jok_cl (HJ.ok k (by omega)).1
        obtain ⟨b1, off, rfl, hbw, hat⟩ := (hjs.below hB).at_ (by omega)
        obtain ⟨b2, off2, rfl, hbw2, hat2⟩ := (hss.below hB).at_ (by omega)
        have c1 := (hat.job (i := k) (by omega)).2.1
        have c2 := (hat.job (i := k) (by omega)).2.2.1
        have z0 := hat2 k hlt
        have hlt' : (k : Int) < (n2 : Int) := by omega
        clear hat hat2
        rcases hin : inB (zg ss k) (-1) 1000000000 with _ | _
        · have HE : Hid (lfF T ls js ss = none) := HF.out.trans (lfK_no (lfK_in HK.out (by
            unfold inB at hin
            simp only [Bool.and_eq_false_iff, decide_eq_false_iff_not] at hin
            omega)) (by omega))
          obtain ⟨x0, x1, x2, x3⟩ := boxed HW.out.res
          go_wp2_with (go_at_call 33; refine (l1In_any _ _ _ _).mono ?_; (first | rw [hin] | rw [show inB (-1) (-1) 1000000000 = true by decide] | rw [show inB 1000000000 (-1) 1000000000 = true by decide]); rintro e w5 ⟨rfl, hq2⟩; have hq2' := hq2.symm; clear hq2; subst hq2')
          obtain ⟨q0, q1⟩ := Proofs.Ytcmpenlgkccgkaa.set2 HW.out.res (.int .i64 0) (.slice none 0 0)
          obtain ⟨y0, y1, _, _⟩ := boxed q0
          have BF : Below w.heap.size w ((wr.setCell ⟨w.heap.size + 1, 0, none⟩ (.int .i64 0)).setCell ⟨w.heap.size + 1, 1, none⟩ (.slice none 0 0)) := (HW.out.bel.setCell hr0 _).setCell hr0 _
          exact bodyPost_ret (v := .tuple #[.agg #[.int .i64 0, .slice none 0 0], .bool false]) (by simp [results, Try.results15, go_sem, y0, y1]) rfl ⟨_, _, _, _, _, rfl, BF, by rw [HR.out, HE.out]; exact ⟨rfl, rfl, rfl, rfl, rfl⟩⟩
        · have hbd : -1 ≤ zg ss k ∧ zg ss k ≤ 1000000000 := by
            unfold inB at hin
            simp only [Bool.and_eq_true, decide_eq_true_eq] at hin
            omega
          by_cases hm1 : zg ss k = -1
          · have HK2 : Hid (lfK T ls js ss (k + 1) = some l) := lfK_same HK.out (Or.inl hm1)
            have hb1' : (zg ss k == -1) = true := by simp [hm1]
            go_wp2_with (go_at_call 33; refine (l1In_any _ _ _ _).mono ?_; (first | rw [hin] | rw [show inB (-1) (-1) 1000000000 = true by decide] | rw [show inB 1000000000 (-1) 1000000000 = true by decide]); rintro e w5 ⟨rfl, hq2⟩; have hq2' := hq2.symm; clear hq2; subst hq2')
            go_roundw
            case rel => exact ⟨k + 1, g, c, l, by omega, by go_num, HK2, pl, HW⟩
            case measure => simp [intOf]; omega
          · have hb1' : (zg ss k == -1) = false := by simp [hm1]
            by_cases hm2 : zg ss k = 1000000000
            · have HK2 : Hid (lfK T ls js ss (k + 1) = some l) := lfK_same HK.out (Or.inr hm2)
              have hb2' : (zg ss k == 1000000000) = true := by simp [hm2]
              go_wp2_with (go_at_call 33; refine (l1In_any _ _ _ _).mono ?_; (first | rw [hin] | rw [show inB (-1) (-1) 1000000000 = true by decide] | rw [show inB 1000000000 (-1) 1000000000 = true by decide]); rintro e w5 ⟨rfl, hq2⟩; have hq2' := hq2.symm; clear hq2; subst hq2')
              go_roundw
              case rel => exact ⟨k + 1, g, c, l, by omega, by go_num, HK2, pl, HW⟩
              case measure => simp [intOf]; omega
            · have hb2' : (zg ss k == 1000000000) = false := by simp [hm2]
              have hz0 : 0 ≤ zg ss k := by omega
              have hz1 : zg ss k ≤ 1000000000 := by omega
              have hl0 : 0 ≤ (jg js k).long := by omega
              have hl1 : (jg js k).long ≤ 1000000000 := by omega
              have HK2 : Hid _ := lfK_res (js := js) HK.out ⟨hz0, by omega⟩
              obtain ⟨p0, p1, _, _⟩ := boxed HW.out.box
              have zP := lt_of_block HW.out.box
              have HKK : Hid (∀ W, Below wr.heap.size wr W → (W.cell? ⟨P, 0, none⟩ = some (.int .i64 T) ∧ W.cell? ⟨P, 1, none⟩ = some (.slice (some ⟨g, 0, none⟩) l.length c) ∧ W.cell? ⟨b1, off + k * 7 + 1, none⟩ = some (.int .i64 (jg js k).cores) ∧ W.cell? ⟨b1, off + k * 7 + 2, none⟩ = some (.int .i64 (jg js k).long) ∧ W.cell? ⟨b2, off2 + k, none⟩ = some (.int .i64 (zg ss k)) ∧ Below wr.heap.size wr W)) := fun W hW => by
                obtain ⟨q0, q1, _, _⟩ := boxed (HW.out.below hW).box
                have q2 := hW.block _ hbw
                have q3 := hW.block _ hbw2
                exact ⟨q0, q1, (World.cell?_of_block (a := ⟨b1, off + k * 7 + 1, none⟩) q2).trans c1, (World.cell?_of_block (a := ⟨b1, off + k * 7 + 2, none⟩) q2).trans c2, (World.cell?_of_block (a := ⟨b2, off2 + k, none⟩) q3).trans z0, hW⟩
              have KB : ∀ {W}, (W.cell? ⟨P, 0, none⟩ = some (.int .i64 T) ∧ W.cell? ⟨P, 1, none⟩ = some (.slice (some ⟨g, 0, none⟩) l.length c) ∧ W.cell? ⟨b1, off + k * 7 + 1, none⟩ = some (.int .i64 (jg js k).cores) ∧ W.cell? ⟨b1, off + k * 7 + 2, none⟩ = some (.int .i64 (jg js k).long) ∧ W.cell? ⟨b2, off2 + k, none⟩ = some (.int .i64 (zg ss k)) ∧ Below wr.heap.size wr W) → Below wr.heap.size wr W := fun h => h.2.2.2.2.2
              have HG0 : Hid (Below wr.heap.size wr wr) := Below.refl _ _
              have HG1 : Hid (Below wr.heap.size wr wr.drew) := (Below.refl _ _).drew
              have HG2 : Hid (Below wr.heap.size wr (wr.alloc (.cells #[.int .i64 0, .slice none 0 0] 38)).drew) := box_below0.drew
              have HG3 : Hid (Below wr.heap.size wr (wr.alloc (.cells #[.int .i64 0, .slice none 0 0] 38))) := box_below0
              go_upto_region 10 with ((go_at_call 33; refine (l1In_any _ _ _ _).mono ?_; rw [hin]; rintro e w5 ⟨rfl, hq2⟩; have hq2' := hq2.symm; clear hq2; subst hq2'))
              have HWW : Hid (LfW w wr P (w.heap.size + 1) T g c l) := HW.out
              have zr := lt_of_block HW.out.res
              have zgl := HW.out.lev.lt
              have hne := HW.out.gr
              have hpr := HW.out.pr
              go_cut [10, 11] from 55 to 78 (fun sb sf wx => ∃ (bx : Nat) (T' : Int) (v : Option Addr) (n' c' : Nat) (b : Bool), sb = .pointer (some ⟨bx, 0, none⟩) ∧ sf = .bool b ∧ wx.heap[bx]? = some (.cells #[.int .i64 T', .slice v n' c'] 38 (0, 0)) ∧ b = resB T l (zg ss k) (laterI (zg ss k) (jg js k).long) (jg js k).cores ∧
                (b = true → ∃ g' : Nat, T' = T ∧ v = some ⟨g', 0, none⟩ ∧ n' = (chgL l (zg ss k) (laterI (zg ss k) (jg js k).long) (-(jg js k).cores)).length ∧ wr.heap.size ≤ g' ∧ (chgL l (zg ss k) (laterI (zg ss k) (jg js k).long) (-(jg js k).cores)).length ≤ c' ∧ c' ≤ maxLen ∧ LevD wx g' (chgL l (zg ss k) (laterI (zg ss k) (jg js k).long) (-(jg js k).cores)).length c' (chgL l (zg ss k) (laterI (zg ss k) (jg js k).long) (-(jg js k).cores))) ∧ wr.heap.size ≤ bx ∧ Below wr.heap.size wr wx)
              case first =>
                go_region_held3 (fun w' => w'.cell? ⟨P, 0, none⟩ = some (.int .i64 T) ∧ w'.cell? ⟨P, 1, none⟩ = some (.slice (some ⟨g, 0, none⟩) l.length c) ∧ w'.cell? ⟨b1, off + k * 7 + 1, none⟩ = some (.int .i64 (jg js k).cores) ∧ w'.cell? ⟨b1, off + k * 7 + 2, none⟩ = some (.int .i64 (jg js k).long) ∧ w'.cell? ⟨b2, off2 + k, none⟩ = some (.int .i64 (zg ss k)) ∧ Below wr.heap.size wr w') ((refine HKK.out _ ?_; first | with_reducible exact HG1.out | with_reducible exact HG2.out | with_reducible exact HG0.out | with_reducible exact HG3.out | with_reducible exact SB | with_reducible exact SB.alloc (by omega) _ | exact (SB.setCell (by first | exact Nat.le_refl _ | (dsimp only; omega) | omega) _).setCell (by first | exact Nat.le_refl _ | (dsimp only; omega) | omega) _)) (first
                  | (go_at_call 35
                     refine (l1Later_any _ _ _ hz0 hz1 hl0 hl1).mono ?_
                     rintro e w5 ⟨rfl, rfl⟩)
                  | (go_at_call 44
                     refine (specReserve_un2 T _ _ _ _ _ _ l _ ((HWW.out.below (KB (by assumption))).levs pl)).mono ?_
                     rintro e w7 ⟨T', v, n', c', b, rfl, hb7, hpo0, hor⟩
                     have hpo : Hid _ := hpo0
                     clear hpo0
                     have SB : Below wr.heap.size wr w7 := (KB (by assumption)).then hb7 (KB (by assumption)).size
                     have z7 : wr.heap.size ≤ w7.heap.size := SB.size
                     have zc := (KB (by assumption)).size
                     first | (have NB := newblk hb7; have NC := boxed NB; have NL : wr.heap.size ≤ wr.heap.size := Nat.le_refl _) | (have NB := newblkd hb7; have NC := boxed NB; have NL : wr.heap.size ≤ wr.heap.size := Nat.le_refl _) | skip
                     clear hb7))
                all_goals
                  go_wp2_with fail
                  go_meet
                  first
                    | (refine ⟨_, T', v, n', c', b, rfl, rfl, heap_alloc_new _ _, hpo.out, fun hbt => ?_, ?_, SB.alloc z7 _⟩
                       · obtain ⟨g', h1, h2, h3, h4, h5, h6, h7⟩ := hor hbt
                         exact ⟨g', h1, h2, h3, Nat.le_trans zc h4, h5, h6, h7.below box_below⟩
                       · exact z7)
                    | (have hS := NL
                       refine ⟨_, T', v, n', c', b, rfl, rfl, (Proofs.Ytcmpenlgkccgkaa.set2 NB _ _).1, hpo.out, fun hbt => ?_, hS, (SB.setCell hS _).setCell hS _⟩
                       obtain ⟨g', h1, h2, h3, h4, h5, h6, h7⟩ := hor hbt
                       have h4' : (wr.alloc (.cells #[.int .i64 0, .slice none 0 0] 38)).heap.size ≤ g' := h4
                       simp only [World.size_alloc] at h4'
                       refine ⟨g', h1, h2, h3, ?_, h5, h6, h7.blk ((Proofs.Ytcmpenlgkccgkaa.set2 NB _ _).2 g' ?_)⟩
                       · omega
                       · omega)
              case rest =>
                obtain ⟨bx, T', v, n', c', b, rfl, rfl, hbx, hpo, hor, hbl, B6⟩ := hcut
                have D6 : Hid _ := HWW.out.below B6
                obtain ⟨s0, s1, _, _⟩ := boxed hbx
                obtain ⟨t0, t1, t2, t3⟩ := boxed D6.out.box
                obtain ⟨x0, x1, x2, x3⟩ := boxed D6.out.res
                have zP6 := lt_of_block D6.out.box
                have zb6 := lt_of_block hbx
                have hbP : bx ≠ P := by omega
                clear p0 p1 c1 c2 z0 KB HKK HG0 HG1 HG2 HG3
                cases b with
                | false =>
                  have HE : Hid (lfF T ls js ss = none) := HF.out.trans (lfK_no (HK2.out.trans (if_neg fun q => by rw [← hpo] at q; cases q)) (by omega))
                  clear hor hpo hbx s0 s1
                  go_wp2
                  obtain ⟨q0, q1⟩ := Proofs.Ytcmpenlgkccgkaa.set2 D6.out.res (.int .i64 0) (.slice none 0 0)
                  obtain ⟨y0, y1, _, _⟩ := boxed q0
                  have BF : Below w.heap.size w ((wc.setCell ⟨w.heap.size + 1, 0, none⟩ (.int .i64 0)).setCell ⟨w.heap.size + 1, 1, none⟩ (.slice none 0 0)) := (D6.out.bel.setCell hr0 _).setCell hr0 _
                  exact bodyPost_ret (v := .tuple #[.agg #[.int .i64 0, .slice none 0 0], .bool false]) (by simp [results, Try.results15, go_sem, y0, y1]) rfl ⟨_, _, _, _, _, rfl, BF, by rw [HR.out, HE.out]; exact ⟨rfl, rfl, rfl, rfl, rfl⟩⟩
                | true =>
                  obtain ⟨g', hT, rfl, rfl, hgg, hgc, hgm, hld⟩ := hor rfl
                  rw [hT] at s0 hbx
                  have HK3 : Hid _ := HK2.out.trans (if_pos hpo.symm)
                  have HP2 : Hid _ := resB_po hpo.symm
                  have HD7 : Hid _ := D6.out.put hld hgc hgm (by omega) (by omega) (by omega)
                  clear hor hpo hT hld x0 x1 x2 x3
                  go_wp2
                  go_roundw
                  case rel => first | exact ⟨k + 1, g', c', _, by omega, by go_num, HK3.out, HP2.out, HD7.out⟩ | ((repeat apply Exists.intro); exact ⟨⟨k + 1, g', c', _, by omega, by go_num, HK3.out, HP2.out, HD7.out⟩, rfl⟩)
                  case measure => first | (simp [intOf]; done) | (simp [intOf]; omega)
      · obtain rfl : k = n2 := by omega
        have HE : Hid (lfF T ls js ss = some l) := HF.out.trans (by rw [hlenb]; exact HK.out)
        obtain ⟨p0, p1, _, _⟩ := boxed HW.out.box
        obtain ⟨x0, x1, x2, x3⟩ := boxed HW.out.res
        go_wp2
        obtain ⟨q0, q1⟩ := Proofs.Ytcmpenlgkccgkaa.set2 HW.out.res (.int .i64 T) (.slice (some ⟨g, 0, none⟩) l.length c)
        obtain ⟨y0, y1, _, _⟩ := boxed q0
        have BF : Below w.heap.size w ((wr.setCell ⟨w.heap.size + 1, 0, none⟩ (.int .i64 T)).setCell ⟨w.heap.size + 1, 1, none⟩ (.slice (some ⟨g, 0, none⟩) l.length c)) := (HW.out.bel.setCell hr0 _).setCell hr0 _
        exact bodyPost_ret (v := .tuple #[.agg #[.int .i64 T, .slice (some ⟨g, 0, none⟩) l.length c], .bool true]) (by simp [results, Try.results15, go_sem, y0, y1]) rfl ⟨_, _, _, _, _, rfl, BF, by rw [HR.out, HE.out]; exact ⟨rfl, rfl, g, rfl, rfl, HW.out.g0, HW.out.le, HW.out.mx, HW.out.lev.blk (q1 g HW.out.gr)⟩⟩
  · have hnn : ((n2 : Int) != (nb : Int)) = true := by simp; omega
    have HE : Hid _ := lfF_no (T := T) (ls := ls) (js := js) (ss := ss) (Or.inr (Or.inr (by omega)))
    obtain ⟨x0, x1, x2, x3⟩ := boxed HR2.out
    go_wp2
    obtain ⟨q0, q1⟩ := Proofs.Ytcmpenlgkccgkaa.set2 HR2.out (.int .i64 0) (.slice none 0 0)
    obtain ⟨y0, y1, _, _⟩ := boxed q0
    have BF : Below w.heap.size w ((w2.setCell ⟨w.heap.size + 1, 0, none⟩ (.int .i64 0)).setCell ⟨w.heap.size + 1, 1, none⟩ (.slice none 0 0)) := (B2.setCell hr0 _).setCell hr0 _
    exact bodyPost_ret (v := .tuple #[.agg #[.int .i64 0, .slice none 0 0], .bool false]) (by simp [results, Try.results15, go_sem, y0, y1]) rfl ⟨_, _, _, _, _, rfl, BF, by rw [HR.out, HE.out]; exact ⟨rfl, rfl, rfl, rfl, rfl⟩⟩

end Go.Proofs.Ytcmpenlgkccgkaa
