/- Jobs drawn, one of them turned. -/
import Derived.Test.YtcmpenlgkccgkaaJobDraw
namespace Go.Proofs.Ytcmpenlgkccgkaa
open Go.RowKit Go.Sort

/-- one number of a job turned -/
def jset (j : Jb) (f : Nat) (z : Int) : Jb :=
  match f with
  | 0 => ⟨z, j.cores, j.long, j.due, j.wt, j.rank, j.at_⟩
  | 1 => ⟨j.id, z, j.long, j.due, j.wt, j.rank, j.at_⟩
  | 2 => ⟨j.id, j.cores, z, j.due, j.wt, j.rank, j.at_⟩
  | 3 => ⟨j.id, j.cores, j.long, z, j.wt, j.rank, j.at_⟩
  | 4 => ⟨j.id, j.cores, j.long, j.due, z, j.rank, j.at_⟩
  | 5 => ⟨j.id, j.cores, j.long, j.due, j.wt, z, j.at_⟩
  | _ => ⟨j.id, j.cores, j.long, j.due, j.wt, j.rank, z⟩

theorem jset_c (j : Jb) (f c : Nat) (z : Int) (hf : f < 7) (hc : c < 7) : jc (jset j f z) c = if c = f then z else jc j c := by
  obtain rfl | rfl | rfl | rfl | rfl | rfl | rfl : f = 0 ∨ f = 1 ∨ f = 2 ∨ f = 3 ∨ f = 4 ∨ f = 5 ∨ f = 6 := by omega
  all_goals
    obtain rfl | rfl | rfl | rfl | rfl | rfl | rfl : c = 0 ∨ c = 1 ∨ c = 2 ∨ c = 3 ∨ c = 4 ∨ c = 5 ∨ c = 6 := by omega
    all_goals rfl

theorem jset_small {j : Jb} (h : jsmall j) {f : Nat} (hf : f < 7) {z : Int} (h0 : -1 ≤ z) (h1 : z ≤ 1000000001) : jsmall (jset j f z) := by
  intro c hc
  rw [jset_c j f c z hf hc]
  split
  · omega
  · exact h c hc

theorem jcells_set (ys : List Jb) (i f : Nat) (z : Int) (hi : i < ys.length) (hf : f < 7) : jcells (ys.set i (jset (jg ys i) f z)) = (jcells ys).set (i * 7 + f) (.int .i64 z) := by
  have hl := jcells_len ys
  apply List.ext_getElem?
  intro j
  by_cases hj : j < ys.length * 7
  · have hj1 : j / 7 < ys.length := by omega
    have e1 := jcells_at (ys.set i (jset (jg ys i) f z)) (j / 7) (j % 7) (by simp; omega) (by omega)
    have e2 := jcells_at ys (j / 7) (j % 7) hj1 (by omega)
    rw [show j / 7 * 7 + j % 7 = j by omega] at e1 e2
    rw [e1, List.getElem?_set, e2]
    by_cases hji : j / 7 = i
    · have eg : jg (ys.set i (jset (jg ys i) f z)) (j / 7) = jset (jg ys i) f z := by rw [hji]; simp [jg, hi]
      rw [eg, jset_c _ _ _ _ hf (by omega), hji]
      by_cases hc : j % 7 = f
      · rw [if_pos hc, if_pos (by omega), if_pos (by omega)]
      · rw [if_neg hc, if_neg (by omega)]
    · have eg : jg (ys.set i (jset (jg ys i) f z)) (j / 7) = jg ys (j / 7) := by
        simp only [jg]; rw [List.getElem?_set_ne (by omega)]
      rw [eg, if_neg (by omega)]
  · rw [List.getElem?_eq_none (by rw [jcells_len]; simp; omega), List.getElem?_eq_none (by simp; omega)]

theorem OwnJ.store {w : World} {base g cap : Nat} {ys : List Jb} (h : OwnJ w base g cap ys) {i f : Nat} (hi : i < ys.length) (hf : f < 7) (z : Int) : OwnJ (w.setCell ⟨g, i * 7 + f, none⟩ (.int .i64 z)) base g cap (ys.set i (jset (jg ys i) f z)) := by
  have hlen : (ys.set i (jset (jg ys i) f z)).length = ys.length := by simp
  refine ⟨?_, by rw [hlen]; exact h.le, h.mx, h.base, by simpa [World.setCell] using h.lt⟩
  rw [hlen, jcells_set ys i f z hi hf]
  refine ⟨by simpa using h.own.1, ?_⟩
  rcases h.own.2 with ⟨e, _⟩ | ⟨g', cap', cur, e, hg, hgg, h1, h2, h3, h4⟩
  · cases e
  · injection e with e1 _ e3
    injection e1 with e1
    injection e1 with e1 _ _
    subst e1 e3
    refine .inr ⟨g, cap, _, rfl, hg, blk_set hgg _, h1, h2, by simpa using h3, ?_⟩
    rw [← h4, Array.toList_setIfInBounds, List.take_set]

theorem OwnJ.cell {w : World} {base g cap : Nat} {ys : List Jb} (h : OwnJ w base g cap ys) {i f : Nat} (hi : i < ys.length) (hf : f < 7) : w.cell? ⟨g, i * 7 + f, none⟩ = some (.int .i64 (jc (jg ys i) f)) ∧ w.frozen? ⟨g, i * 7 + f, none⟩ = false := by
  refine ⟨by have := h.at_ i hi f hf; rwa [Nat.zero_add] at this, ?_⟩
  rcases h.own.2 with ⟨e, _⟩ | ⟨g', cap', cur, e, hg, hgg, r⟩
  · cases e
  · injection e with e1 _ e3
    injection e1 with e1
    injection e1 with e1 _ _
    subst e1
    exact free_of_blk _ hgg

theorem allSmall.set {ys : List Jb} (h : allSmall ys) {i f : Nat} (hi : i < ys.length) (hf : f < 7) {z : Int} (h0 : -1 ≤ z) (h1 : z ≤ 1000000001) : allSmall (ys.set i (jset (jg ys i) f z)) := by
  intro y hy
  rcases List.mem_or_eq_of_mem_set hy with h2 | rfl
  · exact h y h2
  · exact jset_small (by rw [jg_get hi]; exact h _ (List.getElem_mem hi)) hf h0 h1

def tab0 : Array Value := #[.int .i64 0, .int .i64 1, .int .i64 1000000, .int .i64 1000001]
theorem tab0_at : ∀ k, k < 4 → ∃ v : Int, tab0[k]? = some (.int .i64 v) ∧ -1 ≤ v ∧ v ≤ 1000000001
  | 0, _ => ⟨_, rfl, by omega, by omega⟩
  | 1, _ => ⟨_, rfl, by omega, by omega⟩
  | 2, _ => ⟨_, rfl, by omega, by omega⟩
  | 3, _ => ⟨_, rfl, by omega, by omega⟩

def tab1 : Array Value := #[.int .i64 0, .int .i64 10000, .int .i64 10001, .int .i64 (-1)]
theorem tab1_at : ∀ k, k < 4 → ∃ v : Int, tab1[k]? = some (.int .i64 v) ∧ -1 ≤ v ∧ v ≤ 1000000001
  | 0, _ => ⟨_, rfl, by omega, by omega⟩
  | 1, _ => ⟨_, rfl, by omega, by omega⟩
  | 2, _ => ⟨_, rfl, by omega, by omega⟩
  | 3, _ => ⟨_, rfl, by omega, by omega⟩

def tab2 : Array Value := #[.int .i64 (-1), .int .i64 1000000000, .int .i64 1000000001]
theorem tab2_at : ∀ k, k < 3 → ∃ v : Int, tab2[k]? = some (.int .i64 v) ∧ -1 ≤ v ∧ v ≤ 1000000001
  | 0, _ => ⟨_, rfl, by omega, by omega⟩
  | 1, _ => ⟨_, rfl, by omega, by omega⟩
  | 2, _ => ⟨_, rfl, by omega, by omega⟩

def tab3 : Array Value := #[.int .i64 (-1), .int .i64 1000, .int .i64 1001]
theorem tab3_at : ∀ k, k < 3 → ∃ v : Int, tab3[k]? = some (.int .i64 v) ∧ -1 ≤ v ∧ v ≤ 1000000001
  | 0, _ => ⟨_, rfl, by omega, by omega⟩
  | 1, _ => ⟨_, rfl, by omega, by omega⟩
  | 2, _ => ⟨_, rfl, by omega, by omega⟩

def tab4 : Array Value := #[.int .i64 0, .int .i64 1000, .int .i64 1001]
theorem tab4_at : ∀ k, k < 3 → ∃ v : Int, tab4[k]? = some (.int .i64 v) ∧ -1 ≤ v ∧ v ≤ 1000000001
  | 0, _ => ⟨_, rfl, by omega, by omega⟩
  | 1, _ => ⟨_, rfl, by omega, by omega⟩
  | 2, _ => ⟨_, rfl, by omega, by omega⟩

def tab5 : Array Value := #[.int .i64 (-1), .int .i64 9, .int .i64 10]
theorem tab5_at : ∀ k, k < 3 → ∃ v : Int, tab5[k]? = some (.int .i64 v) ∧ -1 ≤ v ∧ v ≤ 1000000001
  | 0, _ => ⟨_, rfl, by omega, by omega⟩
  | 1, _ => ⟨_, rfl, by omega, by omega⟩
  | 2, _ => ⟨_, rfl, by omega, by omega⟩

set_option maxRecDepth 8000 in
set_option maxHeartbeats 2000000 in
theorem l3DrawAny_any (cb : Nat) (a : Option Addr) (n cap : Nat) (zs : List Int) (most : Int) (w : World) (h : CurAt w cb a n cap zs) (m0 : 0 ≤ most) (m1 : most ≤ 40) :
    Calls Try.prog 55 #[.pointer (some ⟨cb, 0, none⟩), .int .i64 most] w fun e w' => ∃ g c ys, e = .returned (.slice (some ⟨g, 0, none⟩) ys.length c) ∧ OwnJ w' w.heap.size g c ys ∧ ys.length ≤ 40 ∧ allSmall ys ∧ CurAt w' cb a n cap zs ∧ But cb w w' := by
  have hcb := h.lt
  go_enter Try.func55, Try.ntmps55
  go_wp2_with fail
  refine (l3Draw_any cb a n cap zs most _ h m0 m1).mono ?_
  rintro e w1 ⟨g, uc, ys, rfl, O1, hy40, hA, c1, B1⟩
  go_wp2_with fail
  refine (l1Once_any cb a n cap zs 14 _ c1 (by omega) (by omega)).mono ?_
  rintro e w2 ⟨b, rfl, c2, b2⟩
  have hgb := O1.base
  have O2 := O1.blk (w' := w2) (b2.block g O1.lt (by omega))
  have B2 := B1.trans b2
  clear O1 B1 b2 c1
  have HO2 : Hid (OwnJ w2 w.heap.size g uc ys) := O2
  have HA2 : Hid (allSmall ys) := hA
  clear O2 hA
  cases b with
  | false =>
    go_wp2
    go_ret
    exact ⟨g, uc, ys, rfl, HO2.out, hy40, HA2.out, c2, B2⟩
  | true =>
    by_cases hl : 0 < ys.length
    · have hl' : (0 : Int) < (ys.length : Int) := by omega
      go_wp2_with fail
      refine (l1Below_any cb a n cap zs (ys.length : Int) _ c2 (by omega) (by omega)).mono ?_
      rintro e w3 ⟨xi, rfl, xi0, xi1, c3, b3⟩
      obtain ⟨i, rfl⟩ := Int.eq_ofNat_of_zero_le xi0
      have hi : i < ys.length := by omega
      have O3 := HO2.out.blk (w' := w3) (b3.block g HO2.out.lt (by omega))
      have HO3 : Hid (OwnJ w3 w.heap.size g uc ys) := O3
      have B3 := B2.trans b3
      clear O3 b3 c2 B2
      go_wp2_with fail
      refine (l1Below_any cb a n cap zs 6 _ c3 (by omega) (by omega)).mono ?_
      rintro e w4 ⟨xk, rfl, xk0, xk1, c4, b4⟩
      obtain ⟨k, rfl⟩ := Int.eq_ofNat_of_zero_le xk0
      have O4 := HO3.out.blk (w' := w4) (b4.block g HO3.out.lt (by omega))
      have HO4 : Hid (OwnJ w4 w.heap.size g uc ys) := O4
      have B4 := B3.trans b4
      have hcb4 := c4.lt
      clear O4 b4 c3 B3 HO3 HO2
      obtain rfl | rfl | rfl | rfl | rfl | rfl : k = 0 ∨ k = 1 ∨ k = 2 ∨ k = 3 ∨ k = 4 ∨ k = 5 := by omega
      · go_wp2_with fail
        refine (l1Below_any cb a n cap zs 4 _ (c4.but (box_below0 (o := .cells tab0 2)) hcb4) (by omega) (by omega)).mono ?_
        rintro e w5 ⟨xt, rfl, xt0, xt1, c5, b5⟩
        obtain ⟨t, rfl⟩ := Int.eq_ofNat_of_zero_le xt0
        obtain ⟨v, hv, v0, v1⟩ := tab0_at t (by omega)
        have q0 := row_at (L := tab0) b5 hcb4 hv
        have ht : t < 4 := by omega
        have O5 := (HO4.out.below box_below0).blk (w' := w5) (b5.block g (by have := HO4.out.lt; simp; omega) (by omega))
        obtain ⟨s0, s1⟩ := O5.cell (f := 0) hi (by omega)
        have O6 := O5.store (f := 0) hi (by omega) v
        have HO6 : Hid _ := O6
        have c6 := c5.setNew (B := g) (j := i * 7 + 0) (by omega) (.int .i64 v)
        have B6 := ((B4.alloc (.cells tab0 2)).trans b5).setNew (B := g) (j := i * 7 + 0) hgb (.int .i64 v)
        clear hv O5 O6 b5 c5
        simp only [Nat.add_zero] at *
        go_wp2
        go_ret
        exact ⟨g, uc, _, ret_val (by simp), HO6.out, by simpa using hy40, HA2.out.set hi (by omega) v0 v1, c6, B6⟩
      · go_wp2_with fail
        refine (l1Below_any cb a n cap zs 4 _ (c4.but (box_below0 (o := .cells tab1 2)) hcb4) (by omega) (by omega)).mono ?_
        rintro e w5 ⟨xt, rfl, xt0, xt1, c5, b5⟩
        obtain ⟨t, rfl⟩ := Int.eq_ofNat_of_zero_le xt0
        obtain ⟨v, hv, v0, v1⟩ := tab1_at t (by omega)
        have q0 := row_at (L := tab1) b5 hcb4 hv
        have ht : t < 4 := by omega
        have O5 := (HO4.out.below box_below0).blk (w' := w5) (b5.block g (by have := HO4.out.lt; simp; omega) (by omega))
        obtain ⟨s0, s1⟩ := O5.cell (f := 2) hi (by omega)
        have O6 := O5.store (f := 2) hi (by omega) v
        have HO6 : Hid _ := O6
        have c6 := c5.setNew (B := g) (j := i * 7 + 2) (by omega) (.int .i64 v)
        have B6 := ((B4.alloc (.cells tab1 2)).trans b5).setNew (B := g) (j := i * 7 + 2) hgb (.int .i64 v)
        clear hv O5 O6 b5 c5
        go_wp2
        go_ret
        exact ⟨g, uc, _, ret_val (by simp), HO6.out, by simpa using hy40, HA2.out.set hi (by omega) v0 v1, c6, B6⟩
      · go_wp2_with fail
        refine (l1Below_any cb a n cap zs 3 _ (c4.but (box_below0 (o := .cells tab2 2)) hcb4) (by omega) (by omega)).mono ?_
        rintro e w5 ⟨xt, rfl, xt0, xt1, c5, b5⟩
        obtain ⟨t, rfl⟩ := Int.eq_ofNat_of_zero_le xt0
        obtain ⟨v, hv, v0, v1⟩ := tab2_at t (by omega)
        have q0 := row_at (L := tab2) b5 hcb4 hv
        have ht : t < 3 := by omega
        have O5 := (HO4.out.below box_below0).blk (w' := w5) (b5.block g (by have := HO4.out.lt; simp; omega) (by omega))
        obtain ⟨s0, s1⟩ := O5.cell (f := 3) hi (by omega)
        have O6 := O5.store (f := 3) hi (by omega) v
        have HO6 : Hid _ := O6
        have c6 := c5.setNew (B := g) (j := i * 7 + 3) (by omega) (.int .i64 v)
        have B6 := ((B4.alloc (.cells tab2 2)).trans b5).setNew (B := g) (j := i * 7 + 3) hgb (.int .i64 v)
        clear hv O5 O6 b5 c5
        go_wp2
        go_ret
        exact ⟨g, uc, _, ret_val (by simp), HO6.out, by simpa using hy40, HA2.out.set hi (by omega) v0 v1, c6, B6⟩
      · go_wp2_with fail
        refine (l1Below_any cb a n cap zs 3 _ (c4.but (box_below0 (o := .cells tab3 2)) hcb4) (by omega) (by omega)).mono ?_
        rintro e w5 ⟨xt, rfl, xt0, xt1, c5, b5⟩
        obtain ⟨t, rfl⟩ := Int.eq_ofNat_of_zero_le xt0
        obtain ⟨v, hv, v0, v1⟩ := tab3_at t (by omega)
        have q0 := row_at (L := tab3) b5 hcb4 hv
        have ht : t < 3 := by omega
        have O5 := (HO4.out.below box_below0).blk (w' := w5) (b5.block g (by have := HO4.out.lt; simp; omega) (by omega))
        obtain ⟨s0, s1⟩ := O5.cell (f := 4) hi (by omega)
        have O6 := O5.store (f := 4) hi (by omega) v
        have HO6 : Hid _ := O6
        have c6 := c5.setNew (B := g) (j := i * 7 + 4) (by omega) (.int .i64 v)
        have B6 := ((B4.alloc (.cells tab3 2)).trans b5).setNew (B := g) (j := i * 7 + 4) hgb (.int .i64 v)
        clear hv O5 O6 b5 c5
        go_wp2
        go_ret
        exact ⟨g, uc, _, ret_val (by simp), HO6.out, by simpa using hy40, HA2.out.set hi (by omega) v0 v1, c6, B6⟩
      · go_wp2_with fail
        refine (l1Below_any cb a n cap zs 3 _ (c4.but (box_below0 (o := .cells tab4 2)) hcb4) (by omega) (by omega)).mono ?_
        rintro e w5 ⟨xt, rfl, xt0, xt1, c5, b5⟩
        obtain ⟨t, rfl⟩ := Int.eq_ofNat_of_zero_le xt0
        obtain ⟨v, hv, v0, v1⟩ := tab4_at t (by omega)
        have q0 := row_at (L := tab4) b5 hcb4 hv
        have ht : t < 3 := by omega
        have O5 := (HO4.out.below box_below0).blk (w' := w5) (b5.block g (by have := HO4.out.lt; simp; omega) (by omega))
        obtain ⟨s0, s1⟩ := O5.cell (f := 1) hi (by omega)
        have O6 := O5.store (f := 1) hi (by omega) v
        have HO6 : Hid _ := O6
        have c6 := c5.setNew (B := g) (j := i * 7 + 1) (by omega) (.int .i64 v)
        have B6 := ((B4.alloc (.cells tab4 2)).trans b5).setNew (B := g) (j := i * 7 + 1) hgb (.int .i64 v)
        clear hv O5 O6 b5 c5
        go_wp2
        go_ret
        exact ⟨g, uc, _, ret_val (by simp), HO6.out, by simpa using hy40, HA2.out.set hi (by omega) v0 v1, c6, B6⟩
      · go_wp2_with fail
        refine (l1Below_any cb a n cap zs 3 _ (c4.but (box_below0 (o := .cells tab5 2)) hcb4) (by omega) (by omega)).mono ?_
        rintro e w5 ⟨xt, rfl, xt0, xt1, c5, b5⟩
        obtain ⟨t, rfl⟩ := Int.eq_ofNat_of_zero_le xt0
        obtain ⟨v, hv, v0, v1⟩ := tab5_at t (by omega)
        have q0 := row_at (L := tab5) b5 hcb4 hv
        have ht : t < 3 := by omega
        have O5 := (HO4.out.below box_below0).blk (w' := w5) (b5.block g (by have := HO4.out.lt; simp; omega) (by omega))
        obtain ⟨s0, s1⟩ := O5.cell (f := 5) hi (by omega)
        have O6 := O5.store (f := 5) hi (by omega) v
        have HO6 : Hid _ := O6
        have c6 := c5.setNew (B := g) (j := i * 7 + 5) (by omega) (.int .i64 v)
        have B6 := ((B4.alloc (.cells tab5 2)).trans b5).setNew (B := g) (j := i * 7 + 5) hgb (.int .i64 v)
        clear hv O5 O6 b5 c5
        go_wp2
        go_ret
        exact ⟨g, uc, _, ret_val (by simp), HO6.out, by simpa using hy40, HA2.out.set hi (by omega) v0 v1, c6, B6⟩
    · have hl0 : ys.length = 0 := by omega
      obtain rfl : ys = [] := List.eq_nil_of_length_eq_zero hl0
      go_wp2
      go_ret
      exact ⟨g, uc, [], rfl, HO2.out, hy40, HA2.out, c2, B2⟩

end Go.Proofs.Ytcmpenlgkccgkaa
