/- Passes drawn. What is drawn is not reckoned, only that passes come, each number small. -/
import Derived.Test.YtkakdodamnnplaaPassMark
import Derived.Test.YtkakdodamnnplaaDraw
namespace Go.Proofs.Ytkakdodamnnplaa
open Go.RowKit Go.Sort

/-- one number of a pass turned -/
def pzset (j : Pz) (f : Nat) (z : Int) : Pz :=
  match f with
  | 0 => ⟨z, j.a, j.b⟩
  | 1 => ⟨j.id, z, j.b⟩
  | _ => ⟨j.id, j.a, z⟩

theorem pzset_c (j : Pz) (f c : Nat) (z : Int) (hf : f < 3) (hc : c < 3) : pzc (pzset j f z) c = if c = f then z else pzc j c := by
  obtain rfl | rfl | rfl : f = 0 ∨ f = 1 ∨ f = 2 := by omega
  all_goals
    obtain rfl | rfl | rfl : c = 0 ∨ c = 1 ∨ c = 2 := by omega
    all_goals rfl

theorem pzcells_set (ys : List Pz) (i f : Nat) (z : Int) (hi : i < ys.length) (hf : f < 3) : pzcells (ys.set i (pzset (pzg ys i) f z)) = (pzcells ys).set (i * 3 + f) (.int .i64 z) := by
  have hl := pzcells_len ys
  apply List.ext_getElem?
  intro j
  by_cases hj : j < ys.length * 3
  · have hj1 : j / 3 < ys.length := by omega
    have e1 := pzcells_at (ys.set i (pzset (pzg ys i) f z)) (j / 3) (j % 3) (by simp; omega) (by omega)
    have e2 := pzcells_at ys (j / 3) (j % 3) hj1 (by omega)
    rw [show j / 3 * 3 + j % 3 = j by omega] at e1 e2
    rw [e1, List.getElem?_set, e2]
    by_cases hji : j / 3 = i
    · have eg : pzg (ys.set i (pzset (pzg ys i) f z)) (j / 3) = pzset (pzg ys i) f z := by rw [hji]; simp [pzg, hi]
      rw [eg, pzset_c _ _ _ _ hf (by omega), hji]
      by_cases hc : j % 3 = f
      · rw [if_pos hc, if_pos (by omega), if_pos (by omega)]
      · rw [if_neg hc, if_neg (by omega)]
    · have eg : pzg (ys.set i (pzset (pzg ys i) f z)) (j / 3) = pzg ys (j / 3) := by
        simp only [pzg]; rw [List.getElem?_set_ne (by omega)]
      rw [eg, if_neg (by omega)]
  · rw [List.getElem?_eq_none (by rw [pzcells_len]; simp; omega), List.getElem?_eq_none (by simp; omega)]

theorem OwnPass.store {w : World} {base g cap : Nat} {ys : List Pz} (h : OwnPass w base g cap ys) {i f : Nat} (hi : i < ys.length) (hf : f < 3) (z : Int) : OwnPass (w.setCell ⟨g, i * 3 + f, none⟩ (.int .i64 z)) base g cap (ys.set i (pzset (pzg ys i) f z)) := by
  have hlen : (ys.set i (pzset (pzg ys i) f z)).length = ys.length := by simp
  refine ⟨?_, by rw [hlen]; exact h.le, h.mx, h.base, by simpa [World.setCell] using h.lt⟩
  rw [hlen, pzcells_set ys i f z hi hf]
  refine ⟨by simpa using h.own.1, ?_⟩
  rcases h.own.2 with ⟨e, _⟩ | ⟨g', cap', cur, e, hg, hgg, h1, h2, h3, h4⟩
  · cases e
  · injection e with e1 _ e3
    injection e1 with e1
    injection e1 with e1 _ _
    subst e1 e3
    refine .inr ⟨g, cap, _, rfl, hg, blk_set hgg _, h1, h2, by simpa using h3, ?_⟩
    rw [← h4, Array.toList_setIfInBounds, List.take_set]

/-- a drawn pass: its numbers are small -/
def pzsmall (j : Pz) : Prop := ∀ c, c < 3 → -1 ≤ pzc j c ∧ pzc j c ≤ 1000000001
theorem pzsmall.wf {j : Pz} (h : pzsmall j) : pzwf j := fun c hc => by have := h c hc; omega
theorem pzset_small {j : Pz} (h : pzsmall j) {f : Nat} (hf : f < 3) {z : Int} (h0 : -1 ≤ z) (h1 : z ≤ 1000000001) : pzsmall (pzset j f z) := by
  intro c hc
  rw [pzset_c j f c z hf hc]
  split
  · omega
  · exact h c hc
def allSmallP (ys : List Pz) : Prop := ∀ y ∈ ys, pzsmall y
theorem allSmallP.snoc {ys : List Pz} {j : Pz} (h : allSmallP ys) (hj : pzsmall j) : allSmallP (ys ++ [j]) := by
  intro y hy
  rcases List.mem_append.1 hy with h1 | h1
  · exact h y h1
  · rw [List.mem_singleton.1 h1]; exact hj
theorem allSmallP.set {ys : List Pz} (h : allSmallP ys) {i f : Nat} (hi : i < ys.length) (hf : f < 3) {z : Int} (h0 : -1 ≤ z) (h1 : z ≤ 1000000001) : allSmallP (ys.set i (pzset (pzg ys i) f z)) := by
  intro y hy
  rcases List.mem_or_eq_of_mem_set hy with h2 | rfl
  · exact h y h2
  · exact pzset_small (by rw [pzg_get hi]; exact h _ (List.getElem_mem hi)) hf h0 h1
theorem allSmallP.wf {ys : List Pz} (h : allSmallP ys) : ∀ i, i < ys.length → pzwf (pzg ys i) := fun i hi => by
  rw [pzg_get hi]; exact (h _ (List.getElem_mem hi)).wf

def tabP0 : Array Value := #[.int .i64 0, .int .i64 1, .int .i64 1000001]
theorem tabP0_at : ∀ k, k < 3 → ∃ v : Int, tabP0[k]? = some (.int .i64 v) ∧ -1 ≤ v ∧ v ≤ 1000000001
  | 0, _ => ⟨_, rfl, by omega, by omega⟩
  | 1, _ => ⟨_, rfl, by omega, by omega⟩
  | 2, _ => ⟨_, rfl, by omega, by omega⟩
def tabP1 : Array Value := #[.int .i64 (-1), .int .i64 10000, .int .i64 10001]
theorem tabP1_at : ∀ k, k < 3 → ∃ v : Int, tabP1[k]? = some (.int .i64 v) ∧ -1 ≤ v ∧ v ≤ 1000000001
  | 0, _ => ⟨_, rfl, by omega, by omega⟩
  | 1, _ => ⟨_, rfl, by omega, by omega⟩
  | 2, _ => ⟨_, rfl, by omega, by omega⟩

set_option maxRecDepth 8000 in
set_option maxHeartbeats 1000000 in
theorem l7Draw_any (cb : Nat) (a : Option Addr) (n cap : Nat) (zs : List Int) (w : World) (h : CurAt w cb a n cap zs) :
    Calls Try.prog 43 #[.pointer (some ⟨cb, 0, none⟩)] w fun e w' => ∃ g c ys, e = .returned (.slice (some ⟨g, 0, none⟩) ys.length c) ∧ OwnPass w' w.heap.size g c ys ∧ ys.length ≤ 5 ∧ allSmallP ys ∧ CurAt w' cb a n cap zs ∧ But cb w w' := by
  obtain ⟨i1, hj, hj0, hj1, hj2⟩ := info_parts infoPass
  have hcb := h.lt
  have h0 := h.but (box_below0 (o := .cells #[] 31)) hcb
  have own0 : OwnPass (w.alloc (.cells #[] 31)) w.heap.size w.heap.size 0 [] := ownPass_nil w
  go_enter Try.func43, Try.ntmps43
  go_wp2_with fail
  refine (l1Below_any cb a n cap zs 6 _ h0 (by omega) (by omega)).mono ?_
  rintro e w1 ⟨x, rfl, x0, x1, c1, b1⟩
  obtain ⟨k0, rfl⟩ := Int.eq_ofNat_of_zero_le x0
  have own1 := own0.blk (w' := w1) (b1.block _ (by simp) (by omega))
  have B1 : But cb w w1 := (But.of box_below0).trans b1
  clear own0 h0 b1
  go_wp2
  go_loopw [3, 4] (fun u s wr => ∃ (k g uc : Nat) (ys : List Pz), k + ys.length ≤ 5 ∧ s = .int .i64 k ∧ u = .slice (some ⟨g, 0, none⟩) ys.length uc ∧ Hid (OwnPass wr w.heap.size g uc ys) ∧ Hid (allSmallP ys) ∧ CurAt wr cb a n cap zs ∧ But cb w wr) (fun _ s _ => (intOf s).toNat)
  case atStart => exact ⟨k0, _, 0, [], by simp; omega, rfl, rfl, own1, (fun y hy => by cases hy), c1, B1⟩
  case round =>
    obtain ⟨k, g, uc, ys, hk, rfl, rfl, HO, HA, hc, hb⟩ := hrel
    by_cases hlt : 0 < k
    · have hlt' : (0 : Int) < (k : Int) := by omega
      go_wp2_with fail
      refine (l1Below_any cb a n cap zs 9 _ hc (by omega) (by omega)).mono ?_
      rintro e w2 ⟨xa, rfl, xa0, xa1, c2, b2⟩
      go_wp2_with fail
      refine (l1Below_any cb a n cap zs 9 _ c2 (by omega) (by omega)).mono ?_
      rintro e w3 ⟨xb, rfl, xb0, xb1, c3, b3⟩
      have hOg := HO.out
      have hgb := hOg.base
      have z2 := b2.size
      have O3 := (hOg.blk (w' := w2) (b2.block g hOg.lt (by omega))).blk (w' := w3) (b3.block g (by have := hOg.lt; omega) (by omega))
      have B3 := (hb.trans b2).trans b3
      have hz3 := B3.size
      have hsm : pzsmall ⟨k, xa, xb⟩ := fun c hc => by
        obtain rfl | rfl | rfl : c = 0 ∨ c = 1 ∨ c = 2 := by omega
        all_goals (simp only [pzc]; omega)
      have OA : (w3.alloc (.cells #[.int .i64 k, .int .i64 xa, .int .i64 xb] 31)).ownsRow w.heap.size 31 3 (.slice (some ⟨g, 0, none⟩) ys.length uc) ys.length (pzcells ys) := (O3.below box_below0).own
      go_wp2_with (at_builtin; refine wpList_append_own_at _ rfl (.tmp 12) (.tmp 19) 24 rfl w.heap.size 31 i1 (.agg #[.int .i64 0, .int .i64 0, .int .i64 0]) 3 24 Try.underlying24 hj hj0 hj1 hj2 rfl (by decide) _ _ _ rfl OA ⟨w3.heap.size, 0, none⟩ 1 1 [.int .i64 k, .int .i64 xa, .int .i64 xb] rfl rfl (newPass_plain w3 ⟨k, xa, xb⟩ _) (pzl_one ⟨k, xa, xb⟩) (by unfold maxLen; omega) (by omega) (by simp; omega) ?_)
      intro v3 w4 own3 grow3 nil3 at3
      have hc3 : CurAt w4 cb a n cap zs := c3.keep (fun r hr => (grow3.block r (by have := c3.lt; simp; omega) (by simp [Value.ownBlock]; omega)).trans (Below.heap_alloc _ _ _ (by have := c3.lt; omega))) (Nat.le_trans (by simp) grow3.size)
      have B4 : But cb w w4 := (B3.alloc _).grownB (B := w.heap.size) grow3 (Nat.le_refl _) (fun r e => by have e' : g = r := Option.some.inj e; omega)
      obtain ⟨g3, c4, rfl, O4⟩ := ownPass_of' (ys := ys ++ [⟨k, xa, xb⟩]) own3 (by simp) (by rw [pzcells_app]; rfl) (by first | exact nil3 | exact fun e => nomatch (nil3.1 e).1)
      have HO3 : Hid (OwnPass w4 w.heap.size g3 c4 (ys ++ [⟨k, xa, xb⟩])) := O4
      have HA3 : Hid (allSmallP (ys ++ [⟨k, xa, xb⟩])) := HA.out.snoc hsm
      clear own3 grow3 nil3 at3 OA O3 O4 hsm
      go_wp2
      go_roundw
      case rel => exact ⟨k - 1, g3, c4, ys ++ [⟨k, xa, xb⟩], by simp; omega, by go_num, by simp, HO3, HA3, hc3, B4⟩
      case measure => simp [intOf]; omega
    · obtain rfl : k = 0 := by omega
      go_wp2_with fail
      refine (l1Once_any cb a n cap zs 14 _ hc (by omega) (by omega)).mono ?_
      rintro e w2 ⟨b, rfl, c2, b2⟩
      have hgb := HO.out.base
      have O2 := HO.out.blk (w' := w2) (b2.block g HO.out.lt (by omega))
      have B2 := hb.trans b2
      have HO2 : Hid (OwnPass w2 w.heap.size g uc ys) := O2
      clear O2 hb b2 HO hc
      cases b with
      | false =>
        go_wp2
        go_ret
        exact ⟨g, uc, ys, rfl, HO2.out, by omega, HA.out, c2, B2⟩
      | true =>
        by_cases hl : 0 < ys.length
        · have hl' : (0 : Int) < (ys.length : Int) := by omega
          go_wp2_with fail
          refine (l1Below_any cb a n cap zs 3 _ c2 (by omega) (by omega)).mono ?_
          rintro e w4 ⟨xk, rfl, xk0, xk1, c4, b4⟩
          obtain ⟨k, rfl⟩ := Int.eq_ofNat_of_zero_le xk0
          have O4 := HO2.out.blk (w' := w4) (b4.block g HO2.out.lt (by omega))
          have HO4 : Hid (OwnPass w4 w.heap.size g uc ys) := O4
          have B4 := B2.trans b4
          have hcb4 := c4.lt
          clear O4 b4 c2 B2 HO2
          obtain rfl | rfl | rfl : k = 0 ∨ k = 1 ∨ k = 2 := by omega
          · go_wp2_with fail
            refine (l1Below_any cb a n cap zs 3 _ (c4.but (box_below0 (o := .cells tabP0 2)) hcb4) (by omega) (by omega)).mono ?_
            rintro e w5 ⟨xt, rfl, xt0, xt1, c5, b5⟩
            obtain ⟨t, rfl⟩ := Int.eq_ofNat_of_zero_le xt0
            obtain ⟨v, hv, v0, v1⟩ := tabP0_at t (by omega)
            have q0 := row_at (L := tabP0) b5 hcb4 hv
            have ht : t < 3 := by omega
            have O5 := (HO4.out.below box_below0).blk (w' := w5) (b5.block g (by have := HO4.out.lt; simp; omega) (by omega))
            obtain ⟨s0, s1⟩ := O5.cell (i := 0) (f := 0) hl (by omega)
            have O6 := O5.store (i := 0) (f := 0) hl (by omega) v
            have c6 := c5.setNew (B := g) (j := 0 * 3 + 0) (by omega) (.int .i64 v)
            have B6 := ((B4.alloc (.cells tabP0 2)).trans b5).setNew (B := g) (j := 0 * 3 + 0) hgb (.int .i64 v)
            simp only [Nat.zero_mul, Nat.zero_add] at s0 s1 O6 c6 B6
            have HO6 : Hid _ := O6
            clear hv O5 O6 b5 c5
            go_wp2
            go_ret
            exact ⟨g, uc, _, ret_val (by simp), HO6.out, by simpa using hk, HA.out.set hl (by omega) v0 v1, c6, B6⟩
          · go_wp2_with fail
            refine (l1Below_any cb a n cap zs 3 _ (c4.but (box_below0 (o := .cells tabP1 2)) hcb4) (by omega) (by omega)).mono ?_
            rintro e w5 ⟨xt, rfl, xt0, xt1, c5, b5⟩
            obtain ⟨t, rfl⟩ := Int.eq_ofNat_of_zero_le xt0
            obtain ⟨v, hv, v0, v1⟩ := tabP1_at t (by omega)
            have q0 := row_at (L := tabP1) b5 hcb4 hv
            have ht : t < 3 := by omega
            have O5 := (HO4.out.below box_below0).blk (w' := w5) (b5.block g (by have := HO4.out.lt; simp; omega) (by omega))
            obtain ⟨s0, s1⟩ := O5.cell (i := 0) (f := 1) hl (by omega)
            have O6 := O5.store (i := 0) (f := 1) hl (by omega) v
            have c6 := c5.setNew (B := g) (j := 0 * 3 + 1) (by omega) (.int .i64 v)
            have B6 := ((B4.alloc (.cells tabP1 2)).trans b5).setNew (B := g) (j := 0 * 3 + 1) hgb (.int .i64 v)
            simp only [Nat.zero_mul, Nat.zero_add] at s0 s1 O6 c6 B6
            have HO6 : Hid _ := O6
            clear hv O5 O6 b5 c5
            go_wp2
            go_ret
            exact ⟨g, uc, _, ret_val (by simp), HO6.out, by simpa using hk, HA.out.set hl (by omega) v0 v1, c6, B6⟩
          · go_wp2_with fail
            refine (l1Below_any cb a n cap zs 3 _ (c4.but (box_below0 (o := .cells tabP1 2)) hcb4) (by omega) (by omega)).mono ?_
            rintro e w5 ⟨xt, rfl, xt0, xt1, c5, b5⟩
            obtain ⟨t, rfl⟩ := Int.eq_ofNat_of_zero_le xt0
            obtain ⟨v, hv, v0, v1⟩ := tabP1_at t (by omega)
            have q0 := row_at (L := tabP1) b5 hcb4 hv
            have ht : t < 3 := by omega
            have O5 := (HO4.out.below box_below0).blk (w' := w5) (b5.block g (by have := HO4.out.lt; simp; omega) (by omega))
            obtain ⟨s0, s1⟩ := O5.cell (i := 0) (f := 2) hl (by omega)
            have O6 := O5.store (i := 0) (f := 2) hl (by omega) v
            have c6 := c5.setNew (B := g) (j := 0 * 3 + 2) (by omega) (.int .i64 v)
            have B6 := ((B4.alloc (.cells tabP1 2)).trans b5).setNew (B := g) (j := 0 * 3 + 2) hgb (.int .i64 v)
            simp only [Nat.zero_mul, Nat.zero_add] at s0 s1 O6 c6 B6
            have HO6 : Hid _ := O6
            clear hv O5 O6 b5 c5
            go_wp2
            go_ret
            exact ⟨g, uc, _, ret_val (by simp), HO6.out, by simpa using hk, HA.out.set hl (by omega) v0 v1, c6, B6⟩
        · have hl' : ys.length = 0 := by omega
          go_wp2
          go_ret
          exact ⟨g, uc, ys, ret_val (by simp [hl']), HO2.out, by omega, HA.out, c2, B2⟩

theorem drawPassesOk_any (a : Option Addr) (n cap : Nat) (zs : List Int) (w : World) (h : IsBytes w a n cap zs) (hn : n ≤ 4096) :
    Calls Try.prog 27 #[.slice a n cap] w fun e w' => ∃ g c ys, e = .returned (.slice (some ⟨g, 0, none⟩) ys.length c) ∧ OwnPass w' w.heap.size g c ys ∧ ys.length ≤ 5 ∧ allSmallP ys ∧ Below w.heap.size w w' := by
  go_enter Try.func27, Try.ntmps27
  go_wp2_with fail
  refine (l1New_any a n cap zs _ h hn).mono ?_
  rintro e w1 ⟨cb, rfl, hcb, c1, U1⟩
  have z1 := U1.size
  go_wp2_with fail
  refine (l7Draw_any cb a n cap zs _ c1).mono ?_
  rintro e w2 ⟨g, c, ys, rfl, O, hy, hA, c2, b2⟩
  go_wp2
  go_ret
  exact ⟨g, c, ys, rfl, O.low z1, hy, hA, U1.trans (b2.below hcb z1)⟩

theorem drawThrough_any (a : Option Addr) (n cap : Nat) (zs : List Int) (w : World) (h : IsBytes w a n cap zs) (hn : n ≤ 4096) :
    Calls Try.prog 21 #[.slice a n cap] w fun e w' => ∃ g c ys, e = .returned (.slice (some ⟨g, 0, none⟩) ys.length c) ∧ OwnPass w' w.heap.size g c ys ∧ ys.length ≤ 5 ∧ allSmallP ys ∧ Below w.heap.size w w' := by
  go_enter Try.func21, Try.ntmps21
  go_wp2_with fail
  refine (drawPassesOk_any a n cap zs _ h hn).mono ?_
  rintro e w1 ⟨g, c, ys, rfl, O, hy, hA, hb⟩
  go_wp2
  go_ret
  exact ⟨g, c, ys, rfl, O, hy, hA, hb⟩

theorem drawJohnson_any (a : Option Addr) (n cap : Nat) (zs : List Int) (w : World) (h : IsBytes w a n cap zs) (hn : n ≤ 4096) :
    Calls Try.prog 10 #[.slice a n cap] w fun e w' => ∃ g c ys, e = .returned (.slice (some ⟨g, 0, none⟩) ys.length c) ∧ OwnPass w' w.heap.size g c ys ∧ ys.length ≤ 5 ∧ allSmallP ys ∧ Below w.heap.size w w' := by
  go_enter Try.func10, Try.ntmps10
  go_wp2_with fail
  refine (drawPassesOk_any a n cap zs _ h hn).mono ?_
  rintro e w1 ⟨g, c, ys, rfl, O, hy, hA, hb⟩
  go_wp2
  go_ret
  exact ⟨g, c, ys, rfl, O, hy, hA, hb⟩

set_option maxHeartbeats 1000000 in
theorem likePasses_same (a a' : Option Addr) (n cap cap' : Nat) (ls : List Pz) (w : World) (h : PassS w a n cap ls) (h' : PassS w a' n cap' ls) :
    Calls Try.prog 12 #[.slice a n cap, .slice a' n cap'] w fun e w' => e = .returned (.bool true) ∧ Below w.heap.size w w' := by
  have hm := h.mx
  have hle := h.le
  unfold maxLen at hm
  go_enter Try.func12, Try.ntmps12
  go_wp2
  go_loopw [5] (fun i wr => ∃ k : Nat, k ≤ n ∧ i = .int .i64 k ∧ Below w.heap.size w wr) (fun i _ => n - (intOf i).toNat)
  case atStart => exact ⟨0, by omega, rfl, Below.refl _ _⟩
  case round =>
    obtain ⟨k, hk, rfl, hw⟩ := hrel
    by_cases hlt : k < n
    · obtain ⟨b, off, rfl, hbw, hat⟩ := h.at_ (by omega)
      obtain ⟨b', off', rfl, hbw', hat'⟩ := h'.at_ (by omega)
      obtain ⟨c0, c1, c2⟩ := (hat.below hw hbw).row (i := k) (by rw [h.len]; exact hlt)
      obtain ⟨d0, d1, d2⟩ := (hat'.below hw hbw').row (i := k) (by rw [h.len]; exact hlt)
      have hlt' : (k : Int) < (n : Int) := by omega
      go_wp2
      go_quiet (fail)
      go_wp2
      go_roundw
      case rel => exact ⟨k + 1, by omega, by go_num, hw.drewN _⟩
      case measure => simp [intOf]; omega
    · have e : k = n := by omega
      subst e
      go_wp2
      go_ret
      exact ⟨rfl, hw⟩

end Go.Proofs.Ytkakdodamnnplaa
