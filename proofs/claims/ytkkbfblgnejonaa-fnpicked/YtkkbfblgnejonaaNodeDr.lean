/- Numbers drawn for nodes; DrawUsedOk, DrawReady, DrawPicked. -/
import Derived.Test.YtkkbfblgnejonaaNodeDraw
import Derived.Test.YtkkbfblgnejonaaNodeCh
import Derived.Test.YtkkbfblgnejonaaFromDraw
import Derived.Test.YtkkbfblgnejonaaTime
import Derived.Test.YtkkbfblgnejonaaInts
import Derived.OwnWalk
namespace Go.Proofs.Ytkkbfblgnejonaa
open Go.RowKit Go.Sort

/-- a row of numbers of the call's own, in the making -/
structure OwnZ (w : World) (base g c : Nat) (us : List Int) : Prop where
  own : w.ownsRow base 2 1 (.slice (some ⟨g, 0, none⟩) us.length c) us.length (us.map (Value.int .i64))
  base : base ≤ g
  lt : g < w.heap.size
theorem OwnZ.blk {w w' : World} {base g c : Nat} {us : List Int} (h : OwnZ w base g c us) (hb : w'.heap[g]? = w.heap[g]?) : OwnZ w' base g c us := by
  have hlt : g < w'.heap.size := by
    rcases h.own.2 with ⟨e, _⟩ | ⟨g', cap', cur, e, hg, hgg, r⟩
    · cases e
    · injection e with e1 _ _
      injection e1 with e1
      injection e1 with e1 _ _
      subst e1
      rw [← hb] at hgg
      exact lt_of_block hgg
  refine ⟨⟨h.own.1, ?_⟩, h.base, hlt⟩
  rcases h.own.2 with ⟨e, _⟩ | ⟨g', cap', cur, e, hg, hgg, r⟩
  · cases e
  · injection e with e1 _ e3
    injection e1 with e1
    injection e1 with e1 _ _
    subst e1 e3
    exact .inr ⟨g, c, cur, rfl, hg, hb.trans hgg, r⟩
theorem OwnZ.nil (w : World) : OwnZ (w.alloc (.cells #[] 2)) w.heap.size w.heap.size 0 [] :=
  ⟨World.ownsRow_made w #[] 0 (Nat.le_refl _) (Nat.zero_le _) rfl, Nat.le_refl _, by simp⟩
theorem OwnZ.lint {w : World} {base g c : Nat} {us : List Int} (h : OwnZ w base g c us) : LInt w base (some ⟨g, 0, none⟩) us.length c us := LInt.own h.own
theorem OwnZ.of {w : World} {base : Nat} {v : Value} {us : List Int} (h : w.ownsRow base 2 1 v us.length (us.map (Value.int .i64))) (hn : 0 < us.length) : ∃ g c, v = .slice (some ⟨g, 0, none⟩) us.length c ∧ OwnZ w base g c us := by
  have h' := h
  rcases h.2 with ⟨_, h0⟩ | ⟨g, c, cur, rfl, hg, hgg, _⟩
  · omega
  · exact ⟨g, c, rfl, h', hg, lt_of_block hgg⟩

/-- numbers for nodes are small -/
def usmall (us : List Int) : Prop := ∀ i, i < us.length → -1 ≤ zg us i ∧ zg us i ≤ 101
theorem usmall.snoc {us : List Int} {z : Int} (h : usmall us) (h0 : -1 ≤ z) (h1 : z ≤ 101) : usmall (us ++ [z]) := by
  intro i hi
  rw [List.length_append, List.length_singleton] at hi
  by_cases e : i < us.length
  · have : zg (us ++ [z]) i = zg us i := by unfold zg; rw [List.getElem?_append_left e]
    rw [this]; exact h i e
  · obtain rfl : i = us.length := by omega
    have : zg (us ++ [z]) us.length = z := by unfold zg; simp
    rw [this]; exact ⟨h0, h1⟩
theorem usmall.set {us : List Int} {z : Int} (h : usmall us) {j : Nat} (hj : j < us.length) (h0 : -1 ≤ z) (h1 : z ≤ 101) : usmall (us.set j z) := by
  intro i hi
  rw [List.length_set] at hi
  rw [zg_set hj]
  split
  · exact ⟨h0, h1⟩
  · exact h i hi

def tabU : Array Value := #[.int .i64 (-1), .int .i64 101, .int .i64 0]
theorem tabU_at : ∀ k, k < 3 → ∃ v : Int, tabU[k]? = some (.int .i64 v) ∧ -1 ≤ v ∧ v ≤ 101
  | 0, _ => ⟨_, rfl, by omega, by omega⟩
  | 1, _ => ⟨_, rfl, by omega, by omega⟩
  | 2, _ => ⟨_, rfl, by omega, by omega⟩

set_option maxRecDepth 8000 in
set_option maxHeartbeats 1000000 in
theorem l11DrawUsed_any (cb : Nat) (a : Option Addr) (n cap : Nat) (zs : List Int) (g2 c2 b2 : Nat) (ls : List Nd) (w : World) (h : CurAt w cb a n cap zs) (hO : OwnNode w b2 g2 c2 ls) (hne : g2 ≠ cb) (hl9 : ls.length ≤ 9) (hA : allSmallN ls) :
    Calls Try.prog 61 #[.pointer (some ⟨cb, 0, none⟩), .slice (some ⟨g2, 0, none⟩) ls.length c2] w fun e w' => ∃ g c us, e = .returned (.slice (some ⟨g, 0, none⟩) us.length c) ∧ LInt w' w.heap.size (some ⟨g, 0, none⟩) us.length c us ∧ us.length = ls.length ∧ usmall us ∧ CurAt w' cb a n cap zs ∧ But cb w w' := by
  obtain ⟨i1, hj, hj0, hj1, hj2⟩ := info_parts infoI
  have hcb := h.lt
  have hg2 := hO.lt
  have h0 := h.but (box_below0 (o := .cells #[] 2)) hcb
  have own0 : OwnZ (w.alloc (.cells #[] 2)) w.heap.size w.heap.size 0 [] := OwnZ.nil w
  have B0 : But cb w (w.alloc (.cells #[] 2)) := But.of box_below0
  go_enter Try.func61, Try.ntmps61
  go_wp2
  go_loopw [5, 6] (fun u s wr => ∃ (k g uc : Nat) (us : List Int), k ≤ ls.length ∧ us.length = k ∧ s = .int .i64 k ∧ u = .slice (some ⟨g, 0, none⟩) us.length uc ∧ Hid (OwnZ wr w.heap.size g uc us) ∧ Hid (usmall us) ∧ CurAt wr cb a n cap zs ∧ But cb w wr) (fun _ s _ => ls.length - (intOf s).toNat)
  case atStart => exact ⟨0, _, 0, [], by omega, rfl, rfl, rfl, own0, (fun i hi => by simp at hi), h0, B0⟩
  case round =>
    obtain ⟨k, g, uc, us, hk, rfl, rfl, rfl, HO, HA, hc, hb⟩ := hrel
    by_cases hlt : us.length < ls.length
    · have hlt' : (us.length : Int) < (ls.length : Int) := by omega
      have O2 := hO.blk (w' := wr) (hb.block g2 hg2 hne)
      obtain ⟨hcell, _⟩ := O2.cell (i := us.length) (f := 0) hlt (by omega)
      have hsm := hA.at_ hlt 0 (by omega)
      simp only [Nat.add_zero] at hcell
      have hmx : max 1 (ndc (ndg ls us.length) 0 + 1) = ndc (ndg ls us.length) 0 + 1 := by omega
      go_wp2_with fail
      refine (l1Max_any _ _ _).mono ?_
      rw [hmx]
      rintro e w1 ⟨rfl, rfl⟩
      go_wp2_with fail
      refine (l1Below_any cb a n cap zs _ _ hc (by omega) (by omega)).mono ?_
      rintro e w3 ⟨xa, rfl, xa0, xa1, c3, b3⟩
      have hgb := HO.out.base
      have O3 := HO.out.blk (w' := w3) (b3.block g HO.out.lt (by omega))
      have B3 := hb.trans b3
      have hz3 := B3.size
      have hcb3 := c3.lt
      have OA : (w3.alloc (.cells #[.int .i64 xa] 2)).ownsRow w.heap.size 2 1 (.slice (some ⟨g, 0, none⟩) us.length uc) us.length (us.map (Value.int .i64)) := ownI_below O3.own box_below0
      have O3l := O3.lt
      go_wp2_with (at_builtin; refine wpList_append_own_at _ rfl (.tmp 14) (.tmp 24) 25 rfl w.heap.size 2 i1 (.int .i64 0) 1 8 Try.underlying25 hj hj0 hj1 hj2 rfl (by decide) _ _ _ rfl OA ⟨w3.heap.size, 0, none⟩ 1 1 [.int .i64 xa] rfl rfl (own_one _ _ _) (by intro u hu; simp at hu; subst hu; rfl) (by unfold maxLen; omega) (by omega) (by simp; omega) ?_)
      intro v4 w4 own4 grow4 nil4 at4
      have hc4 : CurAt w4 cb a n cap zs := c3.keep (fun r hr => (grow4.block r (by simp; omega) (by simp [Value.ownBlock]; omega)).trans (Below.heap_alloc _ _ _ (by omega))) (Nat.le_trans (by simp) grow4.size)
      have B4 : But cb w w4 := (B3.alloc _).grownB (B := w.heap.size) grow4 (Nat.le_refl _) (fun r e => by have e' : g = r := Option.some.inj e; omega)
      obtain ⟨g4, c4, rfl, O4⟩ := OwnZ.of (us := us ++ [xa]) (v := v4) (w := w4) (base := w.heap.size) (by rw [List.map_append, List.length_append]; exact own4) (by simp)
      have HO4 : Hid (OwnZ w4 w.heap.size g4 c4 (us ++ [xa])) := O4
      have HA4 : Hid (usmall (us ++ [xa])) := HA.out.snoc (by omega) (by omega)
      clear own4 grow4 nil4 at4 OA O4 O2 hcell
      go_wp2
      go_roundw
      case rel => exact ⟨us.length + 1, g4, c4, us ++ [xa], by omega, by simp, by go_num, by simp, HO4, HA4, hc4, B4⟩
      case measure => simp [intOf]; omega
    · have hnl : ¬ ((us.length : Int) < (ls.length : Int)) := by omega
      have HL : Hid (us.length = ls.length) := (by omega : us.length = ls.length)
      go_wp2_with fail
      refine (l1Once_any cb a n cap zs 14 _ hc (by omega) (by omega)).mono ?_
      rintro e w2 ⟨b, rfl, c3, b3⟩
      have hgb := HO.out.base
      have O2 := HO.out.blk (w' := w2) (b3.block g HO.out.lt (by omega))
      have HO2 : Hid (OwnZ w2 w.heap.size g uc us) := O2
      have B2 := hb.trans b3
      clear hb b3 HO hc O2
      cases b with
      | false =>
        go_wp2
        go_ret
        exact ⟨g, uc, us, rfl, HO2.out.lint, HL.out, HA.out, c3, B2⟩
      | true =>
        by_cases hl : 0 < us.length
        · have hl' : (0 : Int) < (us.length : Int) := by omega
          go_wp2_with fail
          refine (l1Below_any cb a n cap zs 3 _ (c3.but (box_below0 (o := .cells tabU 2)) c3.lt) (by omega) (by omega)).mono ?_
          rintro e w5 ⟨xt, rfl, xt0, xt1, c5, b5⟩
          obtain ⟨t, rfl⟩ := Int.eq_ofNat_of_zero_le xt0
          obtain ⟨v, hv, v0, v1⟩ := tabU_at t (by omega)
          have q0 := row_at (L := tabU) b5 c3.lt hv
          have ht : t < 3 := by omega
          have O5 := HO2.out.blk (w' := w5) ((b5.block g (by have := HO2.out.lt; simp; omega) (by omega)).trans (Below.heap_alloc _ _ _ HO2.out.lt))
          obtain ⟨_, hI⟩ := O5.lint
          rcases hI with ⟨e, _⟩ | ⟨g', e, hgg, hI, hc1, hc2⟩
          · cases e
          injection e with e; injection e with e1; subst e1
          have f0 := hI.free1 0
          have s0 := IntB.cell hI (i := 0) hl
          have I6 := hI.put1 rfl (k := 0) hl v
          have c6 := c5.setNew (B := g) (j := 0) (by omega) (.int .i64 v)
          have B6 := ((B2.alloc (.cells tabU 2)).trans b5).setNew (B := g) (j := 0) hgb (.int .i64 v)
          have HI6 : Hid (IntB (w5.setCell ⟨g, 0, none⟩ (.int .i64 v)) g us.length (us.set 0 v)) := I6
          clear hv O5 I6 hI b5 c5
          go_wp2
          go_ret
          exact ⟨g, uc, us.set 0 v, ret_val (by simp), ⟨rfl, Or.inr ⟨g, rfl, hgb, by rw [List.length_set]; exact HI6.out, by rw [List.length_set]; exact hc1, hc2⟩⟩, by rw [List.length_set]; exact HL.out, HA.out.set hl v0 v1, c6, B6⟩
        · have hl' : ¬ ((0 : Int) < (us.length : Int)) := by omega
          go_wp2
          go_ret
          exact ⟨g, uc, us, rfl, HO2.out.lint, HL.out, HA.out, c3, B2⟩

/-- nodes and their numbers, drawn -/
structure NuA (w : World) (base g c g2 c2 : Nat) (ls : List Nd) (us : List Int) : Prop where
  own : OwnNode w base g c ls
  n9 : ls.length ≤ 9
  small : allSmallN ls
  lint : LInt w base (some ⟨g2, 0, none⟩) us.length c2 us
  len : us.length = ls.length
  us : usmall us
theorem NuA.below {w w' : World} {base g c g2 c2 : Nat} {ls : List Nd} {us : List Int} (h : NuA w base g c g2 c2 ls us) (hb : Below w.heap.size w w') : NuA w' base g c g2 c2 ls us :=
  ⟨h.own.below hb, h.n9, h.small, h.lint.below hb, h.len, h.us⟩
theorem NuA.low {w : World} {base base' g c g2 c2 : Nat} {ls : List Nd} {us : List Int} (h : NuA w base g c g2 c2 ls us) (hb : base' ≤ base) : NuA w base' g c g2 c2 ls us :=
  ⟨h.own.low hb, h.n9, h.small, h.lint.low hb, h.len, h.us⟩
theorem NuA.but {w w' : World} {cb base g c g2 c2 : Nat} {ls : List Nd} {us : List Int} (h : NuA w base g c g2 c2 ls us) (hb : But cb w w') (hc : cb < base) : NuA w' base g c g2 c2 ls us := by
  have h1 := h.own.base
  refine ⟨h.own.blk (hb.block g h.own.lt (by omega)), h.n9, h.small, ?_, h.len, h.us⟩
  obtain ⟨e, ⟨e1, _⟩ | ⟨g', e1, hg, hI, r⟩⟩ := h.lint
  · cases e1
  · exact ⟨e, Or.inr ⟨g', e1, hg, (by obtain ⟨cur, q1, q2⟩ := hI; exact ⟨cur, (hb.block g' (lt_of_block q1) (by omega)).trans q1, q2⟩), r⟩⟩
theorem NuA.toS {w : World} {base g c g2 c2 : Nat} {ls : List Nd} {us : List Int} (h : NuA w base g c g2 c2 ls us) : NodeS w (some ⟨g, 0, none⟩) ls.length c ls := h.own.toS h.small.wf
theorem NuA.toI {w : World} {base g c g2 c2 : Nat} {ls : List Nd} {us : List Int} (h : NuA w base g c g2 c2 ls us) : IntS w (some ⟨g2, 0, none⟩) us.length c2 us := h.lint.toS

/-- both drawn, from a cursor -/
theorem NuA.drawn {w1 w2 w3 : World} {cb g c g2 c2 : Nat} {ls : List Nd} {us : List Int} (hcb : cb < w1.heap.size) (O : OwnNode w2 w1.heap.size g c ls) (hy : ls.length ≤ 9) (hA : allSmallN ls) (b2 : But cb w1 w2) (L : LInt w3 w2.heap.size (some ⟨g2, 0, none⟩) us.length c2 us) (hl : us.length = ls.length) (hu : usmall us) (b3 : But cb w2 w3) : NuA w3 w1.heap.size g c g2 c2 ls us := by
  have := O.base
  exact ⟨O.blk (b3.block g O.lt (by omega)), hy, hA, L.low b2.size, hl, hu⟩

set_option maxHeartbeats 1000000 in
theorem drawUsedOk_any (a : Option Addr) (n cap : Nat) (zs : List Int) (w : World) (h : IsBytes w a n cap zs) (hn : n ≤ 4096) :
    Calls Try.prog 44 #[.slice a n cap] w fun e w' => ∃ g c g2 c2 ls us, e = .returned (.tuple #[.slice (some ⟨g, 0, none⟩) ls.length c, .slice (some ⟨g2, 0, none⟩) us.length c2]) ∧ NuA w' w.heap.size g c g2 c2 ls us ∧ Below w.heap.size w w' := by
  go_enter Try.func44, Try.ntmps44
  go_wp2_with fail
  refine (l1New_any a n cap zs _ h hn).mono ?_
  rintro e w1 ⟨cb, rfl, hcb, c1, U1⟩
  have z1 := U1.size
  have hcb1 := c1.lt
  go_wp2_with fail
  refine (l11Draw_any cb a n cap zs _ c1).mono ?_
  rintro e w2 ⟨g, c, ys, rfl, O, hy, hA, c2, b2⟩
  have hgb := O.base
  go_wp2_with fail
  refine (l11DrawUsed_any cb a n cap zs g c _ ys _ c2 O (by omega) hy hA).mono ?_
  rintro e w3 ⟨g2, k2, us, rfl, L, hul, hus, c3, b3⟩
  have N3 := NuA.drawn hcb1 O hy hA b2 L hul hus b3
  have HN : Hid (NuA w3 w1.heap.size g c g2 k2 ys us) := N3
  clear N3 hul hy
  go_wp2
  go_ret2
  exact ⟨g, c, g2, k2, ys, us, rfl, HN.out.low z1, U1.trans ((b2.trans b3).below hcb z1)⟩

theorem drawReady_any (a : Option Addr) (n cap : Nat) (zs : List Int) (w : World) (h : IsBytes w a n cap zs) (hn : n ≤ 4096) :
    Calls Try.prog 12 #[.slice a n cap] w fun e w' => ∃ g c g2 c2 ls us, e = .returned (.tuple #[.slice (some ⟨g, 0, none⟩) ls.length c, .slice (some ⟨g2, 0, none⟩) us.length c2]) ∧ NuA w' w.heap.size g c g2 c2 ls us ∧ Below w.heap.size w w' := by
  go_enter Try.func12, Try.ntmps12
  go_wp2_with fail
  refine (drawUsedOk_any a n cap zs _ h hn).mono ?_
  rintro e w1 ⟨g, c, g2, c2, ls, us, rfl, N, hb⟩
  go_wp2
  go_ret2
  exact ⟨g, c, g2, c2, ls, us, rfl, N, hb⟩

set_option maxHeartbeats 1000000 in
theorem drawPicked_any (a : Option Addr) (n cap : Nat) (zs : List Int) (w : World) (h : IsBytes w a n cap zs) (hn : n ≤ 4096) :
    Calls Try.prog 39 #[.slice a n cap] w fun e w' => ∃ g c g2 c2 ls us x, e = .returned (.tuple #[.slice (some ⟨g, 0, none⟩) ls.length c, .slice (some ⟨g2, 0, none⟩) us.length c2, .int .i64 x]) ∧ NuA w' w.heap.size g c g2 c2 ls us ∧ -1 ≤ x ∧ x ≤ 9 ∧ Below w.heap.size w w' := by
  go_enter Try.func39, Try.ntmps39
  go_wp2_with fail
  refine (l1New_any a n cap zs _ h hn).mono ?_
  rintro e w1 ⟨cb, rfl, hcb, c1, U1⟩
  have z1 := U1.size
  have hcb1 := c1.lt
  go_wp2_with fail
  refine (l11Draw_any cb a n cap zs _ c1).mono ?_
  rintro e w2 ⟨g, c, ys, rfl, O, hy, hA, c2, b2⟩
  have hgb := O.base
  go_wp2_with fail
  refine (l11DrawUsed_any cb a n cap zs g c _ ys _ c2 O (by omega) hy hA).mono ?_
  rintro e w3 ⟨g2, k2, us, rfl, L, hul, hus, c3, b3⟩
  have N3 := NuA.drawn hcb1 O hy hA b2 L hul hus b3
  have HN : Hid (NuA w3 w1.heap.size g c g2 k2 ys us) := N3
  clear N3 hul hy
  go_wp2_with fail
  refine (l1FromN_any cb a n cap zs (-1) 9 _ c3 (by omega) (by omega) (by omega)).mono ?_
  rintro e w4 ⟨x, rfl, x0, x1, c4, b4⟩
  go_wp2
  go_ret3
  exact ⟨g, c, g2, k2, ys, us, x, rfl, (HN.out.but b4 hcb1).low z1, x0, x1, U1.trans (((b2.trans b3).trans b4).below hcb z1)⟩

end Go.Proofs.Ytkkbfblgnejonaa
