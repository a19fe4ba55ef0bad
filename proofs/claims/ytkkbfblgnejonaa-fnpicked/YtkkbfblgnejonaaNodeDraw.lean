/- Nodes drawn. What is drawn is not reckoned, only that nodes come, each number small. -/
import Derived.Test.YtkkbfblgnejonaaNodeSet
import Derived.Test.YtkkbfblgnejonaaNodeRow
import Derived.Test.YtkkbfblgnejonaaDraw
namespace Go.Proofs.Ytkkbfblgnejonaa
open Go.RowKit Go.Sort

/-- a drawn node: its numbers are small -/
def ndsmall (j : Nd) : Prop := ∀ c, c < 2 → 0 ≤ ndc j c ∧ ndc j c ≤ 101
theorem ndsmall.wf {j : Nd} (h : ndsmall j) : ndwf j := fun c hc => by have := h c hc; omega
theorem ndset_small {j : Nd} (h : ndsmall j) {f : Nat} (hf : f < 2) {z : Int} (h0 : 0 ≤ z) (h1 : z ≤ 101) : ndsmall (ndset j f z) := by
  intro c hc
  rw [ndset_c j f c z hf hc]
  split
  · omega
  · exact h c hc
def allSmallN (ys : List Nd) : Prop := ∀ y ∈ ys, ndsmall y
theorem allSmallN.snoc {ys : List Nd} {j : Nd} (h : allSmallN ys) (hj : ndsmall j) : allSmallN (ys ++ [j]) := by
  intro y hy
  rcases List.mem_append.1 hy with h1 | h1
  · exact h y h1
  · rw [List.mem_singleton.1 h1]; exact hj
theorem allSmallN.set {ys : List Nd} (h : allSmallN ys) {i f : Nat} (hi : i < ys.length) (hf : f < 2) {z : Int} (h0 : 0 ≤ z) (h1 : z ≤ 101) : allSmallN (ys.set i (ndset (ndg ys i) f z)) := by
  intro y hy
  rcases List.mem_or_eq_of_mem_set hy with h2 | rfl
  · exact h y h2
  · exact ndset_small (by rw [ndg_get hi]; exact h _ (List.getElem_mem hi)) hf h0 h1
theorem allSmallN.wf {ys : List Nd} (h : allSmallN ys) : ∀ i, i < ys.length → ndwf (ndg ys i) := fun i hi => by
  rw [ndg_get hi]; exact (h _ (List.getElem_mem hi)).wf
theorem allSmallN.at_ {ys : List Nd} (h : allSmallN ys) {i : Nat} (hi : i < ys.length) : ndsmall (ndg ys i) := by
  rw [ndg_get hi]; exact h _ (List.getElem_mem hi)
theorem allSmallN.made (k : Nat) : allSmallN (List.replicate k nd0) := fun y hy => by
  rw [(List.mem_replicate.1 hy).2]
  intro c hc
  rcases c with _ | _ | c
  · exact ⟨Int.le_refl _, by show (0 : Int) ≤ 101; omega⟩
  · exact ⟨Int.le_refl _, by show (0 : Int) ≤ 101; omega⟩
  · omega
theorem ndcells_made : ∀ k : Nat, ndcells (List.replicate k nd0) = List.replicate (k * 2) (.int .i64 0)
  | 0 => rfl
  | k + 1 => by
    have ih := ndcells_made k
    have e : ndcells (List.replicate (k + 1) nd0) = [.int .i64 0, .int .i64 0] ++ ndcells (List.replicate k nd0) := by
      rw [List.replicate_succ]; rfl
    rw [e, ih, show (k + 1) * 2 = (k * 2 + 1) + 1 by omega, List.replicate_succ, List.replicate_succ]; rfl

theorem made_zeros (m : Nat) : (madeCells (Value.agg #[.int .i64 0, .int .i64 0]).cells m).toList = List.replicate m (.int .i64 0) := by
  have e : (Value.agg #[.int .i64 0, .int .i64 0]).cells = #[.int .i64 0, .int .i64 0] := rfl
  rw [e]
  refine List.eq_replicate_iff.2 ⟨by simp [madeCells], fun x hx => ?_⟩
  simp only [madeCells, Array.toList_map, List.mem_map] at hx
  obtain ⟨i, _, rfl⟩ := hx
  have hi : i % 2 = 0 ∨ i % 2 = 1 := by omega
  show (#[Value.int .i64 0, .int .i64 0] : Array Value)[i % 2]! = _
  rcases hi with h | h <;> rw [h] <;> rfl
/-- nodes made at once -/
theorem ownNode_made (w : World) (base k : Nat) (cs : Array Value) (hcs : cs.toList = List.replicate (k * 2) (.int .i64 0)) (hk : k ≤ 9) (hb : base ≤ w.heap.size) : OwnNode (w.alloc (.cells cs 32)) base w.heap.size k (List.replicate k nd0) := by
  have hz : cs.size = k * 2 := by rw [← Array.length_toList, hcs, List.length_replicate]
  have hl : (List.replicate k nd0).length = k := List.length_replicate
  refine ⟨?_, by rw [hl]; exact Nat.le_refl _, by unfold maxLen; omega, hb, by simp⟩
  rw [hl, ndcells_made]
  exact ⟨by simp, .inr ⟨w.heap.size, k, cs, rfl, hb, heap_alloc_new w _, Nat.le_refl _, by unfold maxLen; omega, hz, by rw [hcs]; simp⟩⟩

def tabN0 : Array Value := #[.int .i64 0, .int .i64 100, .int .i64 101]
theorem tabN0_at : ∀ k, k < 3 → ∃ v : Int, tabN0[k]? = some (.int .i64 v) ∧ 0 ≤ v ∧ v ≤ 101
  | 0, _ => ⟨_, rfl, by omega, by omega⟩
  | 1, _ => ⟨_, rfl, by omega, by omega⟩
  | 2, _ => ⟨_, rfl, by omega, by omega⟩
def tabN1 : Array Value := #[.int .i64 0, .int .i64 4]
theorem tabN1_at : ∀ k, k < 2 → ∃ v : Int, tabN1[k]? = some (.int .i64 v) ∧ 0 ≤ v ∧ v ≤ 101
  | 0, _ => ⟨_, rfl, by omega, by omega⟩
  | 1, _ => ⟨_, rfl, by omega, by omega⟩
def tabN2 : Array Value := #[.int .i64 0, .int .i64 8, .int .i64 9]
theorem tabN2_at : ∀ k, k < 3 → ∃ v : Nat, tabN2[k]? = some (.int .i64 (v : Int)) ∧ v ≤ 9
  | 0, _ => ⟨0, rfl, by omega⟩
  | 1, _ => ⟨8, rfl, by omega⟩
  | 2, _ => ⟨9, rfl, by omega⟩

set_option maxRecDepth 8000 in
set_option maxHeartbeats 1000000 in
theorem l11Draw_any (cb : Nat) (a : Option Addr) (n cap : Nat) (zs : List Int) (w : World) (h : CurAt w cb a n cap zs) :
    Calls Try.prog 60 #[.pointer (some ⟨cb, 0, none⟩)] w fun e w' => ∃ g c ys, e = .returned (.slice (some ⟨g, 0, none⟩) ys.length c) ∧ OwnNode w' w.heap.size g c ys ∧ ys.length ≤ 9 ∧ allSmallN ys ∧ CurAt w' cb a n cap zs ∧ But cb w w' := by
  obtain ⟨i1, hj, hj0, hj1, hj2⟩ := info_parts infoNode
  have hcb := h.lt
  have h0 := h.but (box_below0 (o := .cells #[] 32)) hcb
  have own0 : OwnNode (w.alloc (.cells #[] 32)) w.heap.size w.heap.size 0 [] := ownNode_nil w
  go_enter Try.func60, Try.ntmps60
  go_wp2_with fail
  refine (l1Below_any cb a n cap zs 3 _ h0 (by omega) (by omega)).mono ?_
  rintro e w1 ⟨x, rfl, x0, x1, c1, b1⟩
  obtain ⟨k0, rfl⟩ := Int.eq_ofNat_of_zero_le x0
  have own1 := own0.blk (w' := w1) (b1.block _ (by simp) (by omega))
  have B1 : But cb w w1 := (But.of box_below0).trans b1
  clear own0 h0 b1
  go_wp2
  go_loopw [3, 4] (fun u s wr => ∃ (k g uc : Nat) (ys : List Nd), 1 ≤ k + ys.length ∧ k + ys.length ≤ 3 ∧ s = .int .i64 k ∧ u = .slice (some ⟨g, 0, none⟩) ys.length uc ∧ Hid (OwnNode wr w.heap.size g uc ys) ∧ Hid (allSmallN ys) ∧ CurAt wr cb a n cap zs ∧ But cb w wr) (fun _ s _ => (intOf s).toNat)
  case atStart => exact ⟨1 + k0, _, 0, [], by simp, by simp; omega, by go_num, rfl, own1, (fun y hy => by cases hy), c1, B1⟩
  case round =>
    obtain ⟨k, g, uc, ys, hk1, hk, rfl, rfl, HO, HA, hc, hb⟩ := hrel
    by_cases hlt : 0 < k
    · have hlt' : (0 : Int) < (k : Int) := by omega
      go_wp2_with fail
      refine (l1Below_any cb a n cap zs 4 _ hc (by omega) (by omega)).mono ?_
      rintro e w2 ⟨xa, rfl, xa0, xa1, c2, b2⟩
      have hcb2 := c2.lt
      have hgl := HO.out.lt
      have hgb := HO.out.base
      have z2 := b2.size
      have O2 := HO.out.blk (w' := w2) (b2.block g hgl (by omega))
      have B2 := hb.trans b2
      clear HO b2 hb hc
      go_wp2_with fail
      refine (l1Once_any cb a n cap zs 5 _ (c2.but (box_below0 (o := .cells #[.int .i64 (1 + xa), .int .i64 1] 32)) hcb2) (by omega) (by omega)).mono ?_
      rintro e w3 ⟨b, rfl, c3, b3⟩
      have X3 : w3.heap[w2.heap.size]? = some (.cells #[.int .i64 (1 + xa), .int .i64 1] 32 (0, 0)) := b3.other hcb2
      have O3 : OwnNode w3 w.heap.size g uc ys := (O2.below box_below0).blk (b3.block g (by have := O2.lt; simp; omega) (by omega))
      have B3 := (B2.alloc (.cells #[.int .i64 (1 + xa), .int .i64 1] 32)).trans b3
      clear c2 b3 O2
      cases b with
      | false =>
        have s0 := cell_of_blk 0 X3 (by simp)
        have s1 := cell_of_blk 1 X3 (by simp)
        simp at s0 s1
        clear X3
        have hsm : ndsmall ⟨1 + xa, 1⟩ := fun c hc => by
          obtain rfl | rfl : c = 0 ∨ c = 1 := by omega
          all_goals (simp only [ndc]; omega)
        have OA : (w3.alloc (.cells #[.int .i64 (1 + xa), .int .i64 (1)] 32)).ownsRow w.heap.size 32 2 (.slice (some ⟨g, 0, none⟩) ys.length uc) ys.length (ndcells ys) := (O3.below box_below0).own
        have hzz : w.heap.size ≤ (w3).heap.size := B3.size
        go_wp2_with (at_builtin; refine wpList_append_own_at _ rfl (.tmp 24) (.tmp 26) 24 rfl w.heap.size 32 i1 (.agg #[.int .i64 0, .int .i64 0]) 2 16 Try.underlying24 hj hj0 hj1 hj2 rfl (by decide) _ _ _ rfl OA ⟨(w3).heap.size, 0, none⟩ 1 1 [.int .i64 (1 + xa), .int .i64 (1)] rfl rfl (newNode_plain (w3) ⟨1 + xa, 1⟩ _) (ndl_one ⟨1 + xa, 1⟩) (by unfold maxLen; omega) (by omega) (by simp; omega) ?_)
        intro v3 w5 own3 grow3 nil3 at3
        have hcx : cb < (w3).heap.size := c3.lt
        have hc3 : CurAt w5 cb a n cap zs := c3.keep (fun r hr => (grow3.block r (by simp; omega) (by simp [Value.ownBlock]; omega)).trans (Below.heap_alloc _ _ _ (by omega))) (Nat.le_trans (by simp) grow3.size)
        have B5 : But cb w w5 := (B3.alloc _).grownB (B := w.heap.size) grow3 (Nat.le_refl _) (fun r e => by have e' : g = r := Option.some.inj e; omega)
        obtain ⟨g3, c5, rfl, O5⟩ := ownNode_of' (ys := ys ++ [⟨1 + xa, 1⟩]) own3 (by simp) (by rw [ndcells_app]; rfl) (by first | exact nil3 | exact fun e => nomatch (nil3.1 e).1)
        have HO3 : Hid (OwnNode w5 w.heap.size g3 c5 (ys ++ [⟨1 + xa, 1⟩])) := O5
        have HA3 : Hid (allSmallN (ys ++ [⟨1 + xa, 1⟩])) := HA.out.snoc hsm
        clear own3 grow3 nil3 at3 OA O5 hsm
        go_wp2
        go_roundw
        case rel => exact ⟨k - 1, g3, c5, ys ++ [⟨1 + xa, 1⟩], by simp; omega, by simp; omega, by go_num, by simp, HO3, HA3, hc3, B5⟩
        case measure => simp [intOf]; omega
      | true =>
        go_wp2_with fail
        refine (l1Below_any cb a n cap zs 3 _ c3 (by omega) (by omega)).mono ?_
        rintro e w4 ⟨xs, rfl, xs0, xs1, c4, b4⟩
        have hX : w2.heap.size < w3.heap.size := lt_of_block X3
        have X4 : w4.heap[w2.heap.size]? = some (.cells #[.int .i64 (1 + xa), .int .i64 1] 32 (0, 0)) := (b4.block _ hX (by omega)).trans X3
        have O4 := O3.blk (w' := w4) (b4.block g O3.lt (by omega))
        have B4 := B3.trans b4
        have hgX : g < w2.heap.size := by have := z2; omega
        have f1 := free_of_blk 1 X4
        have t1 := cell_of_blk 1 X4 (by simp)
        simp at t1
        have X5 := curSet X4 (j := 1) (.int .i64 (1 + xs))
        have s0 := cell_of_blk 0 X5 (by simp)
        have s1 := cell_of_blk 1 X5 (by simp)
        simp at s0 s1
        have O5 : OwnNode (w4.setCell ⟨w2.heap.size, 1, none⟩ (.int .i64 (1 + xs))) w.heap.size g uc ys := O4.blk (Below.heap_setCell _ _ _ _ (by show g ≠ w2.heap.size; omega))
        have B5 : But cb w (w4.setCell ⟨w2.heap.size, 1, none⟩ (.int .i64 (1 + xs))) := B4.setNew (by have := B2.size; omega) _
        have c5 : CurAt (w4.setCell ⟨w2.heap.size, 1, none⟩ (.int .i64 (1 + xs))) cb a n cap zs := c4.setNew hcb2 _
        have B4s := B4.size
        have O4l := O4.lt
        clear X3 X4 X5 O3 O4 B3 B4 c3 c4 b4
        have hsm : ndsmall ⟨1 + xa, 1 + xs⟩ := fun c hc => by
          obtain rfl | rfl : c = 0 ∨ c = 1 := by omega
          all_goals (simp only [ndc]; omega)
        have OA : ((w4.setCell ⟨w2.heap.size, 1, none⟩ (.int .i64 (1 + xs))).alloc (.cells #[.int .i64 (1 + xa), .int .i64 (1 + xs)] 32)).ownsRow w.heap.size 32 2 (.slice (some ⟨g, 0, none⟩) ys.length uc) ys.length (ndcells ys) := (O5.below box_below0).own
        have NP := newNode_plain (w4.setCell ⟨w2.heap.size, 1, none⟩ (.int .i64 (1 + xs))) ⟨1 + xa, 1 + xs⟩ 32
        have hs5 : (w4.setCell ⟨w2.heap.size, 1, none⟩ (.int .i64 (1 + xs))).heap.size = w4.heap.size := by simp [World.setCell]
        have hz4 : w.heap.size ≤ w4.heap.size := B4s
        have hO4 : g < w4.heap.size := O4l
        rw [hs5] at NP
        have hzz : w.heap.size ≤ ((w4.setCell ⟨w2.heap.size, 1, none⟩ (.int .i64 (1 + xs)))).heap.size := B5.size
        go_wp2_with (at_builtin; refine wpList_append_own_at _ rfl (.tmp 24) (.tmp 26) 24 rfl w.heap.size 32 i1 (.agg #[.int .i64 0, .int .i64 0]) 2 16 Try.underlying24 hj hj0 hj1 hj2 rfl (by decide) _ _ _ rfl OA ⟨w4.heap.size, 0, none⟩ 1 1 [.int .i64 (1 + xa), .int .i64 (1 + xs)] rfl rfl NP (ndl_one ⟨1 + xa, 1 + xs⟩) (by unfold maxLen; omega) (by omega) (by simp; omega) ?_)
        intro v3 w5 own3 grow3 nil3 at3
        have hcx : cb < ((w4.setCell ⟨w2.heap.size, 1, none⟩ (.int .i64 (1 + xs)))).heap.size := c5.lt
        have hc3 : CurAt w5 cb a n cap zs := c5.keep (fun r hr => (grow3.block r (by simp; omega) (by simp [Value.ownBlock]; omega)).trans (Below.heap_alloc _ _ _ (by omega))) (Nat.le_trans (by simp) grow3.size)
        have B5 : But cb w w5 := (B5.alloc _).grownB (B := w.heap.size) grow3 (Nat.le_refl _) (fun r e => by have e' : g = r := Option.some.inj e; omega)
        obtain ⟨g3, c5, rfl, O5⟩ := ownNode_of' (ys := ys ++ [⟨1 + xa, 1 + xs⟩]) own3 (by simp) (by rw [ndcells_app]; rfl) (by first | exact nil3 | exact fun e => nomatch (nil3.1 e).1)
        have HO3 : Hid (OwnNode w5 w.heap.size g3 c5 (ys ++ [⟨1 + xa, 1 + xs⟩])) := O5
        have HA3 : Hid (allSmallN (ys ++ [⟨1 + xa, 1 + xs⟩])) := HA.out.snoc hsm
        clear own3 grow3 nil3 at3 OA O5 hsm
        go_wp2
        go_roundw
        case rel => exact ⟨k - 1, g3, c5, ys ++ [⟨1 + xa, 1 + xs⟩], by simp; omega, by simp; omega, by go_num, by simp, HO3, HA3, hc3, B5⟩
        case measure => simp [intOf]; omega
    · obtain rfl : k = 0 := by omega
      have hl : 0 < ys.length := by omega
      go_wp2_with fail
      refine (l1Once_any cb a n cap zs 14 _ hc (by omega) (by omega)).mono ?_
      rintro e w2 ⟨b, rfl, c2, b2⟩
      have hgb := HO.out.base
      have HO2 : Hid (OwnNode w2 w.heap.size g uc ys) := HO.out.blk (w' := w2) (b2.block g HO.out.lt (by omega))
      have B2 := hb.trans b2
      clear hb b2 HO hc
      cases b with
      | false =>
        go_wp2
        go_ret
        exact ⟨g, uc, ys, rfl, HO2.out, by omega, HA.out, c2, B2⟩
      | true =>
        go_wp2_with fail
        refine (l1Below_any cb a n cap zs 3 _ c2 (by omega) (by omega)).mono ?_
        rintro e w4 ⟨xk, rfl, xk0, xk1, c4, b4⟩
        obtain ⟨k, rfl⟩ := Int.eq_ofNat_of_zero_le xk0
        have HO4 : Hid (OwnNode w4 w.heap.size g uc ys) := HO2.out.blk (w' := w4) (b4.block g HO2.out.lt (by omega))
        have B4 := B2.trans b4
        have hcb4 := c4.lt
        clear b4 c2 B2 HO2
        obtain rfl | rfl | rfl : k = 0 ∨ k = 1 ∨ k = 2 := by omega
        · go_wp2_with fail
          refine (l1Below_any cb a n cap zs 3 _ (c4.but (box_below0 (o := .cells tabN0 2)) hcb4) (by omega) (by omega)).mono ?_
          rintro e w5 ⟨xt, rfl, xt0, xt1, c5, b5⟩
          obtain ⟨t, rfl⟩ := Int.eq_ofNat_of_zero_le xt0
          obtain ⟨v, hv, v0, v1⟩ := tabN0_at t (by omega)
          have q0 := row_at (L := tabN0) b5 hcb4 hv
          have ht : t < 3 := by omega
          have O5 := (HO4.out.below box_below0).blk (w' := w5) (b5.block g (by have := HO4.out.lt; simp; omega) (by omega))
          obtain ⟨s0, s1⟩ := O5.cell (i := 0) (f := 0) hl (by omega)
          have O6 := O5.store (i := 0) (f := 0) hl (by omega) v
          have c6 := c5.setNew (B := g) (j := 0 * 2 + 0) (by omega) (.int .i64 v)
          have B6 := ((B4.alloc (.cells tabN0 2)).trans b5).setNew (B := g) (j := 0 * 2 + 0) hgb (.int .i64 v)
          simp only [Nat.zero_mul, Nat.zero_add] at s0 s1 O6 c6 B6
          have HO6 : Hid _ := O6
          clear hv O5 O6 b5 c5
          go_wp2
          go_ret
          exact ⟨g, uc, _, ret_val (by simp), HO6.out, by simp; omega, HA.out.set hl (by omega) v0 v1, c6, B6⟩
        · go_wp2_with fail
          refine (l1Below_any cb a n cap zs 2 _ (c4.but (box_below0 (o := .cells tabN1 2)) hcb4) (by omega) (by omega)).mono ?_
          rintro e w5 ⟨xt, rfl, xt0, xt1, c5, b5⟩
          obtain ⟨t, rfl⟩ := Int.eq_ofNat_of_zero_le xt0
          obtain ⟨v, hv, v0, v1⟩ := tabN1_at t (by omega)
          have q0 := row_at (L := tabN1) b5 hcb4 hv
          have ht : t < 2 := by omega
          have O5 := (HO4.out.below box_below0).blk (w' := w5) (b5.block g (by have := HO4.out.lt; simp; omega) (by omega))
          obtain ⟨s0, s1⟩ := O5.cell (i := 0) (f := 1) hl (by omega)
          have O6 := O5.store (i := 0) (f := 1) hl (by omega) v
          have c6 := c5.setNew (B := g) (j := 0 * 2 + 1) (by omega) (.int .i64 v)
          have B6 := ((B4.alloc (.cells tabN1 2)).trans b5).setNew (B := g) (j := 0 * 2 + 1) hgb (.int .i64 v)
          simp only [Nat.zero_mul, Nat.zero_add] at s0 s1 O6 c6 B6
          have HO6 : Hid _ := O6
          clear hv O5 O6 b5 c5
          go_wp2
          go_ret
          exact ⟨g, uc, _, ret_val (by simp), HO6.out, by simp; omega, HA.out.set hl (by omega) v0 v1, c6, B6⟩
        · go_wp2_with fail
          refine (l1Below_any cb a n cap zs 3 _ (c4.but (box_below0 (o := .cells tabN2 2)) hcb4) (by omega) (by omega)).mono ?_
          rintro e w5 ⟨xt, rfl, xt0, xt1, c5, b5⟩
          obtain ⟨t, rfl⟩ := Int.eq_ofNat_of_zero_le xt0
          obtain ⟨v, hv, v1⟩ := tabN2_at t (by omega)
          have q0 := row_at (L := tabN2) b5 hcb4 hv
          have ht : t < 3 := by omega
          have B6 := (B4.alloc (.cells tabN2 2)).trans b5
          have z6 := B6.size
          have hmk := run_makeNodes v (by omega)
          have O6 := ownNode_made w5 w.heap.size v (madeCells (Value.agg #[.int .i64 0, .int .i64 0]).cells (v * 2)) (made_zeros _) v1 z6
          have HO6 : Hid _ := O6
          have c7 := c5.but (box_below0 (o := .cells (madeCells (Value.agg #[.int .i64 0, .int .i64 0]).cells (v * 2)) 32)) c5.lt
          have B7 := B6.alloc (.cells (madeCells (Value.agg #[.int .i64 0, .int .i64 0]).cells (v * 2)) 32)
          clear hv b5 O6
          go_wp2
          go_ret
          exact ⟨w5.heap.size, v, _, ret_val (by simp), HO6.out, by simp; omega, allSmallN.made v, c7, B7⟩