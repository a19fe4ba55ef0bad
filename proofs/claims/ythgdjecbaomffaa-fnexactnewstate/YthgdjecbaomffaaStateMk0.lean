/- A new State that a call tells, marked and held: no Entries. -/
import Derived.Test.YthgdjecbaomffaaStateMk
import Derived.Test.YthgdjecbaomffaaStateS9
namespace Go.Proofs.Ythgdjecbaomffaa
open Go.RowKit Go.Sort

theorem markEnt0_any (ea : Option Addr) (ec : Nat) (k0 : Int) (w : World) :
    Calls Try.prog 46 #[.slice ea 0 ec, .int .i64 k0] w fun e w' => e = .returned (.int .i64 k0) ∧ w' = w := by
  go_enter Try.func46, Try.ntmps46
  go_wp2
  go_loopw [1, 5] (fun m i wr => m = .int .i64 k0 ∧ i = .int .i64 0 ∧ wr = w) (fun _ _ _ => 0)
  case atStart => exact ⟨rfl, rfl, rfl⟩
  case round =>
    obtain ⟨rfl, rfl, rfl⟩ := hrel
    go_wp2
    go_ret
    exact ⟨rfl, rfl⟩
theorem heldEnt0_any (ea : Option Addr) (ec : Nat) (k0 : Int) (w : World) :
    Calls Try.prog 48 #[.slice ea 0 ec, .int .i64 k0] w fun e w' => e = .returned (.int .i64 k0) ∧ w' = w := by
  go_enter Try.func48, Try.ntmps48
  go_wp2
  go_loopw [1, 5] (fun m i wr => m = .int .i64 k0 ∧ i = .int .i64 0 ∧ wr = w) (fun _ _ _ => 0)
  case atStart => exact ⟨rfl, rfl, rfl⟩
  case round =>
    obtain ⟨rfl, rfl, rfl⟩ := hrel
    go_wp2
    go_ret
    exact ⟨rfl, rfl⟩

def NHeld (w : World) (v : Option Addr) (n c : Nat) (k0 : Int) : Prop := (v = none ∧ n = 0 ∧ c = 0) ∨ ∃ g, v = some ⟨g, 0, none⟩ ∧ n ≤ c ∧ NodeB w g c n (ndmarks k0 n)
theorem NHeld.below {w w' : World} {v : Option Addr} {n c : Nat} {k0 : Int} (h : NHeld w v n c k0) (hb : Below w.heap.size w w') : NHeld w' v n c k0 := by
  refine h.imp id ?_
  rintro ⟨g, e, hn, cur, h1, h2⟩
  exact ⟨g, e, hn, cur, (hb.block g (lt_of_block h1)).trans h1, h2⟩
theorem markLNode_any (base : Nat) (v : Option Addr) (n c : Nat) (k0 : Int) (ys : List Nd) (w : World) (h : LNode w base v n c ys) (hn : n ≤ 1048576) (h0 : 0 ≤ k0) (h1 : k0 ≤ 1073741824) :
    Calls Try.prog 17 #[.slice v n c, .int .i64 k0] w fun e w' => e = .returned (.int .i64 (k0 + 2 * (n : Int))) ∧ NHeld w' v n c k0 ∧ Below base w w' ∧ w'.heap.size = w.heap.size ∧ ∀ r, (∀ g, v = some ⟨g, 0, none⟩ → r ≠ g) → w'.heap[r]? = w.heap[r]? := by
  obtain ⟨rfl, ⟨rfl, rfl, rfl⟩ | ⟨g, rfl, O⟩⟩ := h
  · refine (markNilNode_any k0 w).mono ?_
    rintro e w' ⟨rfl, rfl⟩
    exact ⟨by simp, Or.inl ⟨rfl, rfl, rfl⟩, Below.refl _ _, rfl, fun _ _ => rfl⟩
  · refine (markNodeC_any g ys.length c k0 ys w O.toB O.le hn h0 h1).mono ?_
    rintro e w' ⟨rfl, hm, ho⟩
    exact ⟨rfl, Or.inr ⟨g, rfl, O.le, hm⟩, ho.below O.base, ho.size, fun r hr => ho.block r (hr g rfl)⟩
theorem heldLNode_any (v : Option Addr) (n c : Nat) (k0 : Int) (w : World) (h : NHeld w v n c k0) (hn : n ≤ 1048576) (h0 : 0 ≤ k0) (h1 : k0 ≤ 1073741824) :
    Calls Try.prog 47 #[.slice v n c, .int .i64 k0] w fun e w' => e = .returned (.int .i64 (k0 + 2 * (n : Int))) ∧ w' = w := by
  rcases h with ⟨rfl, rfl, rfl⟩ | ⟨g, rfl, hnc, hB⟩
  · refine (heldNilNode_any k0 w).mono ?_
    rintro e w' ⟨rfl, rfl⟩
    exact ⟨by simp, rfl⟩
  · exact heldNodeC_any g n c k0 w hB hnc hn h0 h1

set_option maxHeartbeats 2000000 in
/-- a state without Entries, marked -/
theorem markState0_any (base : Nat) (x y z : Int) (v : Option Addr) (n c : Nat) (ea : Option Addr) (ec : Nat) (ys : List Nd) (k0 : Int) (w : World) (h : LNode w base v n c ys) (hn : n ≤ 1048576) (hb : base ≤ w.heap.size) (h0 : 0 ≤ k0) (h1 : k0 ≤ 1048576) :
    Calls Try.prog 18 #[.agg #[.int .i64 x, .slice v n c, .slice ea 0 ec, .int .i64 y, .int .i64 z], .int .i64 k0] w fun e w' => e = .returned (.int .i64 (k0 + 2 * (n : Int))) ∧ NHeld w' v n c k0 ∧ Below base w w' ∧ ∀ r, r < w.heap.size → (∀ g, v = some ⟨g, 0, none⟩ → r ≠ g) → w'.heap[r]? = w.heap[r]? := by
  obtain ⟨W0, hW0⟩ : ∃ W0, W0 = w.alloc (.cells #[.int .i64 x, .slice v n c, .slice ea 0 ec, .int .i64 y, .int .i64 z] 31) := ⟨_, rfl⟩
  have B0 : Below w.heap.size w W0 := by rw [hW0]; exact box_below0
  have x0 : W0.heap[w.heap.size]? = some (.cells #[.int .i64 x, .slice v n c, .slice ea 0 ec, .int .i64 y, .int .i64 z] 31 (0, 0)) := by rw [hW0]; exact heap_alloc_new _ _
  have hv : ∀ g, v = some ⟨g, 0, none⟩ → w.heap.size ≠ g := fun g e => by
    obtain ⟨_, ⟨e1, _⟩ | ⟨g', e1, O⟩⟩ := h
    · rw [e1] at e; cases e
    · rw [e1] at e
      injection e with e
      injection e with e _ _
      have := O.lt; omega
  have CN := markLNode_any base v n c k0 ys W0 (h.below B0) hn h0 (by omega)
  obtain ⟨c0, c1, c2, c3, c4, _, _, _, _, _⟩ := box5 x0
  have HF : Hid (∀ w1 : World, NHeld w1 v n c k0 → Below base W0 w1 → Below base w w1) := fun w1 _ h9 => (B0.mono hb).trans h9
  have HX : Hid (∀ w1 : World, (∀ r, (∀ g, v = some ⟨g, 0, none⟩ → r ≠ g) → w1.heap[r]? = W0.heap[r]?) → w1.cell? ⟨w.heap.size, 2, none⟩ = some (.slice ea 0 ec)) := fun w1 h9 => (box5 ((h9 _ hv).trans x0)).c2
  have HK : Hid (∀ w1 : World, (∀ r, (∀ g, v = some ⟨g, 0, none⟩ → r ≠ g) → w1.heap[r]? = W0.heap[r]?) → ∀ r, r < w.heap.size → (∀ g, v = some ⟨g, 0, none⟩ → r ≠ g) → w1.heap[r]? = w.heap[r]?) := fun w1 h9 r h8 h7 => (h9 r h7).trans (B0.block r h8)
  clear h x0 hv
  go_enter Try.func18, Try.ntmps18
  go_upto_region 1 with fail
  rw [← hW0]
  clear hW0
  go_wp2_with (first
    | (go_at_call 17; refine CN.mono ?_; rintro e w1 ⟨rfl, n1, b1, _, k1⟩; have c2' := HX.out w1 k1; have HN1 : Hid (NHeld w1 v n c k0) := n1; have HB1 : Hid (Below base w w1) := HF.out w1 n1 b1; have HK1 : Hid (∀ r, r < w.heap.size → (∀ g, v = some ⟨g, 0, none⟩ → r ≠ g) → w1.heap[r]? = w.heap[r]?) := HK.out w1 k1; clear n1 b1 k1)
    | (go_at_call 46; refine (markEnt0_any ea ec _ _).mono ?_; rintro e w' ⟨rfl, hq⟩; have hq' := hq.symm; clear hq; subst hq'))
  go_ret
  exact ⟨rfl, HN1.out, HB1.out, HK1.out⟩

set_option maxHeartbeats 2000000 in
theorem heldState0_any (x y z : Int) (v : Option Addr) (n c : Nat) (ea : Option Addr) (ec : Nat) (k0 : Int) (w : World) (h : NHeld w v n c k0) (hn : n ≤ 1048576) (h0 : 0 ≤ k0) (h1 : k0 ≤ 1048576) :
    Calls Try.prog 19 #[.agg #[.int .i64 x, .slice v n c, .slice ea 0 ec, .int .i64 y, .int .i64 z], .int .i64 k0] w fun e w' => e = .returned (.int .i64 (k0 + 2 * (n : Int))) ∧ Below w.heap.size w w' := by
  obtain ⟨W0, hW0⟩ : ∃ W0, W0 = w.alloc (.cells #[.int .i64 x, .slice v n c, .slice ea 0 ec, .int .i64 y, .int .i64 z] 31) := ⟨_, rfl⟩
  have B0 : Below w.heap.size w W0 := by rw [hW0]; exact box_below0
  have x0 : W0.heap[w.heap.size]? = some (.cells #[.int .i64 x, .slice v n c, .slice ea 0 ec, .int .i64 y, .int .i64 z] 31 (0, 0)) := by rw [hW0]; exact heap_alloc_new _ _
  have CN := heldLNode_any v n c k0 W0 (h.below B0) hn h0 (by omega)
  obtain ⟨c0, c1, c2, c3, c4, _, _, _, _, _⟩ := box5 x0
  have hk0 : ¬ k0 + 2 * (n : Int) < 0 := by omega
  clear h x0
  go_enter Try.func19, Try.ntmps19
  go_upto_region 1 with fail
  rw [← hW0]
  clear hW0
  go_wp2_with (first
    | (go_at_call 47; refine CN.mono ?_; rintro e w' ⟨rfl, hq⟩; have hq' := hq.symm; clear hq; subst hq')
    | (go_at_call 48; refine (heldEnt0_any ea ec _ _).mono ?_; rintro e w' ⟨rfl, hq⟩; have hq' := hq.symm; clear hq; subst hq'))
  go_ret
  exact ⟨rfl, B0⟩

theorem LNode.keepB {w w' : World} {base : Nat} {v : Option Addr} {n c : Nat} {ys : List Nd} (h : LNode w base v n c ys) (hb : ∀ g, base ≤ g → g < w.heap.size → w'.heap[g]? = w.heap[g]?) (hs : w.heap.size ≤ w'.heap.size) : LNode w' base v n c ys := by
  obtain ⟨e, h⟩ := h
  refine ⟨e, h.imp id ?_⟩
  rintro ⟨g, e, O⟩
  exact ⟨g, e, O.keepN (hb g O.base O.lt) hs⟩
theorem LNode.lt {w : World} {base : Nat} {v : Option Addr} {n c : Nat} {ys : List Nd} (h : LNode w base v n c ys) : ∀ g, v = some ⟨g, 0, none⟩ → g < w.heap.size := fun g e => by
  obtain ⟨_, ⟨e1, _⟩ | ⟨g', e1, O⟩⟩ := h
  · rw [e1] at e; cases e
  · rw [e1] at e
    injection e with e
    injection e with e _ _
    rw [← e]; exact O.lt
theorem nsS_len (l : List Nd) : (nsS l).nodes.length ≤ 8 := by
  unfold nsS
  rcases hq : nsB l with _ | _
  · exact Nat.zero_le _
  · exact (nsB_t hq).n2
theorem nsS_wf {l : List Nd} (h : ∀ i, i < l.length → ndwf (ndg l i)) : ∀ i, i < (nsS l).nodes.length → ndwf (ndg (nsS l).nodes i) := by
  unfold nsS
  rcases hq : nsB l with _ | _
  · intro i hi; exact absurd hi (Nat.not_lt_zero _)
  · exact h

end Go.Proofs.Ythgdjecbaomffaa
