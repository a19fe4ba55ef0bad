/- The program's chapter 13, eighth part: InUse. -/
import Derived.Test.YthgdjecbaomffaaStI7
namespace Go.Proofs.Ythgdjecbaomffaa
open Go.RowKit Go.Sort

set_option maxHeartbeats 2000000 in
theorem implInUse_any (s : St) (na : Option Addr) (nc : Nat) (ea : Option Addr) (ec : Nat) (w : World) (h : StS w s na nc ea ec) (hs : stSmall s) :
    Calls Try.prog 21 #[stV s na nc ea ec] w fun e w' => ∃ v c, e = .returned (.slice v (iuA s).length c) ∧ LInt w' w.heap.size v (iuA s).length c (iuA s) ∧ Below w.heap.size w w' := by
  have C1 : ∀ W, Below w.heap.size w W → _ := fun W hW => implStateOk_any s na nc ea ec W (h.below hW) hs
  have C2 : ∀ W, Below w.heap.size w W → _ := fun W hW => implUsed_any s na nc ea ec W (h.below hW) hs
  unfold stV at C1 C2 ⊢
  obtain ⟨u, hu⟩ : ∃ u, u = iuA s := ⟨_, rfl⟩
  have HU : Hid (u = iuA s) := hu
  rw [← hu]
  clear hu
  obtain ⟨W0, hW0⟩ : ∃ W0, W0 = w.alloc (.cells #[.int .i64 s.now, .slice na s.nodes.length nc, .slice ea s.ents.length ec, .int .i64 s.next, .int .i64 s.eps] 31) := ⟨_, rfl⟩
  have B0 : Below w.heap.size w W0 := by rw [hW0]; exact box_below0
  have x0 : W0.heap[w.heap.size]? = some (.cells #[.int .i64 s.now, .slice na s.nodes.length nc, .slice ea s.ents.length ec, .int .i64 s.next, .int .i64 s.eps] 31 (0, 0)) := by rw [hW0]; exact heap_alloc_new _ _
  have l0 := lt_of_block x0
  have HT : Hid (∀ X, Below W0.heap.size W0 X → Box5 X w.heap.size (.int .i64 s.now) (.slice na s.nodes.length nc) (.slice ea s.ents.length ec) (.int .i64 s.next) (.int .i64 s.eps)) := fun X hX => box5 ((hX.block _ l0).trans x0)
  obtain ⟨p0, p1, p2, p3, p4, _, _, _, _, _⟩ := HT.out _ (Below.refl _ _)
  clear h hs x0 l0
  go_enter Try.func21, Try.ntmps21
  go_upto_region 1 with fail
  rw [← hW0]
  clear hW0
  rcases q1 : soB s with _ | _
  · have E : Hid (u = []) := HU.out.trans (by unfold iuA; rw [q1]; rfl)
    clear HU
    go_wp2_with (go_at_call 10; refine (C1 _ B0).mono ?_; rw [q1]; rintro e1 w1 ⟨rfl, hb1⟩)
    go_ret
    exact ⟨none, 0, by rw [E.out]; rfl, by rw [E.out]; exact ⟨rfl, Or.inl ⟨rfl, rfl, rfl⟩⟩, B0.then hb1 B0.size⟩
  · have E : Hid (u = iuK s s.ents.length) := HU.out.trans (by unfold iuA; rw [q1]; rfl)
    clear HU
    generalize iuK s s.ents.length = u2 at C2 E
    go_wp2_with (first | (go_at_call 10; refine (C1 _ B0).mono ?_; rw [q1]; rintro e1 w1 ⟨rfl, hb1⟩; obtain ⟨a0, a1, a2, a3, a4, _, _, _, _, _⟩ := HT.out _ hb1) | (go_at_call 49; refine (C2 _ (B0.then hb1 B0.size)).mono ?_; rintro e2 w2 ⟨v, c, rfl, hL, hb2⟩))
    have B1 := B0.then hb1 B0.size
    go_ret
    exact ⟨v, c, by rw [E.out]; rfl, by rw [E.out]; exact hL.low B1.size, B1.then hb2 B1.size⟩

end Go.Proofs.Ythgdjecbaomffaa
