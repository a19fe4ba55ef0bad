/- Chapter 13's model: Waits. -/
import Derived.Test.YtdgfkcobhhlfbaaGreatStateS7
namespace Go.Proofs.YtdgfkcobhhlfbaaGreat
open Go.RowKit Go.Sort

/-- those that wait, in a queue's order; none of a state that is not right -/
def IsW (s : St) (ys : List Jb) : Prop := (soB s = false ∧ ys = []) ∨ (soB s = true ∧ IsQ (wtK s.ents s.ents.length) ys)
theorem IsW.uniq {s : St} {ys zs : List Jb} (h : IsW s ys) (g : IsW s zs) : ys = zs := by
  rcases h with ⟨h1, rfl⟩ | ⟨h1, h2⟩ <;> rcases g with ⟨g1, rfl⟩ | ⟨g1, g2⟩
  · rfl
  · rw [h1] at g1; cases g1
  · rw [h1] at g1; cases g1
  · exact h2.uniq g2
theorem IsW.len {s : St} {ys : List Jb} (h : IsW s ys) : ys.length ≤ 40 := by
  rcases h with ⟨_, rfl⟩ | ⟨_, h2⟩
  · exact Nat.zero_le _
  · exact h2.len

set_option maxHeartbeats 2000000 in
theorem specWaits_any (s : St) (na : Option Addr) (nc : Nat) (ea : Option Addr) (ec : Nat) (w : World) (h : StS w s na nc ea ec) (hs : stSmall s) :
    Calls Tryz.prog 5 #[stV s na nc ea ec] w fun e w' => ∃ v m c ys, e = .returned (.slice v m c) ∧ JobS w' v m c ys ∧ IsW s ys ∧ Below w.heap.size w w' := by
  have CS := fun W hW => specStateOk_any s na nc ea ec W hW hs
  have CU := fun W hW => l13Waits_any s na nc ea ec W hW hs.2.1
  unfold stV at CS CU ⊢
  obtain ⟨W0, hW0⟩ : ∃ W0, W0 = w.alloc (.cells #[.int .i64 s.now, .slice na s.nodes.length nc, .slice ea s.ents.length ec, .int .i64 s.next, .int .i64 s.eps] 32) := ⟨_, rfl⟩
  have B0 : Below w.heap.size w W0 := by rw [hW0]; exact box_below0
  have x0 : W0.heap[w.heap.size]? = some (.cells #[.int .i64 s.now, .slice na s.nodes.length nc, .slice ea s.ents.length ec, .int .i64 s.next, .int .i64 s.eps] 32 (0, 0)) := by rw [hW0]; exact heap_alloc_new _ _
  have l0 := lt_of_block x0
  have HX : Hid (∀ W, Below W0.heap.size W0 W → Box5 W w.heap.size (.int .i64 s.now) (.slice na s.nodes.length nc) (.slice ea s.ents.length ec) (.int .i64 s.next) (.int .i64 s.eps)) := fun W hW => box5 ((hW.block _ l0).trans x0)
  have HSS : Hid (∀ W, Below W0.heap.size W0 W → StS W s na nc ea ec) := fun W hW => h.below (B0.then hW B0.size)
  obtain ⟨c0, c1, c2, c3, c4, _, _, _, _, _⟩ := box5 x0
  go_enter Tryz.func5, Tryz.ntmps5
  go_upto_region 1 with fail
  rw [← hW0]
  clear hW0 x0 l0 h
  rcases hso : soB s with _ | _
  · have E : Hid (IsW s []) := Or.inl ⟨hso, rfl⟩
    rw [hso] at CS
    go_wp2_with (go_at_call 15; refine (CS _ (HSS.out _ (Below.refl _ _))).mono ?_; rintro e w2 ⟨rfl, hb2⟩; have H2 : Hid (Below W0.heap.size W0 w2) := hb2; clear hb2)
    go_ret
    exact ⟨some ⟨w2.heap.size, 0, none⟩, 0, 0, [], rfl, ⟨rfl, Nat.le_refl _, Nat.zero_le _, (fun h => by cases h), (fun i hi => by omega), fun h => by omega⟩, E.out, (B0.then H2.out B0.size).alloc (B0.then H2.out B0.size).size _⟩
  · have E : Hid (∀ ys, IsQ (wtK s.ents s.ents.length) ys → IsW s ys) := fun ys h => Or.inr ⟨hso, h⟩
    rw [hso] at CS
    go_wp2_with (first
      | (go_at_call 15; refine (CS _ (HSS.out _ (Below.refl _ _))).mono ?_; rintro e w2 ⟨rfl, hb2⟩; have H2 : Hid (Below W0.heap.size W0 w2) := hb2; clear hb2 c0 c1 c2 c3 c4; obtain ⟨c0, c1, c2, c3, c4, _, _, _, _, _⟩ := HX.out _ H2.out)
      | (go_at_call 16; refine (CU _ (HSS.out _ H2.out)).mono ?_; rintro e w3 ⟨v3, m3, c3', ys, rfl, J3, Q3, hb3⟩; have H3 : Hid (Below w2.heap.size w2 w3) := hb3; have HQ : Hid (IsW s ys) := E.out ys Q3; clear hb3 Q3))
    go_ret
    have Z2 := B0.then H2.out B0.size
    exact ⟨v3, m3, c3', ys, rfl, J3, HQ.out, Z2.then H3.out Z2.size⟩

end Go.Proofs.YtdgfkcobhhlfbaaGreat
