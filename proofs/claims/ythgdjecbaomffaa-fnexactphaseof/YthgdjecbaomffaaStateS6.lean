/- Chapter 13's model: PhaseOf. -/
import Derived.Test.YthgdjecbaomffaaStateS5
namespace Go.Proofs.Ythgdjecbaomffaa
open Go.RowKit Go.Sort

theorem StO.toS {w w0 : World} {base hi : Nat} {s : St} {Bn Be : Nat} {H : Nat → Option Nat × Nat} {na : Option Addr} {nc : Nat} {ea : Option Addr} {ec : Nat} (h : StO w base hi s Bn s.nodes.length Be s.ents.length H) (hs : stSmall s) (g : StS w0 s na nc ea ec) :
    StS w s (some ⟨Bn, 0, none⟩) s.nodes.length (some ⟨Be, 0, none⟩) s.ents.length := ⟨h.nd.toS rfl hs.1 g.nd.wf, h.en.toS rfl h.ec h.em g.en.wf⟩

/-- the phase of the entry with this id, 0 where there is none or the state is not right -/
def IsPh (s : St) (id r : Int) : Prop := ∃ at_, IsFd s.ents id at_ ∧ ((soB s = false ∧ r = 0) ∨ (at_ < 0 ∧ r = 0) ∨ (soB s = true ∧ ∃ i : Nat, at_ = i ∧ i < s.ents.length ∧ r = (eng s.ents i).ph))
theorem IsPh.uniq {s : St} {id r r' : Int} (h : IsPh s id r) (h' : IsPh s id r') : r = r' := by
  obtain ⟨a, f, h⟩ := h
  obtain ⟨a', f', h'⟩ := h'
  obtain rfl := f.uniq f'
  rcases h with ⟨s1, rfl⟩ | ⟨s1, rfl⟩ | ⟨s1, i, rfl, _, rfl⟩ <;> rcases h' with ⟨t1, rfl⟩ | ⟨t1, rfl⟩ | ⟨t1, j, q, _, rfl⟩
  · rfl
  · rfl
  · rw [s1] at t1; cases t1
  · rfl
  · rfl
  · omega
  · rw [t1] at s1; cases s1
  · omega
  · obtain rfl : i = j := by omega
    rfl

set_option maxHeartbeats 2000000 in
theorem specPhaseOf_any (s : St) (id : Int) (na : Option Addr) (nc : Nat) (ea : Option Addr) (ec : Nat) (w : World) (h : StS w s na nc ea ec) (hs : stSmall s) :
    Calls Try.prog 25 #[stV s na nc ea ec, .int .i64 id] w fun e w' => ∃ r, e = .returned (.int .i64 r) ∧ IsPh s id r ∧ Below w.heap.size w w' := by
  have hmx := h.en.mx
  have hle := h.en.le
  unfold maxLen at hmx
  have CF := fun W hW => l13Find_any s id na nc ea ec W hW
  have CS := fun W hW => specStateOk_any s na nc ea ec W hW hs
  unfold stV at CF CS ⊢
  obtain ⟨W0, hW0⟩ : ∃ W0, W0 = w.alloc (.cells #[.int .i64 s.now, .slice na s.nodes.length nc, .slice ea s.ents.length ec, .int .i64 s.next, .int .i64 s.eps] 31) := ⟨_, rfl⟩
  have B0 : Below w.heap.size w W0 := by rw [hW0]; exact box_below0
  have x0 : W0.heap[w.heap.size]? = some (.cells #[.int .i64 s.now, .slice na s.nodes.length nc, .slice ea s.ents.length ec, .int .i64 s.next, .int .i64 s.eps] 31 (0, 0)) := by rw [hW0]; exact heap_alloc_new _ _
  have l0 := lt_of_block x0
  have HX : Hid (∀ W, Below W0.heap.size W0 W → Box5 W w.heap.size (.int .i64 s.now) (.slice na s.nodes.length nc) (.slice ea s.ents.length ec) (.int .i64 s.next) (.int .i64 s.eps)) := fun W hW => box5 ((hW.block _ l0).trans x0)
  have HSS : Hid (∀ W, Below W0.heap.size W0 W → StS W s na nc ea ec) := fun W hW => h.below (B0.then hW B0.size)
  obtain ⟨c0, c1, c2, c3, c4, _, _, _, _, _⟩ := box5 x0
  go_enter Try.func25, Try.ntmps25
  go_upto_region 1 with fail
  rw [← hW0]
  clear hW0 x0 l0 h
  go_upto_region 2 with (go_at_call 50; refine (CF _ (HSS.out _ (Below.refl _ _))).mono ?_; rintro e w1 ⟨at_, rfl, F1, hb1⟩)
  have HF : Hid (IsFd s.ents id at_) := F1
  have H1 : Hid (Below W0.heap.size W0 w1) := hb1
  clear c0 c1 c2 c3 c4 CF F1 hb1
  obtain ⟨c0, c1, c2, c3, c4, _, _, _, _, _⟩ := HX.out _ H1.out
  rcases hso : soB s with _ | _
  · have E : Hid (IsPh s id 0) := ⟨at_, HF.out, Or.inl ⟨hso, rfl⟩⟩
    rw [hso] at CS
    go_wp2_with (go_at_call 8; refine (CS _ (HSS.out _ H1.out)).mono ?_; rintro e w2 ⟨rfl, hb2⟩; have H2 : Hid (Below W0.heap.size W0 w2) := H1.out.then hb2 H1.out.size; clear hb2)
    go_ret
    exact ⟨0, rfl, E.out, B0.then H2.out B0.size⟩
  · rw [hso] at CS
    have HSO : Hid (soB s = true) := hso
    clear hso
    by_cases hneg : at_ < 0
    · have E : Hid (IsPh s id 0) := ⟨at_, HF.out, Or.inr (Or.inl ⟨hneg, rfl⟩)⟩
      go_wp2_with (go_at_call 8; refine (CS _ (HSS.out _ H1.out)).mono ?_; rintro e w2 ⟨rfl, hb2⟩; have H2 : Hid (Below W0.heap.size W0 w2) := H1.out.then hb2 H1.out.size; clear hb2)
      go_ret
      exact ⟨0, rfl, E.out, B0.then H2.out B0.size⟩
    · obtain ⟨i, rfl, hi⟩ : ∃ i : Nat, at_ = i ∧ i < s.ents.length := by
        rcases HF.out with ⟨h, _⟩ | ⟨i, hi, h, _⟩
        · omega
        · exact ⟨i, h, hi⟩
      have E : Hid (IsPh s id (eng s.ents i).ph) := ⟨_, HF.out, Or.inr (Or.inr ⟨HSO.out, i, rfl, hi, rfl⟩)⟩
      have hi' : (i : Int) < (s.ents.length : Int) := by omega
      go_upto_region 4 with (go_at_call 8; refine (CS _ (HSS.out _ H1.out)).mono ?_; rintro e w2 ⟨rfl, hb2⟩; have H2 : Hid (Below W0.heap.size W0 w2) := H1.out.then hb2 H1.out.size; clear hb2)
      clear c0 c1 c2 c3 c4
      obtain ⟨c0, c1, c2, c3, c4, _, _, _, _, _⟩ := HX.out _ H2.out
      obtain ⟨b, off, rfl, hbw, hat⟩ := (HSS.out _ H2.out).en.at_ (by omega)
      obtain ⟨v, m, Z⟩ := hat.row (i := i) hi
      have z7 := Z.c7
      clear Z hat
      generalize (eng s.ents i).ph = p at z7 E
      go_wp2
      go_ret
      exact ⟨p, rfl, E.out, B0.then H2.out B0.size⟩

end Go.Proofs.Ythgdjecbaomffaa
