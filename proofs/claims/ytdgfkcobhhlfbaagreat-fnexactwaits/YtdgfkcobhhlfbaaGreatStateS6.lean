/- Chapter 13's model: PhaseOf. -/
import Derived.Test.YtdgfkcobhhlfbaaGreatStateS5
namespace Go.Proofs.YtdgfkcobhhlfbaaGreat
open Go.RowKit Go.Sort

theorem StO.toS {w w0 : World} {base hi : Nat} {s : St} {Bn Be : Nat} {H : Nat → Option Nat × Nat} {na : Option Addr} {nc : Nat} {ea : Option Addr} {ec : Nat} (h : StO w base hi s Bn s.nodes.length Be s.ents.length H) (hs : stSmall s) (g : StS w0 s na nc ea ec) :
    StS w s (some ⟨Bn, 0, none⟩) s.nodes.length (some ⟨Be, 0, none⟩) s.ents.length := ⟨h.nd.toS rfl hs.1 g.nd.wf, h.en.toS rfl h.ec h.em g.en.wf⟩

/-- the phase of the entry with this id, 0 where there is none or the state is not right -/
def IsPh (s : St) (id r : Int) : Prop := ∃ at_, IsFd s.ents id at_ ∧ ((soB s = false ∧ r = 0) ∨ (at_ < 0 ∧ r = 0) ∨ (soB s = true ∧ ∃ i : Nat, at_ = i ∧ i < s.ents.length ∧ r = (eng s.ents i).ph))
theorem IsPh.uniq {s : St} {id r r' : Int} (h : IsPh s id r) (h' : IsPh s id r') : r = r' := by
  obtain ⟨a, f, h⟩ := h
  obtain ⟨a', f', h'⟩ := h'
  obtain rfl := f.uniq f'
  rcases h with ⟨s1, rfl⟩ | ⟨s1, rfl⟩ | ⟨s1, i, rfl, _, rfl⟩ <;> rcases h' with ⟨t1, rfl⟩ | ⟨t1, rfl⟩ | ⟨t1, j, q, _, rfl⟩
  · rfl
  · rfl
  · rw [s1] at t1; cases t1
  · rfl
  · rfl
  · omega
  · rw [t1] at s1; cases s1
  · omega
  · obtain rfl : i = j := by omega
    rfl

end Go.Proofs.YtdgfkcobhhlfbaaGreat
