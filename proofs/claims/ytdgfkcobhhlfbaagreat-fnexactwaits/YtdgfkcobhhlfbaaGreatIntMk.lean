/- A call's own numbers, or none, marked and held; a State of the call's own later on. -/
import Derived.Test.YtdgfkcobhhlfbaaGreatLInt
import Derived.Test.YtdgfkcobhhlfbaaGreatStateMk
namespace Go.Proofs.YtdgfkcobhhlfbaaGreat
open Go.RowKit Go.Sort

/-- marked, or none -/
def IHeld (w : World) (v : Option Addr) (n c : Nat) (k0 : Int) : Prop := (v = none ∧ n = 0 ∧ c = 0) ∨ ∃ g, v = some ⟨g, 0, none⟩ ∧ IntB w g n (imarks k0 n)
theorem IHeld.below {w w' : World} {v : Option Addr} {n c : Nat} {k0 : Int} (h : IHeld w v n c k0) (hb : Below w.heap.size w w') : IHeld w' v n c k0 := by
  refine h.imp id ?_
  rintro ⟨g, e, h⟩
  exact ⟨g, e, h.below hb⟩

theorem LInt.keepB {w w' : World} {base : Nat} {v : Option Addr} {n c : Nat} {ys : List Int} (h : LInt w base v n c ys) (hb : ∀ g, base ≤ g → g < w.heap.size → w'.heap[g]? = w.heap[g]?) : LInt w' base v n c ys := by
  obtain ⟨e, h⟩ := h
  refine ⟨e, h.imp id ?_⟩
  rintro ⟨g, e, h1, ⟨cur, h5, h6⟩, h3, h4⟩
  exact ⟨g, e, h1, ⟨cur, (hb g h1 (lt_of_block h5)).trans h5, h6⟩, h3, h4⟩
theorem mkSt_pos (s : St) (hs : stSmall s) : 0 ≤ mkSt s 1 := by
  have := mkTo_bd (ls := s.ents) (k0 := 1 + 2 * (s.nodes.length : Int)) (by omega) hs.2.2 s.ents.length (Nat.le_refl _)
  unfold mkSt
  omega
theorem StO.later {w w' : World} {base hi : Nat} {s : St} {Bn cn Be ce : Nat} {H : Nat → Option Nat × Nat} (h : StO w base hi s Bn cn Be ce H) (hb : Below w.heap.size w w') (hh : hi ≤ w.heap.size) : StO w' base hi s Bn cn Be ce H :=
  ⟨h.nd.blk (hb.block Bn (Nat.lt_of_lt_of_le h.n1 hh)), h.n0, h.n1, h.nc, h.nm, h.en.keep fun r _ h9 => hb.block r (Nat.lt_of_lt_of_le h9 hh), h.ec, h.em, h.ne, h.na⟩

end Go.Proofs.YtdgfkcobhhlfbaaGreat
