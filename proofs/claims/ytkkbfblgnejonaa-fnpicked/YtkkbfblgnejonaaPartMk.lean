/- A call's own parts, marked and held; what Picked tells, as a list and a word. -/
import Derived.Test.YtkkbfblgnejonaaNodePk
import Derived.Test.YtkkbfblgnejonaaPartMark
import Derived.Test.YtkkbfblgnejonaaNodeM2
namespace Go.Proofs.Ytkkbfblgnejonaa
open Go.RowKit Go.Sort

/-- marked, k0 on -/
def PtHeld (w : World) (v : Option Addr) (n c : Nat) (k0 : Int) : Prop :=
  (v = none ∧ n = 0 ∧ c = 0) ∨ ∃ g, v = some ⟨g, 0, none⟩ ∧ n ≤ c ∧ PartB w g c n (ptmarks k0 n)
theorem PtHeld.below {w w' : World} {v : Option Addr} {n c : Nat} {k0 : Int} (h : PtHeld w v n c k0) (hb : Below w.heap.size w w') : PtHeld w' v n c k0 := by
  refine h.imp id ?_
  rintro ⟨g, e, hn, h⟩
  exact ⟨g, e, hn, h.below hb⟩
theorem markPLst_any (base : Nat) (v : Option Addr) (n c : Nat) (k0 : Int) (ys : List Pt) (w : World) (h : PLst w base v n c ys) (hn : n ≤ 1048576) (h0 : 0 ≤ k0) (h1 : k0 ≤ 1073741824) :
    Calls Try.prog 30 #[.slice v n c, .int .i64 k0] w fun e w' => e = .returned (.int .i64 (k0 + 2 * (n : Int))) ∧ PtHeld w' v n c k0 ∧ Below base w w' := by
  obtain ⟨rfl, ⟨rfl, rfl, rfl⟩ | ⟨g, rfl, O⟩⟩ := h
  · refine (markNilPart_any k0 w).mono ?_
    rintro e w' ⟨rfl, rfl⟩
    exact ⟨by simp, Or.inl ⟨rfl, rfl, rfl⟩, Below.refl _ _⟩
  · refine (markPartC_any g ys.length c k0 ys w O.toB O.le hn h0 h1).mono ?_
    rintro e w' ⟨rfl, hm, ho⟩
    exact ⟨rfl, Or.inr ⟨g, rfl, O.le, hm⟩, ho.below O.base⟩
theorem heldPLst_any (v : Option Addr) (n c : Nat) (k0 : Int) (w : World) (h : PtHeld w v n c k0) (hn : n ≤ 1048576) (h0 : 0 ≤ k0) (h1 : k0 ≤ 1073741824) :
    Calls Try.prog 31 #[.slice v n c, .int .i64 k0] w fun e w' => e = .returned (.int .i64 (k0 + 2 * (n : Int))) ∧ w' = w := by
  rcases h with ⟨rfl, rfl, rfl⟩ | ⟨g, rfl, hnc, hB⟩
  · refine (heldNilPart_any k0 w).mono ?_
    rintro e w' ⟨rfl, rfl⟩
    exact ⟨by simp, rfl⟩
  · exact heldPartC_any g n c k0 w hB hnc hn h0 h1

/-- the parts that Picked tells, none where it can't -/
noncomputable def pkl (l : List Nd) (u : List Int) (c : Int) : List Pt := (pkF l u c).getD []
theorem PkA.lst {w w' : World} {v : Option Addr} {n c : Nat} {b : Bool} {l : List Nd} {u : List Int} {x : Int} (h : PkA w w' v n c b (pkF l u x)) :
    b = (pkF l u x).isSome ∧ n = (pkl l u x).length ∧ PLst w' w.heap.size v (pkl l u x).length c (pkl l u x) := by
  unfold pkl
  cases e : pkF l u x with
  | none => rw [e] at h; obtain ⟨rfl, h⟩ := h; exact ⟨rfl, h.1, by have := h.1; subst this; exact h⟩
  | some ps => rw [e] at h; obtain ⟨rfl, h⟩ := h; exact ⟨rfl, h.1, by have := h.1; subst this; exact h⟩
theorem pkF_some {l : List Nd} {u : List Int} {x : Int} (h : (pkF l u x).isSome = true) : UsOk l u ∧ 1 ≤ x ∧ x ≤ rdK l u l.length ∧ pkF l u x = some (pkP l u x l.length) := by
  unfold pkF at h ⊢
  by_cases c : x < 1 ∨ rdF l u < x
  · rw [if_pos c] at h; simp at h
  · rw [if_neg c]
    have us : UsOk l u := by
      rcases hq : usB l u with _ | _
      · rw [rdF_f hq] at c; omega
      · exact usB_t hq
    rw [rdF_t (usB_mk us)] at c
    exact ⟨us, by omega, by omega, rfl⟩
theorem pkl_ok (l : List Nd) (u : List Int) (x : Int) : (pkl l u x).length ≤ 8 ∧ ∀ i, i < (pkl l u x).length → ptwf (ptg (pkl l u x) i) := by
  unfold pkl
  rcases e : (pkF l u x).isSome with _ | _
  · have : pkF l u x = none := by simpa using e
    rw [this]
    exact ⟨Nat.zero_le _, fun i hi => by simp at hi⟩
  · obtain ⟨us, h1, h2, h3⟩ := pkF_some e
    rw [h3]
    have hn := us.ns.n2
    have hl := pkP_len (l := l) (u := u) (c := x) l.length
    refine ⟨by simp only [Option.getD_some]; omega, fun i hi => ?_⟩
    simp only [Option.getD_some] at hi ⊢
    obtain ⟨j, hj, e1, e2, e3, e4⟩ := (pkP_at us (by omega) l.length (Nat.le_refl _)).1 i hi
    have hb := pkN_bd (c := x) (by omega) us hj
    intro c hc
    rcases c with _ | _ | c
    · show -9223372036854775808 ≤ (ptg (pkP l u x l.length) i).node ∧ (ptg (pkP l u x l.length) i).node ≤ 9223372036854775807
      omega
    · show -9223372036854775808 ≤ (ptg (pkP l u x l.length) i).cores ∧ (ptg (pkP l u x l.length) i).cores ≤ 9223372036854775807
      omega
    · omega
end Go.Proofs.Ytkkbfblgnejonaa
