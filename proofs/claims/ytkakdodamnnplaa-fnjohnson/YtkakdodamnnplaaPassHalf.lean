/- Johnson's order by two halves: plain mathematics. -/
import Derived.Test.YtkakdodamnnplaaPassQ
import Derived.Test.YtkakdodamnnplaaCmp
namespace Go.Proofs.Ytkakdodamnnplaa
open Go.Sort

/-- first by a number, the least first, then by Id -/
def keyA (x y : Pz) : Int := or2 (cmpI x.a y.a) (cmpI x.id y.id)
/-- first by a number, the greatest first, then by Id -/
def keyB (x y : Pz) : Int := or2 (cmpI y.b x.b) (cmpI x.id y.id)
/-- the first half -/
def risP (x : Pz) : Bool := decide (x.a < x.b)

theorem keyA_lt (x y : Pz) : decide (keyA x y < 0) = decide (x.a < y.a ∨ (x.a = y.a ∧ x.id < y.id)) := or2_lt _ _ _ _
theorem keyB_lt (x y : Pz) : decide (keyB x y < 0) = decide (y.b < x.b ∨ (y.b = x.b ∧ x.id < y.id)) := or2_lt _ _ _ _

theorem pw_keyA {A : List Pz} (hA : ∀ x ∈ A, risP x = true) (h : A.Pairwise fun x y => decide (keyA y x < 0) = false) : A.Pairwise notLaterP :=
  List.Pairwise.imp_of_mem (fun {x y} hx hy h1 => by
    have hx := of_decide_eq_true (hA x hx)
    have hy := of_decide_eq_true (hA y hy)
    rw [keyA_lt] at h1
    have h1 := of_decide_eq_false h1
    show ltJ y x = false
    rw [Bool.eq_false_iff]; intro hc
    have := ltJ_iff.1 hc
    omega) h
theorem pw_keyB {A : List Pz} (hA : ∀ x ∈ A, risP x = false) (h : A.Pairwise fun x y => decide (keyB y x < 0) = false) : A.Pairwise notLaterP :=
  List.Pairwise.imp_of_mem (fun {x y} hx hy h1 => by
    have hx := of_decide_eq_false (hA x hx)
    have hy := of_decide_eq_false (hA y hy)
    rw [keyB_lt] at h1
    have h1 := of_decide_eq_false h1
    show ltJ y x = false
    rw [Bool.eq_false_iff]; intro hc
    have := ltJ_iff.1 hc
    omega) h

theorem isJ_halves {ls A B : List Pz} (hq : psB ls = true) (pA : A.Perm (ls.filter risP)) (pB : B.Perm (ls.filter fun x => !risP x))
    (hA : A.Pairwise fun x y => decide (keyA y x < 0) = false) (hB : B.Pairwise fun x y => decide (keyB y x < 0) = false) : IsJ ls (A ++ B) := by
  have mA : ∀ x ∈ A, risP x = true := fun x hx => (List.mem_filter.1 (pA.subset hx)).2
  have mB : ∀ x ∈ B, risP x = false := fun x hx => by simpa using (List.mem_filter.1 (pB.subset hx)).2
  refine Or.inr ⟨hq, (pA.append pB).trans (List.filter_append_perm risP ls), List.pairwise_append.2 ⟨pw_keyA mA hA, pw_keyB mB hB, fun x hx y hy => ?_⟩⟩
  have h1 := of_decide_eq_true (mA x hx)
  have h2 := of_decide_eq_false (mB y hy)
  show ltJ y x = false
  rw [Bool.eq_false_iff]; intro hc
  have := ltJ_iff.1 hc
  omega

end Go.Proofs.Ytkakdodamnnplaa
