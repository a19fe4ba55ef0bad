/- What FnPicked asks. -/
import Derived.Test.YtkkbfblgnejonaaNodeDr2
import Derived.Test.YtkkbfblgnejonaaNodeM3
namespace Go.Proofs.Ytkkbfblgnejonaa
open Go.RowKit Go.Sort

structure PkG (ls : List Nd) (us : List Int) (x : Int) (ps : List Pt) : Prop where
  st : ∀ m, m < ps.length → ∃ i : Nat, i < ls.length ∧ (ptg ps m).node = (i : Int) ∧ (ndg ls i).state = 1 ∧ 0 < (ptg ps m).cores ∧ (ptg ps m).cores ≤ 101
  mono : ∀ m, m + 1 < ps.length → (ptg ps m).node < (ptg ps (m + 1)).node
  sum : ptSum ps ps.length = x
  bd : ∀ m, m ≤ ps.length → 0 ≤ ptSum ps m ∧ ptSum ps m ≤ 101 * (m : Int)
  len : ps.length ≤ 8
  more : ∃ mo, chF us ps 1 = some mo ∧ usB ls mo = true ∧ rdF ls mo = rdF ls us - x
theorem pkG_of {ls : List Nd} {us : List Int} {x : Int} (h : (pkF ls us x).isSome = true) : PkG ls us x (pkl ls us x) := by
  obtain ⟨hu, h1, h2, h3⟩ := pkF_some h
  have h8 := (pkl_ok ls us x).1
  have e : pkl ls us x = pkP ls us x ls.length := by unfold pkl; rw [h3]; rfl
  rw [e] at h8 ⊢
  have hx : 0 ≤ x := by omega
  obtain ⟨q1, q2⟩ := pkP_at hu hx ls.length (Nat.le_refl _)
  have hst : ∀ m, m < (pkP ls us x ls.length).length → ∃ i : Nat, i < ls.length ∧ (ptg (pkP ls us x ls.length) m).node = (i : Int) ∧ (ndg ls i).state = 1 ∧ 0 < (ptg (pkP ls us x ls.length) m).cores ∧ (ptg (pkP ls us x ls.length) m).cores ≤ 101 := fun m hm => by
    obtain ⟨i, a1, a2, a3, a4, a5⟩ := q1 m hm
    have hb := pkN_bd (c := x) hx hu a1
    exact ⟨i, a1, a2, a3, by omega, by omega⟩
  have hend := pk_end hx hu h2
  refine ⟨hst, fun m hm => q2 m (m + 1) (by omega) hm, by rw [pk_sum, hend]; omega, ?_, h8, ?_⟩
  · intro m
    induction m with
    | zero => intro _; simp [ptSum]
    | succ m ih =>
      intro hm
      have h5 := ih (by omega)
      obtain ⟨i, _, _, _, a4, a5⟩ := hst m (by omega)
      simp only [ptSum]
      push_cast
      omega
  · obtain ⟨mo, m1, m2, m3⟩ := pk_taken hx hu
    refine ⟨mo, m1, usB_mk m2, ?_⟩
    rw [rdF_t (usB_mk m2), rdF_t (usB_mk hu), m3, hend]
    omega
theorem pk_none {ls : List Nd} {us : List Int} {x : Int} (h : (pkF ls us x).isSome = false) : pkl ls us x = [] ∧ (x < 1 ∨ rdF ls us < x) := by
  have e : pkF ls us x = none := by simpa using h
  refine ⟨by unfold pkl; rw [e]; rfl, ?_⟩
  by_cases c : x < 1 ∨ rdF ls us < x
  · exact c
  · unfold pkF at e; rw [if_neg c] at e; cases e
theorem given_back {a : List Int} {ps : List Pt} (hu : usmall a) (hp : PtDr ps) (hl : 0 < ((chF a ps 1).getD []).length) : (chF ((chF a ps 1).getD []) ps (-1)).getD [] = a := by
  rcases e : chF a ps 1 with _ | t
  · rw [e] at hl; simp at hl
  · simp only [Option.getD_some]
    rw [given_taken e (taken_use hu hp e)]
    rfl
theorem rdF_bd (ls : List Nd) (us : List Int) : -1 ≤ rdF ls us ∧ rdF ls us ≤ 800 := by
  rcases hq : usB ls us with _ | _
  · rw [rdF_f hq]; omega
  · have h := usB_t hq
    have hb := rdK_bd h ls.length (Nat.le_refl _)
    have := h.ns.n2
    rw [rdF_t hq]; omega
end Go.Proofs.Ytkkbfblgnejonaa
