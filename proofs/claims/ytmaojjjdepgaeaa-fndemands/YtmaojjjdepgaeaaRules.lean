/- The orders of chapter 5, what they compare: plain mathematics. -/
import Derived.Test.YtmaojjjdepgaeaaOpt
import Derived.Shelf.SlSortCmp.Insertion
namespace Go.Proofs.Ytmaojjjdepgaeaa
open Go.RowKit Go.Sort

/-- a right job -/
abbrev RJ := { x : Jb // jok x = true }
def kbyDue (x y : Jb) : Int := cmpI x.due y.due
def kbyLong (x y : Jb) : Int := cmpI x.long y.long
def kbyWorth (x y : Jb) : Int := cmpI (y.wt * x.long) (x.wt * y.long)
def cbyDue (x y : Jb) : Int := or2 (kbyDue x y) (cmpI x.id y.id)
def cbyLong (x y : Jb) : Int := or2 (kbyLong x y) (cmpI x.id y.id)
def cbyWorth (x y : Jb) : Int := or2 (kbyWorth x y) (cmpI x.id y.id)

theorem lt_cbyDue : (fun x y : RJ => decide (cbyDue x.1 y.1 < 0)) = fun x y => ltDue x.1 y.1 := by
  funext x y; exact or2_lt _ _ _ _
theorem lt_cbyLong : (fun x y : RJ => decide (cbyLong x.1 y.1 < 0)) = fun x y => ltLong x.1 y.1 := by
  funext x y; exact or2_lt _ _ _ _
theorem lt_cbyWorth : (fun x y : RJ => decide (cbyWorth x.1 y.1 < 0)) = fun x y => ltSm x.1 y.1 := by
  funext x y
  have h1 := (jok_bd x.2).1
  have h2 := (jok_bd y.2).1
  rw [show ltSm x.1 y.1 = decide (y.1.wt * x.1.long < x.1.wt * y.1.long ∨ (x.1.wt * y.1.long = y.1.wt * x.1.long ∧ x.1.id < y.1.id)) by unfold ltSm; rw [cl_eq h1, cl_eq h2]]
  refine (or2_lt _ _ _ _).trans ?_
  apply decide_eq_decide.2
  omega

theorem SWO.sub {lt : Jb → Jb → Bool} (h : SWO lt) : SWO (fun x y : RJ => lt x.1 y.1) :=
  ⟨fun x => h.irrefl x.1, fun x y z => h.trans x.1 y.1 z.1, fun x y z => h.ntrans x.1 y.1 z.1⟩

theorem swo_cbyDue : SWO (ltOf fun x y : RJ => cbyDue x.1 y.1) := by
  have : (ltOf fun x y : RJ => cbyDue x.1 y.1) = fun x y => ltDue x.1 y.1 := lt_cbyDue
  rw [this]; exact SWO.sub swo_due
theorem swo_cbyLong : SWO (ltOf fun x y : RJ => cbyLong x.1 y.1) := by
  have : (ltOf fun x y : RJ => cbyLong x.1 y.1) = fun x y => ltLong x.1 y.1 := lt_cbyLong
  rw [this]; exact SWO.sub swo_long
theorem swo_cbyWorth : SWO (ltOf fun x y : RJ => cbyWorth x.1 y.1) := by
  have : (ltOf fun x y : RJ => cbyWorth x.1 y.1) = fun x y => ltSm x.1 y.1 := lt_cbyWorth
  rw [this]; exact SWO.sub swo_sm

theorem js_all {ls : List Jb} (h : jsB ls = true) : ∀ x ∈ ls, jok x = true := by
  intro x hx
  obtain ⟨i, hi, rfl⟩ := List.getElem_of_mem hx
  have := ((jsB_t h).ok i hi).1
  rwa [jg_get hi] at this

/-- what an order of a list is -/
def IsBy (lt : Jb → Jb → Bool) (ls ys : List Jb) : Prop := (jsB ls = false ∧ ys = []) ∨ (jsB ls = true ∧ ys.Perm ls ∧ ys.Pairwise fun x y => lt y x = false)

/-- among right jobs two that neither comes first are one -/
def Anti (lt : Jb → Jb → Bool) : Prop := ∀ ls : List Jb, JsOk ls → ∀ a ∈ ls, ∀ b ∈ ls, lt a b = false → lt b a = false → a = b
theorem antiDue : Anti ltDue := fun _ h _ ha _ hb => anti_due h ha hb
theorem antiLong : Anti ltLong := fun _ h _ ha _ hb => anti_long h ha hb
theorem antiSm : Anti ltSm := fun _ h _ ha _ hb => anti_sm h ha hb

theorem IsBy.uniq {lt : Jb → Jb → Bool} (an : Anti lt) {ls ys zs : List Jb} (h : IsBy lt ls ys) (g : IsBy lt ls zs) : ys = zs := by
  rcases h with ⟨h0, rfl⟩ | ⟨h0, h1, h2⟩
  · rcases g with ⟨_, rfl⟩ | ⟨g0, _⟩
    · rfl
    · rw [h0] at g0; cases g0
  · rcases g with ⟨g0, _⟩ | ⟨_, g1, g2⟩
    · rw [h0] at g0; cases g0
    · have hok := jsB_t h0
      exact sorted_uniq (h1.trans g1.symm) h2 g2 (fun a ha b hb => an ls hok a (h1.subset ha) b (h1.subset hb))

theorem IsBy.len {lt : Jb → Jb → Bool} {ls ys : List Jb} (h : IsBy lt ls ys) : ys.length ≤ 40 := by
  rcases h with ⟨_, rfl⟩ | ⟨h0, h1, _⟩
  · simp
  · rw [h1.length_eq]; exact (jsB_t h0).n

theorem IsBy.wf {lt : Jb → Jb → Bool} {ls ys : List Jb} (h : IsBy lt ls ys) (wf : ∀ i, i < ls.length → jwf (jg ls i)) : ∀ i, i < ys.length → jwf (jg ys i) := by
  intro i hi
  rcases h with ⟨_, rfl⟩ | ⟨_, h1, _⟩
  · simp at hi
  · have hmem : jg ys i ∈ ls := h1.subset (by rw [jg_get hi]; exact List.getElem_mem hi)
    obtain ⟨j, hjl, e⟩ := List.getElem_of_mem hmem
    rw [← e, ← jg_get hjl]
    exact wf j hjl

end Go.Proofs.Ytmaojjjdepgaeaa
