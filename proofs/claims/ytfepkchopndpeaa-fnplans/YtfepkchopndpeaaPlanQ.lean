/- Plans (chapter 10): each job's first fit, reserved one behind the other: plain mathematics. -/
import Derived.Test.YtfepkchopndpeaaResv3
import Derived.Test.YtfepkchopndpeaaPkB
import Derived.Test.YtfepkchopndpeaaJobQ
import Derived.Test.YtfepkchopndpeaaIntRow
namespace Go.Proofs.Ytfepkchopndpeaa
open Go.RowKit Go.Sort

/-- where a job begins: -1 with more cores than there are, Never where it never fits -/
noncomputable def plT (T : Int) (ls : List Lev) (now : Int) (j : Jb) : Int :=
  if T < j.cores then -1
  else if fitI ls now j.long j.cores < 1000000000 ∧ poB T (chgL ls (fitI ls now j.long j.cores) (laterI (fitI ls now j.long j.cores) j.long) (-j.cores)) = true then fitI ls now j.long j.cores
  else 1000000000
/-- the levels behind it -/
def plL (ls : List Lev) (j : Jb) (s : Int) : List Lev := if 0 ≤ s ∧ s < 1000000000 then chgL ls s (laterI s j.long) (-j.cores) else ls
/-- from when on the next one is looked for -/
def plN (st : Bool) (now s : Int) : Int := if st = true ∧ 0 ≤ s ∧ s < 1000000000 then s else now

/-- what is left, from when on, and the starts, behind k jobs -/
noncomputable def plS (T : Int) (st : Bool) (ls : List Lev) (now : Int) (js : List Jb) : Nat → List Lev × Int × List Int
  | 0 => (ls, now, [])
  | k + 1 =>
    let q := plS T st ls now js k
    let s := plT T q.1 q.2.1 (jg js k)
    (plL q.1 (jg js k) s, plN st q.2.1 s, q.2.2 ++ [s])
noncomputable def lefK (T : Int) (st : Bool) (ls : List Lev) (now : Int) (js : List Jb) (k : Nat) : List Lev := (plS T st ls now js k).1
noncomputable def nowK (T : Int) (st : Bool) (ls : List Lev) (now : Int) (js : List Jb) (k : Nat) : Int := (plS T st ls now js k).2.1
noncomputable def staK (T : Int) (st : Bool) (ls : List Lev) (now : Int) (js : List Jb) (k : Nat) : List Int := (plS T st ls now js k).2.2
noncomputable def at10 (T : Int) (st : Bool) (ls : List Lev) (now : Int) (js : List Jb) (k : Nat) : Int := plT T (lefK T st ls now js k) (nowK T st ls now js k) (jg js k)
variable {T : Int} {st : Bool} {ls : List Lev} {now : Int} {js : List Jb}
theorem lefK_0 : lefK T st ls now js 0 = ls := rfl
theorem nowK_0 : nowK T st ls now js 0 = now := rfl
theorem staK_0 : staK T st ls now js 0 = [] := rfl
theorem lefK_s (k : Nat) : lefK T st ls now js (k + 1) = plL (lefK T st ls now js k) (jg js k) (at10 T st ls now js k) := rfl
theorem nowK_s (k : Nat) : nowK T st ls now js (k + 1) = plN st (nowK T st ls now js k) (at10 T st ls now js k) := rfl
theorem staK_s (k : Nat) : staK T st ls now js (k + 1) = staK T st ls now js k ++ [at10 T st ls now js k] := rfl
theorem staK_len : ∀ k, (staK T st ls now js k).length = k
  | 0 => rfl
  | k + 1 => by rw [staK_s, List.length_append, staK_len k]; rfl
theorem staK_at : ∀ k i, i < k → zg (staK T st ls now js k) i = at10 T st ls now js i
  | 0, i, hi => by omega
  | k + 1, i, hi => by
    have hl := staK_len (T := T) (st := st) (ls := ls) (now := now) (js := js) k
    rw [staK_s]
    by_cases e : i = k
    · subst e
      unfold zg
      rw [List.getElem?_append_right (by omega), hl, Nat.sub_self]; rfl
    · unfold zg
      rw [List.getElem?_append_left (by omega)]
      exact staK_at k i (by omega)

theorem later_gt {s long : Int} (h1 : s < 1000000000) (h2 : 1 ≤ long) : s < laterI s long ∧ laterI s long ≤ 1000000000 := by unfold laterI; split <;> omega
theorem jok_cl {j : Jb} (h : jok j = true) : 1 ≤ j.cores ∧ j.cores ≤ 1000 ∧ 1 ≤ j.long ∧ j.long ≤ 10000 := by
  unfold jok jobB inB at h
  simp only [Bool.and_eq_true, decide_eq_true_eq] at h
  omega

/-- what goes on behind k jobs: right levels, a time -/
structure PlOk (T : Int) (ls : List Lev) (now : Int) : Prop where
  po : PO T ls
  n0 : 0 ≤ now
  n1 : now ≤ 1000000000
theorem plT_cases (h : PlOk T ls now) (j : Jb) : (T < j.cores ∧ plT T ls now j = -1) ∨
    (j.cores ≤ T ∧ plT T ls now j = fitI ls now j.long j.cores ∧ fitI ls now j.long j.cores < 1000000000 ∧ poB T (chgL ls (fitI ls now j.long j.cores) (laterI (fitI ls now j.long j.cores) j.long) (-j.cores)) = true) ∨
    (j.cores ≤ T ∧ plT T ls now j = 1000000000 ∧ (fitI ls now j.long j.cores = 1000000000 ∨ fitI ls now j.long j.cores < 1000000000 ∧ poB T (chgL ls (fitI ls now j.long j.cores) (laterI (fitI ls now j.long j.cores) j.long) (-j.cores)) = false)) := by
  have hb := h.po.fit_bd (long := j.long) (n := j.cores) h.n0 h.n1
  unfold plT
  by_cases c : T < j.cores
  · exact Or.inl ⟨c, if_pos c⟩
  · rw [if_neg c]
    by_cases f : fitI ls now j.long j.cores < 1000000000
    · rcases hp : poB T (chgL ls (fitI ls now j.long j.cores) (laterI (fitI ls now j.long j.cores) j.long) (-j.cores)) with _ | _
      · exact Or.inr (Or.inr ⟨by omega, by rw [if_neg (by simp)], Or.inr ⟨f, rfl⟩⟩)
      · exact Or.inr (Or.inl ⟨by omega, by rw [if_pos ⟨f, rfl⟩], f, rfl⟩)
    · exact Or.inr (Or.inr ⟨by omega, by rw [if_neg (fun h => f h.1)], Or.inl (by omega)⟩)
theorem plT_bd (h : PlOk T ls now) (j : Jb) : -1 ≤ plT T ls now j ∧ plT T ls now j ≤ 1000000000 := by
  have hb := h.po.fit_bd (long := j.long) (n := j.cores) h.n0 h.n1
  have := h.n0
  rcases plT_cases h j with ⟨_, e⟩ | ⟨_, e, h1, _⟩ | ⟨_, e, _⟩ <;> rw [e] <;> omega
/-- who begins begins no earlier than looked for -/
theorem plT_ge (h : PlOk T ls now) (j : Jb) (h0 : 0 ≤ plT T ls now j) : now ≤ plT T ls now j := by
  have hb := h.po.fit_bd (long := j.long) (n := j.cores) h.n0 h.n1
  have := h.n1
  rcases plT_cases h j with ⟨_, e⟩ | ⟨_, e, h1, _⟩ | ⟨_, e, _⟩
  · omega
  · rw [e]; exact hb.1
  · rw [e]; omega
theorem PlOk.next (h : PlOk T ls now) (st : Bool) (j : Jb) : PlOk T (plL ls j (plT T ls now j)) (plN st now (plT T ls now j)) := by
  have hb := plT_bd h j
  refine ⟨?_, ?_, ?_⟩
  · unfold plL
    by_cases c : 0 ≤ plT T ls now j ∧ plT T ls now j < 1000000000
    · rw [if_pos c]
      rcases plT_cases h j with ⟨_, e⟩ | ⟨_, e, h1, h2⟩ | ⟨_, e, _⟩
      · omega
      · rw [e]; exact poB_t h2
      · omega
    · rw [if_neg c]; exact h.po
  · unfold plN; split
    · omega
    · exact h.n0
  · unfold plN; split
    · omega
    · exact h.n1
theorem PlOk.all (h : PlOk T ls now) : ∀ k, PlOk T (lefK T st ls now js k) (nowK T st ls now js k)
  | 0 => h
  | k + 1 => (PlOk.all h k).next st (jg js k)

/-- what Left tells behind k jobs: none where one can't be reserved, or a start is none -/
noncomputable def lfK (T : Int) (ls : List Lev) (js : List Jb) (ss : List Int) : Nat → Option (List Lev)
  | 0 => some ls
  | k + 1 => match lfK T ls js ss k with
    | none => none
    | some l =>
      if zg ss k < -1 ∨ 1000000000 < zg ss k then none
      else if zg ss k = -1 ∨ zg ss k = 1000000000 then some l
      else if resB T l (zg ss k) (laterI (zg ss k) (jg js k).long) (jg js k).cores = true then some (chgL l (zg ss k) (laterI (zg ss k) (jg js k).long) (-(jg js k).cores))
      else none
/-- what Left tells -/
noncomputable def lfF (T : Int) (ls : List Lev) (js : List Jb) (ss : List Int) : Option (List Lev) :=
  if poB T ls = true ∧ jsB js = true ∧ ss.length = js.length then lfK T ls js ss js.length else none

/-- the last end of those that begin -/
def mkK (js : List Jb) (ss : List Int) : Nat → Int
  | 0 => 0
  | k + 1 => if 0 ≤ zg ss k ∧ zg ss k < 1000000000 then max (mkK js ss k) (laterI (zg ss k) (jg js k).long) else mkK js ss k
def stOk (ss : List Int) (k : Nat) : Prop := ∀ i, i < k → -1 ≤ zg ss i ∧ zg ss i ≤ 1000000000
noncomputable def mkF (js : List Jb) (ss : List Int) : Int :=
  if jsB js = true ∧ ss.length = js.length ∧ @decide (stOk ss js.length) (Classical.propDecidable _) = true then mkK js ss js.length else -1

end Go.Proofs.Ytfepkchopndpeaa
