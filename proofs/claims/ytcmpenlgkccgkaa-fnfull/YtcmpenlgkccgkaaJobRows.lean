/- Rows of jobs: their cells, who is ahead; no sort. -/
import Derived.Test.YtcmpenlgkccgkaaPkD
import Derived.Sort.Statements
namespace Go.Proofs.Ytcmpenlgkccgkaa
open Go.RowKit Go.Sort

theorem jl_len (x : Jb) : (jl x).length = 7 := rfl
theorem jl_one (x : Jb) : ∀ v ∈ jl x, v.oneCell' = true := by
  intro v hv
  simp [jl] at hv
  rcases hv with rfl | rfl | rfl | rfl | rfl | rfl | rfl <;> rfl
theorem jl_at (x : Jb) (c : Nat) (h : c < 7) : (jl x)[c]! = .int .i64 (jc x c) := by
  obtain rfl | rfl | rfl | rfl | rfl | rfl | rfl : c = 0 ∨ c = 1 ∨ c = 2 ∨ c = 3 ∨ c = 4 ∨ c = 5 ∨ c = 6 := by omega
  all_goals rfl
theorem jg_arr [Inhabited Jb] (d : Array Jb) (i : Nat) (h : i < d.size) : jg d.toList i = d[i]! := by
  rw [getElem!_pos d i h]
  simp [jg, h]

/-- all jobs' cells, in a row -/
def jcells (l : List Jb) : List Value := l.flatMap jl
theorem jcells_len : ∀ l : List Jb, (jcells l).length = l.length * 7
  | [] => rfl
  | x :: r => by
    have := jcells_len r
    show (jl x ++ jcells r).length = (r.length + 1) * 7
    rw [List.length_append, jl_len]; omega
theorem jcells_at : ∀ (l : List Jb) (i c : Nat), i < l.length → c < 7 → (jcells l)[i * 7 + c]? = some (.int .i64 (jc (jg l i) c))
  | x :: r, 0, c, _, hc => by
    show (jl x ++ jcells r)[0 * 7 + c]? = _
    rw [List.getElem?_append_left (by rw [jl_len]; omega)]
    obtain rfl | rfl | rfl | rfl | rfl | rfl | rfl : c = 0 ∨ c = 1 ∨ c = 2 ∨ c = 3 ∨ c = 4 ∨ c = 5 ∨ c = 6 := by omega
    all_goals rfl
  | x :: r, i + 1, c, h, hc => by
    show (jl x ++ jcells r)[(i + 1) * 7 + c]? = _
    rw [List.getElem?_append_right (by rw [jl_len]; omega), jl_len, show (i + 1) * 7 + c - 7 = i * 7 + c by omega]
    exact jcells_at r i c (by simpa using h) hc
theorem jcells_one (l : List Jb) : ∀ v ∈ jcells l, v.oneCell' = true := by
  intro v hv
  obtain ⟨x, _, hx⟩ := List.mem_flatMap.1 hv
  exact jl_one x v hx
theorem jcells_get {l : List Jb} {j : Nat} {v : Value} (h : (jcells l)[j]? = some v) : j / 7 < l.length ∧ v = .int .i64 (jc (jg l (j / 7)) (j % 7)) := by
  have hl := jcells_len l
  have hjl : j < l.length * 7 := by
    rcases Nat.lt_or_ge j (jcells l).length with h1 | h1
    · omega
    · rw [List.getElem?_eq_none h1] at h; cases h
  have h1 := jcells_at l (j / 7) (j % 7) (by omega) (by omega)
  rw [show j / 7 * 7 + j % 7 = j by omega, h] at h1
  exact ⟨by omega, Option.some.inj h1⟩

theorem ahead_iff {i r a i' r' a' : Int} : aheadB i r a i' r' a' = true ↔ r' < r ∨ (r = r' ∧ (a < a' ∨ (a = a' ∧ i < i'))) := by
  unfold aheadB
  by_cases c1 : r = r'
  · rw [if_neg (by simpa using c1)]
    by_cases c2 : a = a'
    · rw [if_neg (by simpa using c2)]; simp; omega
    · rw [if_pos c2]; simp; omega
  · rw [if_pos c1]; simp; omega

/-- one job ahead of another -/
def jlt (x y : Jb) : Bool := aheadB x.id x.rank x.at_ y.id y.rank y.at_
theorem swo_jlt : SWO jlt := by
  refine ⟨fun x => ?_, fun x y z h1 h2 => ?_, fun x y z h1 h2 => ?_⟩
  · rw [Bool.eq_false_iff]; intro h; have := ahead_iff.1 h; omega
  · have := ahead_iff.1 h1; have := ahead_iff.1 h2; exact ahead_iff.2 (by omega)
  · rw [Bool.eq_false_iff] at h1 h2 ⊢
    intro h
    have h3 := ahead_iff.1 h
    have h1' := mt ahead_iff.2 h1
    have h2' := mt ahead_iff.2 h2
    omega

/-- sorted: no later one ahead of an earlier one -/
def jsorted (l : List Jb) : Prop := ∀ i j, i < j → j < l.length → jlt (jg l j) (jg l i) = false

theorem JobS.nil_ (w : World) : JobS w none 0 0 [] := ⟨rfl, Nat.le_refl _, Nat.zero_le _, fun _ => rfl, fun i hi => by omega, fun h => by omega⟩

theorem markNilJ_any (k0 : Int) (w : World) :
    Calls Try.prog 20 #[.slice none 0 0, .int .i64 k0] w fun e w' => e = .returned (.int .i64 k0) ∧ w' = w := by
  go_enter Try.func20, Try.ntmps20
  go_wp2
  refine wp_loop_rounds 1 ?_
  rw [rounds_succ]
  go_wp2
  go_ret
  exact ⟨rfl, rfl⟩

end Go.Proofs.Ytcmpenlgkccgkaa
