/- JobsOk, of the model and of the program; numberOf. -/
import Derived.Test.YtplcpiglciplkaaJobGrow
namespace Go.Proofs.Ytplcpiglciplkaa
open Go.RowKit Go.Sort

def jok (j : Jb) : Bool := jobB j.id j.cores j.long j.due j.wt j.rank j.at_
/-- the first k jobs are right, no two with one id -/
def jokTo (ls : List Jb) (k : Nat) : Prop := ∀ i, i < k → jok (jg ls i) = true ∧ ∀ h, h < i → (jg ls h).id ≠ (jg ls i).id
/-- right jobs -/
structure JsOk (ls : List Jb) : Prop where
  n : ls.length ≤ 40
  ok : jokTo ls ls.length
noncomputable def jsB (ls : List Jb) : Bool := @decide (JsOk ls) (Classical.propDecidable _)
theorem jsB_t {ls : List Jb} (h : jsB ls = true) : JsOk ls := @of_decide_eq_true _ (Classical.propDecidable _) h
theorem jsB_f {ls : List Jb} (h : jsB ls = false) : ¬ JsOk ls := @of_decide_eq_false _ (Classical.propDecidable _) h
theorem jsB_mk {ls : List Jb} (h : JsOk ls) : jsB ls = true := @decide_eq_true _ (Classical.propDecidable _) h
theorem jsB_no {ls : List Jb} (h : ¬ JsOk ls) : jsB ls = false := @decide_eq_false _ (Classical.propDecidable _) h

theorem jokTo_succ {ls : List Jb} {k : Nat} (h : jokTo ls k) (g : jok (jg ls k) = true) (d : ∀ h, h < k → (jg ls h).id ≠ (jg ls k).id) : jokTo ls (k + 1) := by
  intro i hi
  by_cases e : i = k
  · subst e; exact ⟨g, d⟩
  · exact h i (by omega)

/-- r is where the first of the first n jobs with this id stands, -1 where there is none -/
def IsNum (ls : List Jb) (n : Nat) (id r : Int) : Prop :=
  (r = -1 ∧ ∀ i, i < n → (jg ls i).id ≠ id) ∨ ∃ k : Nat, r = k ∧ k < n ∧ (jg ls k).id = id ∧ ∀ i, i < k → (jg ls i).id ≠ id

theorem IsNum.uniq {ls : List Jb} {n : Nat} {id r s : Int} (h : IsNum ls n id r) (g : IsNum ls n id s) : r = s := by
  rcases h with ⟨rfl, h1⟩ | ⟨k, rfl, h1, h2, h3⟩
  · rcases g with ⟨rfl, _⟩ | ⟨m, rfl, g1, g2, _⟩
    · rfl
    · exact absurd g2 (h1 m g1)
  · rcases g with ⟨rfl, g1⟩ | ⟨m, rfl, g1, g2, g3⟩
    · exact absurd h2 (g1 k h1)
    · have e : k = m := by
        rcases Nat.lt_trichotomy k m with h | h | h
        · exact absurd h2 (g3 k h)
        · exact h
        · exact absurd g2 (h3 m h)
      rw [e]

theorem JobS.pre {w : World} {a : Option Addr} {n cap : Nat} {ls : List Jb} (h : JobS w a n cap ls) {m : Nat} (hm : m ≤ n) : JobS w a m cap (ls.take m) := by
  have hl := h.len
  have e : ∀ i, i < m → jg (ls.take m) i = jg ls i := fun i hi => by simp [jg, hi]
  refine ⟨by simp; omega, Nat.le_trans hm h.le, h.mx, h.nil, fun i hi => by rw [e i hi]; exact h.wf i (by omega), fun h0 => ?_⟩
  obtain ⟨b, off, ha, hb, hat⟩ := h.at_ (by omega)
  refine ⟨b, off, ha, hb, fun i hi c hc => ?_⟩
  have hi' : i < m := by have : (ls.take m).length = m := by simp; omega
                         omega
  rw [e i hi']
  exact hat i (by omega) c hc

set_option maxHeartbeats 1000000 in
theorem implJobOk_grow (i c l d t r a : Int) (w : World) :
    Calls Try.prog 100 #[.agg #[.int .i64 i, .int .i64 c, .int .i64 l, .int .i64 d, .int .i64 t, .int .i64 r, .int .i64 a]] w fun e w' => e = .returned (.bool (jobB i c l d t r a)) ∧ ∃ q os', w' = grow (w.drewN q) os' := by
  have hw : ∀ o, ∃ q os', w.alloc o = grow (w.drewN q) os' := fun o => by rw [alloc_eq_grow]; exact ⟨0, _, rfl⟩
  rcases h0 : inB i 1 1000000 with _ | _
  · have E : jobB i c l d t r a = false := by unfold jobB; simp [h0]
    rw [E]; clear E
    go_enter Try.func100, Try.ntmps100
    go_wp2_with (first | (go_at_call 90; refine (within_any _ _ _ _).mono ?_; rintro e w' ⟨rfl, rfl⟩) | (go_at_call 86; refine (implOk_any _ _).mono ?_; rintro e w' ⟨rfl, rfl⟩))
    go_ret
    exact ⟨rfl, hw _⟩
  rcases h1 : inB c 1 1000 with _ | _
  · have E : jobB i c l d t r a = false := by unfold jobB; simp [h1]
    rw [E]; clear E
    go_enter Try.func100, Try.ntmps100
    go_wp2_with (first | (go_at_call 90; refine (within_any _ _ _ _).mono ?_; rintro e w' ⟨rfl, rfl⟩) | (go_at_call 86; refine (implOk_any _ _).mono ?_; rintro e w' ⟨rfl, rfl⟩))
    go_ret
    exact ⟨rfl, hw _⟩
  rcases h2 : inB l 1 10000 with _ | _
  · have E : jobB i c l d t r a = false := by unfold jobB; simp [h2]
    rw [E]; clear E
    go_enter Try.func100, Try.ntmps100
    go_wp2_with (first | (go_at_call 90; refine (within_any _ _ _ _).mono ?_; rintro e w' ⟨rfl, rfl⟩) | (go_at_call 86; refine (implOk_any _ _).mono ?_; rintro e w' ⟨rfl, rfl⟩))
    go_ret
    exact ⟨rfl, hw _⟩
  rcases h3 : okB d with _ | _
  · have E : jobB i c l d t r a = false := by unfold jobB; simp [h3]
    rw [E]; clear E
    go_enter Try.func100, Try.ntmps100
    go_wp2_with (first | (go_at_call 90; refine (within_any _ _ _ _).mono ?_; rintro e w' ⟨rfl, rfl⟩) | (go_at_call 86; refine (implOk_any _ _).mono ?_; rintro e w' ⟨rfl, rfl⟩))
    go_ret
    exact ⟨rfl, hw _⟩
  rcases h4 : inB t 0 1000 with _ | _
  · have E : jobB i c l d t r a = false := by unfold jobB; simp [h4]
    rw [E]; clear E
    go_enter Try.func100, Try.ntmps100
    go_wp2_with (first | (go_at_call 90; refine (within_any _ _ _ _).mono ?_; rintro e w' ⟨rfl, rfl⟩) | (go_at_call 86; refine (implOk_any _ _).mono ?_; rintro e w' ⟨rfl, rfl⟩))
    go_ret
    exact ⟨rfl, hw _⟩
  rcases h5 : inB r 0 9 with _ | _
  · have E : jobB i c l d t r a = false := by unfold jobB; simp [h5]
    rw [E]; clear E
    go_enter Try.func100, Try.ntmps100
    go_wp2_with (first | (go_at_call 90; refine (within_any _ _ _ _).mono ?_; rintro e w' ⟨rfl, rfl⟩) | (go_at_call 86; refine (implOk_any _ _).mono ?_; rintro e w' ⟨rfl, rfl⟩))
    go_ret
    exact ⟨rfl, hw _⟩
  rcases h6 : okB a with _ | _
  · have E : jobB i c l d t r a = false := by unfold jobB; simp [h6]
    rw [E]; clear E
    go_enter Try.func100, Try.ntmps100
    go_wp2_with (first | (go_at_call 90; refine (within_any _ _ _ _).mono ?_; rintro e w' ⟨rfl, rfl⟩) | (go_at_call 86; refine (implOk_any _ _).mono ?_; rintro e w' ⟨rfl, rfl⟩))
    go_ret
    exact ⟨rfl, hw _⟩
  have E : jobB i c l d t r a = true := by unfold jobB; simp [h0, h1, h2, h3, h4, h5, h6]
  rw [E]; clear E
  go_enter Try.func100, Try.ntmps100
  go_wp2_with (first | (go_at_call 90; refine (within_any _ _ _ _).mono ?_; rintro e w' ⟨rfl, rfl⟩) | (go_at_call 86; refine (implOk_any _ _).mono ?_; rintro e w' ⟨rfl, rfl⟩))
  go_ret
  exact ⟨rfl, hw _⟩

end Go.Proofs.Ytplcpiglciplkaa
