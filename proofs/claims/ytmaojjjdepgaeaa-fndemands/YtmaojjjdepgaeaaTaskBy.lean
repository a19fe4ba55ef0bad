/- Jobs by At and by Due, sorted by the program. -/
import Derived.Test.YtmaojjjdepgaeaaTks
import Derived.Test.YtmaojjjdepgaeaaRuleI
namespace Go.Proofs.Ytmaojjjdepgaeaa
open Go.RowKit Go.Sort

def kbyAt (x y : Jb) : Int := cmpI x.at_ y.at_
theorem byAt_any (x y : Jb) (w : World) :
    Calls Try.prog 72 #[.agg #[.int .i64 x.id, .int .i64 x.cores, .int .i64 x.long, .int .i64 x.due, .int .i64 x.wt, .int .i64 x.rank, .int .i64 x.at_], .agg #[.int .i64 y.id, .int .i64 y.cores, .int .i64 y.long, .int .i64 y.due, .int .i64 y.wt, .int .i64 y.rank, .int .i64 y.at_]] w fun e w' => e = .returned (.int .i64 (kbyAt x y)) ∧ GrS w w' := by
  have hw : ∀ A B, GrS w ((w.alloc A).alloc B) := fun A B => ((GrS.refl w).alloc A).alloc B
  unfold kbyAt
  go_enter Try.func72, Try.ntmps72
  go_wp2_with (go_at_call 99; refine (compare_any _ _ _).mono ?_; rintro e w' ⟨rfl, rfl⟩)
  go_ret
  exact ⟨rfl, hw _ _⟩

theorem swo_key (f : Jb → Int) : SWO (ltOf fun x y : RJ => cmpI (f x.1) (f y.1)) := by
  have e : (ltOf fun x y : RJ => cmpI (f x.1) (f y.1)) = fun x y => decide (f x.1 < f y.1) := by
    funext x y
    unfold ltOf
    apply decide_eq_decide.2
    exact cmpI_neg
  rw [e]
  refine ⟨fun x => ?_, fun x y z h1 h2 => ?_, fun x y z h1 h2 => ?_⟩
  · rw [decide_eq_false_iff_not]; omega
  · rw [decide_eq_true_iff] at *; omega
  · rw [decide_eq_false_iff_not] at *; omega

theorem key_le {f : Jb → Int} {ls : List Jb} (h : ls.Pairwise fun x y => decide (cmpI (f y) (f x) < 0) = false) {i j : Nat} (hij : i ≤ j) (hj : j < ls.length) : f (jg ls i) ≤ f (jg ls j) := by
  by_cases e : i = j
  · subst e; exact Int.le_refl _
  · have := List.pairwise_iff_getElem.1 h i j (by omega) hj (by omega)
    rw [decide_eq_false_iff_not, cmpI_neg] at this
    rw [jg_get (show i < ls.length by omega), jg_get hj]
    omega

theorem sortedAt_any (a : Option Addr) (n cap : Nat) (ls : List Jb) (w : World) (h : JobS w a n cap ls) (ho : TsOk ls) :
    Calls Try.prog 73 #[.func (.func 72) #[] #[], .slice a n cap] w fun e w' =>
      ∃ B ys, e = .returned (.slice (some ⟨B, 0, none⟩) n n) ∧ w.heap.size ≤ B ∧ ys.Perm ls ∧ ys.length = n ∧ (∀ i j, i ≤ j → j < ys.length → (jg ys i).at_ ≤ (jg ys j).at_) ∧ JobB w' B n n ys ∧ Below w.heap.size w w' := by
  refine (sortedBy_any kbyAt (swo_key fun x => x.at_) 72 #[] (enters_of Try.func72 (by kernel_rfl) rfl) a n cap ls w h (js_all (jsB_mk ho.jobs)) (by have := ho.n; have := h.len; omega) (fun W _ x y _ _ => byAt_any x y W)).mono ?_
  rintro e w' ⟨B, ys, rfl, hB, hp, hl, hs, hJ, hb⟩
  exact ⟨B, ys, rfl, hB, hp, hl, fun i j hij hj => key_le (f := fun x => x.at_) hs hij hj, hJ, hb⟩

theorem sortedDue_any (a : Option Addr) (n cap : Nat) (ls : List Jb) (w : World) (h : JobS w a n cap ls) (ho : TsOk ls) :
    Calls Try.prog 73 #[.func (.func 74) #[] #[], .slice a n cap] w fun e w' =>
      ∃ B ys, e = .returned (.slice (some ⟨B, 0, none⟩) n n) ∧ w.heap.size ≤ B ∧ ys.Perm ls ∧ ys.length = n ∧ (∀ i j, i ≤ j → j < ys.length → (jg ys i).due ≤ (jg ys j).due) ∧ JobB w' B n n ys ∧ Below w.heap.size w w' := by
  refine (sortedBy_any kbyDue (swo_key fun x => x.due) 74 #[] (enters_of Try.func74 (by kernel_rfl) rfl) a n cap ls w h (js_all (jsB_mk ho.jobs)) (by have := ho.n; have := h.len; omega) (fun W _ x y _ _ => byDue_any x y W)).mono ?_
  rintro e w' ⟨B, ys, rfl, hB, hp, hl, hs, hJ, hb⟩
  exact ⟨B, ys, rfl, hB, hp, hl, fun i j hij hj => key_le (f := fun x => x.due) hs hij hj, hJ, hb⟩

theorem jg_mem {ls ys : List Jb} (hp : ys.Perm ls) {i : Nat} (hi : i < ys.length) : ∃ j, j < ls.length ∧ jg ls j = jg ys i := by
  have hm : jg ys i ∈ ls := hp.subset (by rw [jg_get hi]; exact List.getElem_mem _)
  obtain ⟨j, hj, e⟩ := List.getElem_of_mem hm
  exact ⟨j, hj, by rw [jg_get hj]; exact e⟩

end Go.Proofs.Ytmaojjjdepgaeaa
