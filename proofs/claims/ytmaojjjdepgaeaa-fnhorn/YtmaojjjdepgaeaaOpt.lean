/- No order is better than the sorted one: the plain mathematics of an exchange. -/
import Derived.Test.YtmaojjjdepgaeaaEndsMath
import Derived.Test.YtmaojjjdepgaeaaJobQ
namespace Go.Proofs.Ytmaojjjdepgaeaa
open Go.RowKit Go.Sort

/-- what is told of all, one behind the other, from time s on -/
def wsum (g : Jb → Int → Int) : Int → List Jb → Int
  | _, [] => 0
  | s, j :: r => g j (s + j.long) + wsum g (s + j.long) r
/-- all that is told is at most b -/
def allLe (g : Jb → Int → Int) (b : Int) : Int → List Jb → Prop
  | _, [] => True
  | s, j :: r => g j (s + j.long) ≤ b ∧ allLe g b (s + j.long) r
def tot : List Jb → Int
  | [] => 0
  | j :: r => j.long + tot r

theorem tot_app : ∀ a b : List Jb, tot (a ++ b) = tot a + tot b
  | [], b => by simp [tot]
  | j :: r, b => by
    show j.long + tot (r ++ b) = j.long + tot r + tot b
    rw [tot_app r b]; omega
theorem wsum_app (g : Jb → Int → Int) : ∀ (a b : List Jb) (s : Int), wsum g s (a ++ b) = wsum g s a + wsum g (s + tot a) b
  | [], b, s => by simp [wsum, tot]
  | j :: r, b, s => by
    show g j (s + j.long) + wsum g (s + j.long) (r ++ b) = g j (s + j.long) + wsum g (s + j.long) r + wsum g (s + (j.long + tot r)) b
    rw [wsum_app g r b (s + j.long), show s + j.long + tot r = s + (j.long + tot r) by omega]; omega
theorem allLe_app (g : Jb → Int → Int) (c : Int) : ∀ (a b : List Jb) (s : Int), allLe g c s (a ++ b) ↔ allLe g c s a ∧ allLe g c (s + tot a) b
  | [], b, s => by simp [allLe, tot]
  | j :: r, b, s => by
    show (g j (s + j.long) ≤ c ∧ allLe g c (s + j.long) (r ++ b)) ↔ (g j (s + j.long) ≤ c ∧ allLe g c (s + j.long) r) ∧ allLe g c (s + (j.long + tot r)) b
    rw [allLe_app g c r b (s + j.long), show s + j.long + tot r = s + (j.long + tot r) by omega, and_assoc]

theorem take_one {ls : List Jb} {k : Nat} (h : k < ls.length) : ls.take (k + 1) = ls.take k ++ [jg ls k] := by
  rw [List.take_succ_eq_append_getElem h, ← jg_get h]
theorem tot_sumTo (ls : List Jb) : ∀ k, k ≤ ls.length → tot (ls.take k) = sumTo ls k
  | 0, _ => by simp [tot, sumTo]
  | k + 1, h => by
    rw [take_one (by omega), tot_app, tot_sumTo ls k (by omega)]
    show sumTo ls k + ((jg ls k).long + 0) = sumTo ls k + (jg ls k).long
    omega
theorem wsum_sumG (g : Jb → Int → Int) (ls : List Jb) : ∀ k, k ≤ ls.length → wsum g 0 (ls.take k) = sumG g ls k
  | 0, _ => by simp [wsum, sumG]
  | k + 1, h => by
    rw [take_one (by omega), wsum_app, wsum_sumG g ls k (by omega), tot_sumTo ls k (by omega)]
    show sumG g ls k + (g (jg ls k) (0 + sumTo ls k + (jg ls k).long) + 0) = sumG g ls k + g (jg ls k) (sumTo ls k + (jg ls k).long)
    rw [Int.zero_add, Int.add_zero]
theorem sumG_all (g : Jb → Int → Int) (ls : List Jb) : sumG g ls ls.length = wsum g 0 ls := by
  rw [← wsum_sumG g ls ls.length (Nat.le_refl _), List.take_length]
theorem allLe_iff (g : Jb → Int → Int) (c : Int) (ls : List Jb) : ∀ k, k ≤ ls.length → (allLe g c 0 (ls.take k) ↔ ∀ i, i < k → g (jg ls i) (sumTo ls (i + 1)) ≤ c)
  | 0, _ => by simp [allLe]
  | k + 1, h => by
    rw [take_one (by omega), allLe_app, allLe_iff g c ls k (by omega), tot_sumTo ls k (by omega)]
    have e : allLe g c (0 + sumTo ls k) [jg ls k] ↔ g (jg ls k) (sumTo ls (k + 1)) ≤ c := by
      show (g (jg ls k) (0 + sumTo ls k + (jg ls k).long) ≤ c ∧ True) ↔ g (jg ls k) (sumTo ls k + (jg ls k).long) ≤ c
      rw [Int.zero_add, and_true]
    rw [e]
    constructor
    · rintro ⟨h1, h2⟩ i hi
      by_cases e : i = k
      · subst e; exact h2
      · exact h1 i (by omega)
    · exact fun h1 => ⟨fun i hi => h1 i (by omega), h1 k (by omega)⟩
theorem late_le {ls : List Jb} (hq : jsB ls = true) (h0 : 0 < ls.length) (c : Int) : lateV ls ≤ c ↔ allLe gLateness c 0 ls := by
  have h := allLe_iff gLateness c ls ls.length (Nat.le_refl _)
  rw [List.take_length] at h
  rw [h, lateV_eq hq h0]
  constructor
  · intro h1 i hi
    have := maxTo_ge (meas gLateness ls ls.length) (ls.length - 1) i (by omega)
    rw [meas_g _ _ hi] at this
    omega
  · intro h1
    refine maxTo_le _ _ _ (fun i hi => ?_)
    rw [meas_g _ _ (by omega)]
    exact h1 i (by omega)

/-- one more, laid where it belongs -/
def ins (lt : Jb → Jb → Bool) (a : Jb) : List Jb → List Jb
  | [] => [a]
  | b :: r => if lt b a = true then b :: ins lt a r else a :: b :: r
def isort (lt : Jb → Jb → Bool) : List Jb → List Jb
  | [] => []
  | a :: r => ins lt a (isort lt r)

theorem ins_perm (lt : Jb → Jb → Bool) (a : Jb) : ∀ r, (ins lt a r).Perm (a :: r)
  | [] => List.Perm.refl _
  | b :: r => by
    unfold ins
    split
    · exact ((ins_perm lt a r).cons b).trans (List.Perm.swap a b r)
    · exact List.Perm.refl _
theorem isort_perm (lt : Jb → Jb → Bool) : ∀ r, (isort lt r).Perm r
  | [] => List.Perm.refl _
  | a :: r => (ins_perm lt a _).trans ((isort_perm lt r).cons a)

theorem ins_pw {lt : Jb → Jb → Bool} (h : SWO lt) (a : Jb) : ∀ r, r.Pairwise (fun x y => lt y x = false) → (ins lt a r).Pairwise (fun x y => lt y x = false)
  | [], _ => by simp [ins]
  | b :: r, hp => by
    obtain ⟨h1, h2⟩ := List.pairwise_cons.1 hp
    unfold ins
    split
    · rename_i c
      refine List.pairwise_cons.2 ⟨fun y hy => ?_, ins_pw h a r h2⟩
      rcases List.mem_cons.1 ((ins_perm lt a r).subset hy) with rfl | hy
      · rw [Bool.eq_false_iff]; intro h3
        have := h.trans _ _ _ c h3
        rw [h.irrefl] at this; cases this
      · exact h1 y hy
    · rename_i c
      have c' : lt b a = false := by simpa using c
      refine List.pairwise_cons.2 ⟨fun y hy => ?_, hp⟩
      rcases List.mem_cons.1 hy with rfl | hy
      · exact c'
      · exact h.ntrans _ _ _ (h1 y hy) c'
theorem isort_pw {lt : Jb → Jb → Bool} (h : SWO lt) : ∀ r, (isort lt r).Pairwise (fun x y => lt y x = false)
  | [] => List.Pairwise.nil
  | a :: r => ins_pw h a _ (isort_pw h r)

/-- two that stand the wrong way round, changed, tell no more -/
def Swap (g : Jb → Int → Int) (lt : Jb → Jb → Bool) : Prop := ∀ (s : Int) (a b : Jb), lt b a = true → 1 ≤ a.long → 1 ≤ b.long → g b (s + b.long) + g a (s + b.long + a.long) ≤ g a (s + a.long) + g b (s + a.long + b.long)

theorem ins_le {g : Jb → Int → Int} {lt : Jb → Jb → Bool} (h : Swap g lt) (a : Jb) (ha : 1 ≤ a.long) : ∀ (r : List Jb) (s : Int), (∀ y ∈ r, 1 ≤ y.long) → wsum g s (ins lt a r) ≤ wsum g s (a :: r)
  | [], _, _ => Int.le_refl _
  | b :: r, s, hl => by
    unfold ins
    split
    · rename_i c
      have h1 := h s a b c ha (hl b List.mem_cons_self)
      have h2 := ins_le h a ha r (s + b.long) (fun y hy => hl y (List.mem_cons_of_mem _ hy))
      have e1 : wsum g s (b :: ins lt a r) = g b (s + b.long) + wsum g (s + b.long) (ins lt a r) := rfl
      have e2 : wsum g s (a :: b :: r) = g a (s + a.long) + (g b (s + a.long + b.long) + wsum g (s + a.long + b.long) r) := rfl
      have e3 : wsum g (s + b.long) (a :: r) = g a (s + b.long + a.long) + wsum g (s + b.long + a.long) r := rfl
      have e4 : s + b.long + a.long = s + a.long + b.long := by omega
      rw [e3, e4] at h2
      rw [e4] at h1
      rw [e1, e2]
      omega
    · exact Int.le_refl _
theorem isort_le {g : Jb → Int → Int} {lt : Jb → Jb → Bool} (h : Swap g lt) : ∀ (r : List Jb) (s : Int), (∀ y ∈ r, 1 ≤ y.long) → wsum g s (isort lt r) ≤ wsum g s r
  | [], _, _ => Int.le_refl _
  | a :: r, s, hl => by
    have h1 := ins_le h a (hl a List.mem_cons_self) (isort lt r) s (fun y hy => hl y (List.mem_cons_of_mem _ ((isort_perm lt r).subset hy)))
    have h2 := isort_le h r (s + a.long) (fun y hy => hl y (List.mem_cons_of_mem _ hy))
    have e1 : wsum g s (a :: isort lt r) = g a (s + a.long) + wsum g (s + a.long) (isort lt r) := rfl
    have e2 : wsum g s (a :: r) = g a (s + a.long) + wsum g (s + a.long) r := rfl
    show wsum g s (ins lt a (isort lt r)) ≤ wsum g s (a :: r)
    omega

def SwapLe (g : Jb → Int → Int) (lt : Jb → Jb → Bool) : Prop := ∀ (s c : Int) (a b : Jb), lt b a = true → 1 ≤ a.long → 1 ≤ b.long → g a (s + a.long) ≤ c → g b (s + a.long + b.long) ≤ c → g b (s + b.long) ≤ c ∧ g a (s + b.long + a.long) ≤ c
theorem ins_all {g : Jb → Int → Int} {lt : Jb → Jb → Bool} (h : SwapLe g lt) (c : Int) (a : Jb) (ha : 1 ≤ a.long) : ∀ (r : List Jb) (s : Int), (∀ y ∈ r, 1 ≤ y.long) → allLe g c s (a :: r) → allLe g c s (ins lt a r)
  | [], _, _, h1 => h1
  | b :: r, s, hl, h1 => by
    unfold ins
    split
    · rename_i hc
      obtain ⟨p1, p2, p3⟩ : g a (s + a.long) ≤ c ∧ g b (s + a.long + b.long) ≤ c ∧ allLe g c (s + a.long + b.long) r := h1
      obtain ⟨q1, q2⟩ := h s c a b hc ha (hl b List.mem_cons_self) p1 p2
      refine ⟨q1, ins_all h c a ha r (s + b.long) (fun y hy => hl y (List.mem_cons_of_mem _ hy)) ⟨q2, ?_⟩⟩
      rwa [show s + b.long + a.long = s + a.long + b.long by omega]
    · exact h1
theorem isort_all {g : Jb → Int → Int} {lt : Jb → Jb → Bool} (h : SwapLe g lt) (c : Int) : ∀ (r : List Jb) (s : Int), (∀ y ∈ r, 1 ≤ y.long) → allLe g c s r → allLe g c s (isort lt r)
  | [], _, _, h1 => h1
  | a :: r, s, hl, h1 =>
    ins_all h c a (hl a List.mem_cons_self) (isort lt r) s (fun y hy => hl y (List.mem_cons_of_mem _ ((isort_perm lt r).subset hy))) ⟨h1.1, isort_all h c r _ (fun y hy => hl y (List.mem_cons_of_mem _ hy)) h1.2⟩

/-- sorted ones of the same are the same -/
theorem sorted_uniq {lt : Jb → Jb → Bool} {ys zs : List Jb} (hp : ys.Perm zs) (h1 : ys.Pairwise (fun x y => lt y x = false)) (h2 : zs.Pairwise (fun x y => lt y x = false)) (anti : ∀ a ∈ ys, ∀ b ∈ ys, lt a b = false → lt b a = false → a = b) : ys = zs :=
  List.Perm.eq_of_pairwise (le := fun x y => lt y x = false) (fun a b ha hb h3 h4 => anti a ha b (hp.symm.subset hb) h4 h3) h1 h2 hp

theorem opt_sum {g : Jb → Int → Int} {lt : Jb → Jb → Bool} (hs : SWO lt) (h : Swap g lt) {ys zs : List Jb} (hp : ys.Perm zs) (h1 : ys.Pairwise (fun x y => lt y x = false)) (anti : ∀ a ∈ ys, ∀ b ∈ ys, lt a b = false → lt b a = false → a = b) (hl : ∀ y ∈ zs, 1 ≤ y.long) : sumG g ys ys.length ≤ sumG g zs zs.length := by
  have e := sorted_uniq (hp.trans (isort_perm lt zs).symm) h1 (isort_pw hs zs) anti
  rw [sumG_all, sumG_all, e]
  exact isort_le h zs 0 hl
theorem opt_all {g : Jb → Int → Int} {lt : Jb → Jb → Bool} (hs : SWO lt) (h : SwapLe g lt) {ys zs : List Jb} (hp : ys.Perm zs) (h1 : ys.Pairwise (fun x y => lt y x = false)) (anti : ∀ a ∈ ys, ∀ b ∈ ys, lt a b = false → lt b a = false → a = b) (hl : ∀ y ∈ zs, 1 ≤ y.long) {c : Int} (hc : allLe g c 0 zs) : allLe g c 0 ys := by
  have e := sorted_uniq (hp.trans (isort_perm lt zs).symm) h1 (isort_pw hs zs) anti
  rw [e]
  exact isort_all h c zs 0 hl hc

/-- by Due, by Long: the least first; of alike ones by Id -/
def ltDue (x y : Jb) : Bool := decide (x.due < y.due ∨ (x.due = y.due ∧ x.id < y.id))
def ltLong (x y : Jb) : Bool := decide (x.long < y.long ∨ (x.long = y.long ∧ x.id < y.id))
theorem swo_due : SWO ltDue := by
  refine ⟨fun x => ?_, fun x y z h1 h2 => ?_, fun x y z h1 h2 => ?_⟩
  · simp [ltDue]
  · unfold ltDue at *; simp only [decide_eq_true_eq] at *; omega
  · unfold ltDue at *; simp only [decide_eq_false_iff_not] at *; omega
theorem swo_long : SWO ltLong := by
  refine ⟨fun x => ?_, fun x y z h1 h2 => ?_, fun x y z h1 h2 => ?_⟩
  · simp [ltLong]
  · unfold ltLong at *; simp only [decide_eq_true_eq] at *; omega
  · unfold ltLong at *; simp only [decide_eq_false_iff_not] at *; omega

/-- Smith's: more Weight for its Long first (a Long below 1 counts as 1: so it is an order whatever comes) -/
def cl (x : Jb) : Int := if 1 ≤ x.long then x.long else 1
theorem cl_pos (x : Jb) : 1 ≤ cl x := by unfold cl; split <;> omega
theorem cl_eq {x : Jb} (h : 1 ≤ x.long) : cl x = x.long := if_pos h
def ltSm (x y : Jb) : Bool := decide (y.wt * cl x < x.wt * cl y ∨ (x.wt * cl y = y.wt * cl x ∧ x.id < y.id))

theorem cross_lt {a b c p q r : Int} (hq : 0 < q) (hp : 0 < p) (hr : 0 < r) (h1 : b * p ≤ a * q) (h2 : c * q ≤ b * r) : c * p ≤ a * r ∧ ((b * p < a * q ∨ c * q < b * r) → c * p < a * r) := by
  have e1 : c * q * p ≤ b * r * p := Int.mul_le_mul_of_nonneg_right h2 (Int.le_of_lt hp)
  have e2 : b * p * r ≤ a * q * r := Int.mul_le_mul_of_nonneg_right h1 (Int.le_of_lt hr)
  have f1 : c * q * p = (c * p) * q := by rw [Int.mul_assoc, Int.mul_comm q p, ← Int.mul_assoc]
  have f2 : b * r * p = b * p * r := by rw [Int.mul_assoc, Int.mul_comm r p, ← Int.mul_assoc]
  have f3 : a * q * r = (a * r) * q := by rw [Int.mul_assoc, Int.mul_comm q r, ← Int.mul_assoc]
  refine ⟨Int.le_of_mul_le_mul_right (by omega) hq, fun h => Int.lt_of_mul_lt_mul_right (a := q) ?_ (Int.le_of_lt hq)⟩
  rcases h with h | h
  · have := Int.mul_lt_mul_of_pos_right h hr; omega
  · have := Int.mul_lt_mul_of_pos_right h hp; omega

theorem swo_sm : SWO ltSm := by
  refine ⟨fun x => ?_, fun x y z h1 h2 => ?_, fun x y z h1 h2 => ?_⟩
  · simp [ltSm]
  · unfold ltSm at *
    simp only [decide_eq_true_eq] at *
    obtain ⟨k1, k2⟩ := cross_lt (a := x.wt) (b := y.wt) (c := z.wt) (p := cl x) (q := cl y) (r := cl z) (by have := cl_pos y; omega) (by have := cl_pos x; omega) (by have := cl_pos z; omega) (by omega) (by omega)
    by_cases h3 : y.wt * cl x < x.wt * cl y ∨ z.wt * cl y < y.wt * cl z
    · exact Or.inl (k2 h3)
    · by_cases h4 : z.wt * cl x < x.wt * cl z
      · exact Or.inl h4
      · right; omega
  · unfold ltSm at *
    simp only [decide_eq_false_iff_not] at *
    obtain ⟨k1, k2⟩ := cross_lt (a := z.wt) (b := y.wt) (c := x.wt) (p := cl z) (q := cl y) (r := cl x) (by have := cl_pos y; omega) (by have := cl_pos z; omega) (by have := cl_pos x; omega) (by omega) (by omega)
    by_cases h3 : y.wt * cl z < z.wt * cl y ∨ x.wt * cl y < y.wt * cl x
    · have := k2 h3; omega
    · by_cases h4 : x.wt * cl z < z.wt * cl x
      · omega
      · omega

theorem swap_late : SwapLe gLateness ltDue := by
  intro s c a b h ha hb h1 h2
  unfold ltDue at h
  simp only [decide_eq_true_eq] at h
  unfold gLateness at *
  omega
theorem swap_wait : Swap gWaiting ltLong := by
  intro s a b h _ _
  unfold ltLong at h
  simp only [decide_eq_true_eq] at h
  unfold gWaiting
  omega
theorem swap_wt : Swap gWeighted ltSm := by
  intro s a b h ha hb
  unfold ltSm at h
  simp only [decide_eq_true_eq] at h
  rw [cl_eq ha, cl_eq hb] at h
  unfold gWeighted
  simp only [Int.mul_add]
  omega

/-- among right jobs two that neither comes first are one -/
theorem anti_due {ls : List Jb} (h : JsOk ls) {a b : Jb} (ha : a ∈ ls) (hb : b ∈ ls) (h1 : ltDue a b = false) (h2 : ltDue b a = false) : a = b := by
  unfold ltDue at h1 h2
  simp only [decide_eq_false_iff_not] at h1 h2
  exact h.inj ha hb (by omega)
theorem anti_long {ls : List Jb} (h : JsOk ls) {a b : Jb} (ha : a ∈ ls) (hb : b ∈ ls) (h1 : ltLong a b = false) (h2 : ltLong b a = false) : a = b := by
  unfold ltLong at h1 h2
  simp only [decide_eq_false_iff_not] at h1 h2
  exact h.inj ha hb (by omega)
theorem anti_sm {ls : List Jb} (h : JsOk ls) {a b : Jb} (ha : a ∈ ls) (hb : b ∈ ls) (h1 : ltSm a b = false) (h2 : ltSm b a = false) : a = b := by
  unfold ltSm at h1 h2
  simp only [decide_eq_false_iff_not] at h1 h2
  exact h.inj ha hb (by omega)

end Go.Proofs.Ytmaojjjdepgaeaa
