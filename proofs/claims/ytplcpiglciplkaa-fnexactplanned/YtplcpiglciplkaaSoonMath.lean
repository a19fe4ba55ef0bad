/- Where less is free nothing fits sooner: the plain mathematics. -/
import Derived.Test.YtplcpiglciplkaaFitMath
import Derived.Test.YtplcpiglciplkaaLowMath
namespace Go.Proofs.Ytplcpiglciplkaa
open Go.RowKit

/-- the value of the last one that has begun -/
def lastV (d : Int) (l : List Lev) (τ : Int) : Int := l.foldl (fun v m => if m.1 ≤ τ then m.2 else v) d
theorem lastV_app (d : Int) (a b : List Lev) (τ : Int) : lastV d (a ++ b) τ = lastV (lastV d a τ) b τ := by unfold lastV; rw [List.foldl_append]
theorem lastV_gt (τ : Int) : ∀ (l : List Lev) (d : Int), (∀ m ∈ l, τ < m.1) → lastV d l τ = d
  | [], _, _ => rfl
  | m :: l, d, h => by
    have h1 := h m List.mem_cons_self
    show lastV (if m.1 ≤ τ then m.2 else d) l τ = d
    rw [if_neg (by omega)]
    exact lastV_gt τ l d (fun x hx => h x (List.mem_cons_of_mem _ hx))
theorem lastV_snoc (d : Int) (l : List Lev) (m : Lev) (τ : Int) : lastV d (l ++ [m]) τ = if m.1 ≤ τ then m.2 else lastV d l τ := by
  rw [lastV_app]; rfl

theorem last_snoc {out : List Lev} (h : 0 < out.length) : ∃ i m, out = i ++ [m] ∧ m.2 = fe out (out.length - 1) := by
  refine ⟨out.take (out.length - 1), out[out.length - 1], ?_, get_fe (by omega)⟩
  have e := List.take_succ_eq_append_getElem (show out.length - 1 < out.length by omega)
  rw [← e, show out.length - 1 + 1 = out.length by omega, List.take_length]

theorem addL_val (d τ : Int) {out : List Lev} {x : Lev} (h : ∀ m ∈ out, m.1 < x.1) : lastV d (addL out x.1 x.2) τ = lastV d (out ++ [x]) τ ∧ ∀ m ∈ addL out x.1 x.2, m ∈ out ∨ m = x := by
  by_cases h0 : 0 < out.length
  · by_cases hs : fe out (out.length - 1) = x.2
    · rw [addL_same h0 hs]
      refine ⟨?_, fun m hm => Or.inl hm⟩
      rw [lastV_snoc]
      by_cases hx : x.1 ≤ τ
      · rw [if_pos hx]
        obtain ⟨i, m, e, hm⟩ := last_snoc h0
        have h1 := h m (by rw [e]; simp)
        rw [hs] at hm
        rw [e, lastV_snoc, if_pos (by omega), hm]
      · rw [if_neg hx]
    · rw [addL_other h0 hs]
      exact ⟨rfl, fun m hm => by
        rcases List.mem_append.1 hm with h1 | h1
        · exact Or.inl h1
        · exact Or.inr (List.mem_singleton.1 h1)⟩
  · obtain rfl : out = [] := List.eq_nil_of_length_eq_zero (by omega)
    rw [addL_nil]
    exact ⟨rfl, fun m hm => Or.inr (List.mem_singleton.1 hm)⟩

theorem joinL_val (d τ : Int) : ∀ (l out : List Lev), (∀ m ∈ out, ∀ x ∈ l, m.1 < x.1) → l.Pairwise (fun a b => a.1 < b.1) → lastV d (joinL out l) τ = lastV d (out ++ l) τ
  | [], out, _, _ => by rw [joinL_nil, List.append_nil]
  | x :: l, out, h, hp => by
    obtain ⟨hp1, hp2⟩ := List.pairwise_cons.1 hp
    obtain ⟨v1, v2⟩ := addL_val d τ (fun m hm => h m hm x List.mem_cons_self)
    rw [joinL_cons, joinL_val d τ l _ (fun m hm y hy => by
      rcases v2 m hm with h1 | rfl
      · exact h m h1 y (List.mem_cons_of_mem _ hy)
      · exact hp1 y hy) hp2, lastV_app, v1, ← lastV_app, List.append_assoc]
    rfl

theorem PO.at_last {T : Int} {ls : List Lev} (po : PO T ls) {τ : Int} (h : 0 ≤ τ) (d : Int) : lastV d ls τ = atI ls τ := by
  obtain ⟨a1, a2, a3⟩ := po.lvl_spec h
  have e : ls = ls.take (lvl ls τ) ++ [ls[lvl ls τ]] ++ ls.drop (lvl ls τ + 1) := by
    rw [← List.take_succ_eq_append_getElem a1, List.take_append_drop]
  have h1 : lastV d ls τ = lastV d (ls.take (lvl ls τ) ++ [ls[lvl ls τ]] ++ ls.drop (lvl ls τ + 1)) τ := congrArg (fun l => lastV d l τ) e
  rw [h1, lastV_app, lastV_gt, lastV_snoc, if_pos (by rw [get_fr a1]; exact a2), get_fe a1]
  · rfl
  · intro m hm
    obtain ⟨i, hi, rfl⟩ := List.getElem_of_mem hm
    have hi' : lvl ls τ + 1 + i < ls.length := by simp at hi; omega
    have := a3 (lvl ls τ + 1 + i) (by omega) hi'
    rw [List.getElem_drop, get_fr hi']
    exact this

theorem LowR.val {Ta Tb : Int} {la lb : List Lev} (pa : PO Ta la) (pb : PO Tb lb) {t : Int} {l : List Lev} (h : LowR la lb t l) (ht : 0 ≤ t) (τ : Int) (hτ : t ≤ τ) (hτ2 : τ < 1000000000) : ∀ d, lastV d l τ = lowAt la lb τ := by
  induction h with
  | stop _ h => omega
  | step t l h h2 ih =>
    intro d
    have la1 := pa.lvl_spec ht
    have lb1 := pb.lvl_spec ht
    have ha : t < nxt la (lvl la t) 1000000000 := by
      by_cases hn : lvl la t + 1 < la.length
      · rw [nxt_in hn]; exact la1.2.2 _ (by omega) hn
      · rw [nxt_out hn]; exact h
    have hb : t < nxt lb (lvl lb t) 1000000000 := by
      by_cases hn : lvl lb t + 1 < lb.length
      · rw [nxt_in hn]; exact lb1.2.2 _ (by omega) hn
      · rw [nxt_out hn]; exact h
    have hs : t < stepT la lb t := by unfold stepT; omega
    show lastV (if t ≤ τ then lowAt la lb t else d) l τ = _
    rw [if_pos hτ]
    by_cases c : stepT la lb t ≤ τ
    · exact ih (by omega) c _
    · have r := (h2.rise pa pb (by omega)).2.1
      rw [lastV_gt τ l _ (fun m hm => by have := r m hm; omega)]
      have e1 : lvl la τ = lvl la t := pa.lvl_eq (by omega) la1.1 (by omega) (fun hn => by rw [← nxt_in (e := 1000000000) hn]; unfold stepT at c; omega)
      have e2 : lvl lb τ = lvl lb t := pb.lvl_eq (by omega) lb1.1 (by omega) (fun hn => by rw [← nxt_in (e := 1000000000) hn]; unfold stepT at c; omega)
      unfold lowAt atI
      rw [e1, e2]

/-- the lower of two is the lower at each time -/
theorem low_at {Ta Tb : Int} {la lb : List Lev} (pa : PO Ta la) (pb : PO Tb lb) (hl : (lowL la lb).length ≤ 200) {τ : Int} (h : 0 ≤ τ) (h2 : τ < 1000000000) : atI (lowL la lb) τ = min (atI la τ) (atI lb τ) := by
  have po := lowL_po pa pb hl
  have h1 := low_all pa pb la.length 0 (Nat.zero_add _)
  have n1 := pa.n1
  rw [if_pos (by omega), pa.z] at h1
  have r := (h1.rise pa pb (Int.le_refl _)).1
  rw [← po.at_last h 0]
  unfold lowL
  rw [joinL_val 0 τ _ [] (fun m hm => by cases hm) r, List.nil_append]
  exact h1.val pa pb (Int.le_refl _) τ h h2 0

theorem PO.least_ge_at {T : Int} {ls : List Lev} (po : PO T ls) {x y n : Int} (hx : 0 ≤ x) (hn : n ≤ T) : n ≤ leastI T ls x y ↔ ∀ t, x ≤ t → t < y → n ≤ atI ls t := by
  constructor
  · intro h t h1 h2
    have := po.least_at hx h1 h2; omega
  · intro h
    refine (po.least_ge hx hn).2 fun hxy i hi1 hi2 hi3 => ?_
    obtain ⟨a1, a2, a3⟩ := po.lvl_spec hx
    have e : lvl ls (max x (fr ls i)) = i := po.lvl_eq (by omega) hi2 (by omega) (fun hn => by
      have h1 := a3 (i + 1) (by omega) hn
      have h2 := po.lt (i := i) (j := i + 1) (by omega) hn
      omega)
    have := h (max x (fr ls i)) (by omega) (by omega)
    unfold atI at this
    rwa [e] at this

theorem PO.fit_first {T : Int} {ls : List Lev} (po : PO T ls) {x long n s : Int} (hx : 0 ≤ x) (hn : n ≤ T) (h1 : x ≤ s) (h2 : s ≤ 1000000000) (h3 : s < 1000000000 → ∀ t, s ≤ t → t < laterI s long → n ≤ atI ls t) : fitI ls x long n ≤ s := by
  by_cases c : fitI ls x long n ≤ s
  · exact c
  · exfalso
    have hb := (po.fit_bd (x := x) (long := long) (n := n) hx (by omega)).2
    have := po.fit_ahead (x := x) (long := long) (n := n) (t := s) hx hn h1 (by omega) (by omega)
    have h4 := (po.least_ge_at (x := s) (y := laterI s long) (by omega) hn).2 (h3 (by omega))
    omega

theorem later_le {s b b' : Int} (h : b ≤ b') : laterI s b ≤ laterI s b' := by unfold laterI; split <;> split <;> omega
theorem later_1e9 (s b : Int) : laterI s b ≤ 1000000000 := by unfold laterI; split <;> omega

/-- the four ways in which nothing fits sooner -/
theorem sooner {Ta Tb : Int} {la lb : List Lev} (pa : PO Ta la) (pb : PO Tb lb) (hl : (lowL la lb).length ≤ 200) {x long n p q : Int} (x0 : 0 ≤ x) (x1 : x ≤ 1000) (hn : n ≤ min Ta Tb) (hp : 0 ≤ p) (hq : 0 ≤ q ∧ q ≤ 1000) :
    fitI la x long n ≤ fitI (lowL la lb) x long n ∧ fitI la x long n ≤ fitI la x (long + p) n ∧ fitI la x long n ≤ fitI la (x + q) long n ∧ (n + 1 ≤ Ta → fitI la x long n ≤ fitI la x long (n + 1)) ∧ 0 ≤ fitI la x long n := by
  have po := lowL_po pa pb hl
  have hna : n ≤ Ta := by omega
  have f0 := pa.fit_bd (x := x) (long := long) (n := n) x0 (by omega)
  have f1 := po.fit_bd (x := x) (long := long) (n := n) x0 (by omega)
  have f2 := pa.fit_bd (x := x) (long := long + p) (n := n) x0 (by omega)
  have f3 := pa.fit_bd (x := x + q) (long := long) (n := n) (by omega) (by omega)
  have f4 := pa.fit_bd (x := x) (long := long) (n := n + 1) x0 (by omega)
  refine ⟨pa.fit_first x0 hna f1.1 f1.2 fun hs t h1 h2 => ?_, pa.fit_first x0 hna f2.1 f2.2 fun hs t h1 h2 => ?_, pa.fit_first x0 hna (by omega) f3.2 fun hs t h1 h2 => ?_, fun hn1 => pa.fit_first x0 hna f4.1 f4.2 fun hs t h1 h2 => ?_, by omega⟩
  · have r := (po.least_ge_at (by omega) hn).1 (po.fit_room x0 hn hs) t h1 h2
    have hlt := later_1e9 (fitI (lowL la lb) x long n) long
    rw [low_at pa pb hl (by omega) (by omega)] at r
    omega
  · have := later_le (s := fitI la x (long + p) n) (show long ≤ long + p by omega)
    exact (pa.least_ge_at (by omega) hna).1 (pa.fit_room x0 hna hs) t h1 (by omega)
  · exact (pa.least_ge_at (by omega) hna).1 (pa.fit_room (by omega) hna hs) t h1 h2
  · have := (pa.least_ge_at (by omega) hn1).1 (pa.fit_room x0 hn1 hs) t h1 h2
    omega

end Go.Proofs.Ytplcpiglciplkaa
