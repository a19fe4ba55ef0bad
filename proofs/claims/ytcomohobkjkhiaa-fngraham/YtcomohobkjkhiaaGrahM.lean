/- What FnGraham asks: contracts in one form each, and the two bounds of what was spread. -/
import Derived.Test.YtcomohobkjkhiaaMachM
import Derived.Test.YtcomohobkjkhiaaSelL
import Derived.Test.YtcomohobkjkhiaaSprs
namespace Go.Proofs.Ytcomohobkjkhiaa
open Go.RowKit Go.Sort

/-- who does what, or nothing -/
noncomputable def sprI (ls : List Jb) (m : Int) : List Int := if shB ls m = true then spreadI ls m.toNat else []
theorem sprI_no {ls : List Jb} {m : Int} (h : shB ls m = false) : sprI ls m = [] := by unfold sprI; rw [h]; rfl
theorem sprI_yes {ls : List Jb} {m : Nat} (h : shB ls m = true) : sprI ls m = spreadI ls m := by unfold sprI; rw [if_pos h]; rfl
theorem implSpreadS_any (a : Option Addr) (n cap : Nat) (ls : List Jb) (m : Int) (w : World) (h : JobS w a n cap ls) :
    Calls Try.prog 7 #[.slice a n cap, .int .i64 m] w fun e w' => ∃ v k c, e = .returned (.slice v k c) ∧ IntS w' v k c (sprI ls m) ∧ Below w.heap.size w w' := by
  have hlen := h.len
  rcases hq : shB ls m with _ | _
  · refine (implSpread_no a n cap ls m w h hq).mono ?_
    rintro e w' ⟨rfl, hb⟩
    exact ⟨_, _, _, rfl, by rw [sprI_no hq]; exact IntS.nil_ _, hb⟩
  · obtain ⟨hjs, hm1, hm2⟩ := shB_t hq
    obtain ⟨m, rfl⟩ : ∃ m' : Nat, m = m' := ⟨m.toNat, by omega⟩
    refine (implSpread_yes a n cap ls m w h hq).mono ?_
    rintro e w' ⟨g, c, rfl, _, hc, hnc, hI, hb⟩
    exact ⟨_, _, _, rfl, by rw [sprI_yes hq]; exact hI.toS (spreadI_len ls m n hlen) hnc hc, hb⟩
theorem specSpreadS_any (a : Option Addr) (n cap : Nat) (ls : List Jb) (m : Int) (w : World) (h : JobS w a n cap ls) :
    Calls Try.prog 13 #[.slice a n cap, .int .i64 m] w fun e w' => ∃ v k c, e = .returned (.slice v k c) ∧ IntS w' v k c (sprI ls m) ∧ Below w.heap.size w w' := by
  have hlen := h.len
  rcases hq : shB ls m with _ | _
  · refine (specSpread_no a n cap ls m w h hq).mono ?_
    rintro e w' ⟨v, rfl, hI, hb⟩
    exact ⟨_, _, _, rfl, by rw [sprI_no hq]; exact hI.toS rfl (Nat.le_refl _) (Nat.zero_le _), hb⟩
  · obtain ⟨hjs, hm1, hm2⟩ := shB_t hq
    obtain ⟨m, rfl⟩ : ∃ m' : Nat, m = m' := ⟨m.toNat, by omega⟩
    refine (specSpread_yes a n cap ls m w h hq).mono ?_
    rintro e w' ⟨g, c, rfl, _, hc, hnc, hI, hb⟩
    exact ⟨_, _, _, rfl, by rw [sprI_yes hq]; exact hI.toS (spreadI_len ls m n hlen) hnc hc, hb⟩
theorem implLongestS_any (a : Option Addr) (n cap : Nat) (ls : List Jb) (w : World) (h : JobS w a n cap ls) :
    Calls Try.prog 8 #[.slice a n cap] w fun e w' => ∃ v k c ys, e = .returned (.slice v k c) ∧ JobS w' v k c ys ∧ IsBy ltLongest ls ys ∧ Below w.heap.size w w' := by
  have hlen := h.len
  have hmx := h.mx
  have hle := h.le
  rcases hq : jsB ls with _ | _
  · refine (implLongest_no a n cap ls w h hq).mono ?_
    rintro e w' ⟨rfl, hb⟩
    exact ⟨_, _, _, [], rfl, JobS.nil_ _, Or.inl ⟨hq, rfl⟩, hb⟩
  · refine (implLongest_yes a n cap ls w h hq).mono ?_
    rintro e w' ⟨B, ys, rfl, _, hJ, hl, hby, hb⟩
    have wf := hby.wf (fun i hi => h.wf i (by omega))
    exact ⟨_, _, _, ys, rfl, hJ.toS hl (by have := (jsB_t hq).n; omega) (by rw [← hl]; exact wf), hby, hb⟩

theorem zip_take {ks : List Nat} {ps : List Int} {k : Nat} (h1 : k < ks.length) (h2 : k < ps.length) : (ks.zip ps).take (k + 1) = (ks.zip ps).take k ++ [(ks[k], ps[k])] := by
  rw [List.take_succ_eq_append_getElem (by rw [List.length_zip]; omega)]
  simp
theorem loadZ_of (ls : List Jb) (ks : List Nat) (m : Nat) (hk : ks.length = ls.length) : ∀ k, k ≤ ls.length → loadZ ls (ks.map (fun k : Nat => (k : Int))) m k = loadsOf (List.replicate m 0) ((ks.zip (longs ls)).take k)
  | 0, _ => rfl
  | k + 1, h => by
    have hl := longs_len ls
    rw [loadZ, loadZ_of ls ks m hk k (by omega), zip_take (by omega) (by omega), loadsOf_app]
    have e : (zg (ks.map (fun k : Nat => (k : Int))) k).toNat = ks[k]'(by omega) := by simp [zg, show k < ks.length by omega]
    have e2 : (longs ls)[k]'(by omega) = (jg ls k).long := by simp [longs, jg_get (show k < ls.length by omega)]
    rw [e, e2]; rfl

/-- what is spread has the span of the plain mathematics -/
theorem spn_spread {ls : List Jb} {m : Nat} (hq : shB ls m = true) : spnV ls (spreadI ls m) m = spanV ((spreadV (List.replicate m 0) (longs ls)).zip (longs ls)) m := by
  obtain ⟨hjs, hm1, hm2⟩ := shB_t hq
  have hl := longs_len ls
  have hsl := spreadV_len (longs ls) (List.replicate m 0)
  have hlt := spreadV_lt (longs ls) (List.replicate m 0) (by rw [List.length_replicate]; omega)
  rw [List.length_replicate] at hlt
  rw [spnV_yes hq (spreadI_len ls m _ rfl) (fun i hi => ?_)]
  · rw [show (m : Int).toNat = m by simp]
    unfold spreadI
    rw [loadZ_of ls _ m (by rw [hsl, hl]) _ (Nat.le_refl _), List.take_of_length_le (by rw [List.length_zip]; omega)]
    rfl
  · have hi' : i < (spreadV (List.replicate m 0) (longs ls)).length := by omega
    have : zg (spreadI ls m) i = (((spreadV (List.replicate m 0) (longs ls))[i] : Nat) : Int) := by unfold spreadI; simp [zg, hi']
    rw [this, inB_iff]
    have := hlt _ (List.getElem_mem hi')
    omega

theorem jsOk_perm6 {ls ys : List Jb} (h : JsOk ls) (hp : ys.Perm ls) : JsOk ys := by
  have nd : ls.Nodup := by
    rw [List.nodup_iff_pairwise_ne, List.pairwise_iff_getElem]
    intro i j hi hj hij e
    have := (h.ok j hj).2 i hij
    rw [jg_get hi, jg_get hj, e] at this
    exact this rfl
  refine ⟨by rw [hp.length_eq]; exact h.n, fun i hi => ⟨?_, fun m hm e => ?_⟩⟩
  · obtain ⟨j, hj, e⟩ := List.getElem_of_mem (hp.subset (List.getElem_mem hi))
    have := (h.ok j hj).1
    rw [jg_get hj, e, ← jg_get hi] at this
    exact this
  · have hm' : m < ys.length := by omega
    rw [jg_get hi, jg_get hm'] at e
    have e2 := h.inj (hp.subset (List.getElem_mem hm')) (hp.subset (List.getElem_mem hi)) e
    have := (List.getElem_inj (hp.nodup_iff.2 nd)).1 e2
    omega
/-- the bounds of all that is reckoned -/
theorem mul_bdG {q : Nat} {A T : Int} (h1 : 1 ≤ q) (h4 : q ≤ 4) (t0 : 0 ≤ T) (t1 : T ≤ 70000) (a0 : T ≤ A) (h : (q : Int) * A ≤ (2 * q - 1) * T ∨ 3 * ((q : Int) * A) ≤ (4 * q - 1) * T) : A ≤ 3000000 := by
  obtain rfl | rfl | rfl | rfl : q = 1 ∨ q = 2 ∨ q = 3 ∨ q = 4 := by omega
  all_goals (push_cast at h; omega)

/-- the first bound -/
theorem graham6_two {ls : List Jb} {q : Nat} (hq : shB ls q = true) : optV (longs ls) q ≤ spnV ls (spreadI ls q) q ∧ (q : Int) * spnV ls (spreadI ls q) q ≤ (2 * q - 1) * optV (longs ls) q := by
  obtain ⟨hjs, hm1, hm2⟩ := shB_t hq
  have hz := greedy_spread (show 1 ≤ q by omega) (longs ls)
  have e := zip_snd _ (longs ls) (spreadV_len (longs ls) (List.replicate q 0))
  rw [spn_spread hq]
  refine ⟨?_, graham_two (by omega) (longs_nn hjs)⟩
  have := opt_span (show 1 ≤ q by omega) hz.mem
  rwa [e] at this
/-- the second -/
theorem graham6_third {ls ys : List Jb} {q : Nat} (hq : shB ls q = true) (hp : ys.Perm ls) (hs : ys.Pairwise fun x y => ltLongest y x = false) (hjy : JsOk ys) :
    shB ys q = true ∧ optV (longs ls) q ≤ spnV ys (spreadI ys q) q ∧ 3 * ((q : Int) * spnV ys (spreadI ys q) q) ≤ (4 * q - 1) * optV (longs ls) q := by
  obtain ⟨hjs, hm1, hm2⟩ := shB_t hq
  have hqy : shB ys q = true := shB_mk (jsB_mk hjy) hm1 hm2
  have hpl : (longs ys).Perm (longs ls) := hp.map _
  have ho : optV (longs ls) q = optV (longs ys) q := (opt_perm (show 1 ≤ q by omega) hpl).symm
  have h1 := graham6_two hqy
  rw [ho]
  refine ⟨hqy, h1.1, ?_⟩
  rw [spn_spread hqy]
  refine graham_third (by omega) (longs_nn hjy) ?_
  unfold longs
  rw [List.pairwise_map]
  exact hs.imp (fun h => ltLongest_long h)

end Go.Proofs.Ytcomohobkjkhiaa
