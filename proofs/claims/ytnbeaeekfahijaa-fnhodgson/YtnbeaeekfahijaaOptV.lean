/- No order is better: what FnJackson and FnHodgson ask, over the values that the measures tell. -/
import Derived.Test.YtnbeaeekfahijaaRules
import Derived.Test.YtnbeaeekfahijaaHodg
import Derived.Test.YtnbeaeekfahijaaJobDraw3
import Derived.Test.YtnbeaeekfahijaaJobLike
import Derived.Test.YtnbeaeekfahijaaSwap
namespace Go.Proofs.Ytnbeaeekfahijaa
open Go.RowKit Go.Sort

theorem pick2_any (a : Option Addr) (n cap : Nat) (zs : List Int) (seed m : Int) (w : World) (h : IsBytes w a n cap zs) (hn : n ≤ 4096) (s0 : 0 ≤ seed) (s1 : seed ≤ 10000) (hm : 0 < m) (hm2 : m ≤ 1000000000) :
    Calls Try.prog 20 #[.slice a n cap, .int .i64 seed, .int .i64 m] w fun e w' => ∃ x : Int, e = .returned (.int .i64 x) ∧ 0 ≤ x ∧ x < m ∧ w' = w := by
  go_enter Try.func20, Try.ntmps20
  go_wp2
  go_loop [7, 8] (fun s i => ∃ (k : Nat) (z : Int), k ≤ n ∧ i = .int .i64 k ∧ s = .int .i64 z ∧ 0 ≤ z ∧ z ≤ 100000000) (fun _ i => n - (intOf i).toNat)
  case atStart => exact ⟨0, _, by omega, rfl, rfl, by omega, by omega⟩
  case round =>
    obtain ⟨k, z, hk, rfl, rfl, z0, z1⟩ := hrel
    by_cases hlt : k < n
    · obtain ⟨b, off, rfl, hbw, hat⟩ := h.at_ (by omega)
      have q0 := hat k hlt
      have bd := h.bd k hlt
      go_wp2
      go_round
      case rel => exact ⟨k + 1, _, by omega, by go_num, rfl, by omega, by omega⟩
      case measure => simp [intOf]; omega
    · have e : k = n := by omega
      subst e
      go_wp2
      go_ret
      exact ⟨_, rfl, Int.emod_nonneg _ (by omega), Int.emod_lt_of_pos _ hm, rfl⟩

theorem drawJackson_any (a : Option Addr) (n cap : Nat) (zs : List Int) (w : World) (h : IsBytes w a n cap zs) (hn : n ≤ 4096) :
    Calls Try.prog 10 #[.slice a n cap] w fun e w' => ∃ g c ys, e = .returned (.slice (some ⟨g, 0, none⟩) ys.length c) ∧ OwnJ w' w.heap.size g c ys ∧ ys.length ≤ 41 ∧ allSmall ys ∧ Below w.heap.size w w' := by
  go_enter Try.func10, Try.ntmps10
  go_wp2_with fail
  refine (drawJobs_any a n cap zs _ h hn).mono ?_
  rintro e w1 ⟨g, c, ys, rfl, O, hy, hA, hb⟩
  go_wp2
  go_ret
  exact ⟨g, c, ys, rfl, O, hy, hA, hb⟩

theorem drawHodgson_any (a : Option Addr) (n cap : Nat) (zs : List Int) (w : World) (h : IsBytes w a n cap zs) (hn : n ≤ 4096) :
    Calls Try.prog 24 #[.slice a n cap] w fun e w' => ∃ g c ys, e = .returned (.slice (some ⟨g, 0, none⟩) ys.length c) ∧ OwnJ w' w.heap.size g c ys ∧ ys.length ≤ 41 ∧ allSmall ys ∧ Below w.heap.size w w' := by
  go_enter Try.func24, Try.ntmps24
  go_wp2_with fail
  refine (drawJobs_any a n cap zs _ h hn).mono ?_
  rintro e w1 ⟨g, c, ys, rfl, O, hy, hA, hb⟩
  go_wp2
  go_ret
  exact ⟨g, c, ys, rfl, O, hy, hA, hb⟩

theorem JsOk.perm {ls ys : List Jb} (h : JsOk ls) (hp : ys.Perm ls) : JsOk ys := by
  refine ⟨by rw [hp.length_eq]; exact h.n, fun i hi => ⟨?_, fun m hm e => ?_⟩⟩
  · obtain ⟨j, hj, e⟩ := List.getElem_of_mem (hp.subset (List.getElem_mem hi))
    have := (h.ok j hj).1
    rw [jg_get hj, e, ← jg_get hi] at this
    exact this
  · have hm' : m < ys.length := by omega
    rw [jg_get hi, jg_get hm'] at e
    have e2 := h.inj (hp.subset (List.getElem_mem hm')) (hp.subset (List.getElem_mem hi)) e
    have nd := hp.nodup_iff.2 (js_nodup h)
    have := (List.getElem_inj nd).1 e2
    omega
theorem jsB_perm {ls ys : List Jb} (h : jsB ls = true) (hp : ys.Perm ls) : jsB ys = true := jsB_mk ((jsB_t h).perm hp)

theorem IsBy.perm {lt : Jb → Jb → Bool} {ls ys : List Jb} (h : IsBy lt ls ys) (hq : jsB ls = true) : ys.Perm ls ∧ ys.Pairwise (fun x y => lt y x = false) := by
  rcases h with ⟨h0, _⟩ | ⟨_, h1, h2⟩
  · rw [hq] at h0; cases h0
  · exact ⟨h1, h2⟩

/-- no order has less lateness than Jackson's -/
theorem jackson_opt {ls ys zs : List Jb} (hq : jsB ls = true) (h : IsBy ltDue ls ys) (hz : zs.Perm ls) : ¬ lateV zs < lateV ys := by
  obtain ⟨hp, hs⟩ := h.perm hq
  have hl := hp.length_eq
  have hlz := hz.length_eq
  rcases Nat.eq_zero_or_pos ls.length with h0 | h0
  · have e1 : ys = [] := List.length_eq_zero_iff.1 (by omega)
    have e2 : zs = [] := List.length_eq_zero_iff.1 (by omega)
    rw [e1, e2]; omega
  · have h1 := (late_le (jsB_perm hq hz) (by omega) (lateV zs)).1 (Int.le_refl _)
    have h2 := opt_all swo_due swap_late (hp.trans hz.symm) hs (fun a ha b hb => antiDue ls (jsB_t hq) a (hp.subset ha) b (hp.subset hb)) (fun y hy => js_long (jsB_t hq) y (hz.subset hy)) h1
    have h3 := (late_le (jsB_perm hq hp) (by omega) (lateV zs)).2 h2
    omega
/-- no order has less weighted ends than Smith's -/
theorem smith_opt {ls ys zs : List Jb} (hq : jsB ls = true) (h : IsBy ltSm ls ys) (hz : zs.Perm ls) : ¬ sumV gWeighted zs < sumV gWeighted ys := by
  obtain ⟨hp, hs⟩ := h.perm hq
  unfold sumV
  rw [if_pos (jsB_perm hq hz), if_pos (jsB_perm hq hp)]
  have := opt_sum swo_sm swap_wt (hp.trans hz.symm) hs (fun a ha b hb => antiSm ls (jsB_t hq) a (hp.subset ha) b (hp.subset hb)) (fun y hy => js_long (jsB_t hq) y (hz.subset hy))
  omega
/-- no order waits less than the shortest first -/
theorem shortest_opt {ls ys zs : List Jb} (hq : jsB ls = true) (h : IsBy ltLong ls ys) (hz : zs.Perm ls) : ¬ sumV gWaiting zs < sumV gWaiting ys := by
  obtain ⟨hp, hs⟩ := h.perm hq
  unfold sumV
  rw [if_pos (jsB_perm hq hz), if_pos (jsB_perm hq hp)]
  have := opt_sum swo_long swap_wait (hp.trans hz.symm) hs (fun a ha b hb => antiLong ls (jsB_t hq) a (hp.subset ha) b (hp.subset hb)) (fun y hy => js_long (jsB_t hq) y (hz.subset hy))
  omega

/-- two change places -/
def swap2 (zs : List Jb) (k n : Nat) : List Jb := (zs.set k (jg zs n)).set n (jg zs k)
theorem swap2_perm {zs : List Jb} {k n : Nat} (hk : k < zs.length) (hn : n < zs.length) : (swap2 zs k n).Perm zs := by
  unfold swap2
  rw [jg_get hk, jg_get hn]
  exact List.set_set_perm hk hn
theorem swap2_len (zs : List Jb) (k n : Nat) : (swap2 zs k n).length = zs.length := by simp [swap2]

end Go.Proofs.Ytnbeaeekfahijaa
