/- One after the other: what is measured by the clock, at the closure that Tardy hands over. -/
import Derived.Test.YtaoimijeaacaiaaMeasOf
namespace Go.Proofs.Ytaoimijeaacaiaa
open Go.RowKit

theorem measured_no_Tardy (a : Option Addr) (n cap : Nat) (ls : List Jb) (w : World) (h : JobS w a n cap ls) (hq : jsB ls = false) :
    Calls Try.prog 67 #[.slice a n cap, .func (.func 75) #[] #[]] w fun e w' => e = .returned (.tuple #[.slice none 0 0, .bool false]) ∧ Below w.heap.size w w' := by
  go_enter Try.func67, Try.ntmps67
  go_wp2_with fail
  refine (implJobsOk_any a n cap ls _ h).mono ?_
  rw [hq]
  rintro e w1 ⟨rfl, hb1⟩
  go_wp2
  go_ret2
  exact ⟨rfl, hb1⟩

set_option maxRecDepth 8000 in
set_option maxHeartbeats 2000000 in
theorem measured_yes_Tardy (a : Option Addr) (n cap : Nat) (ls : List Jb) (w : World) (h : JobS w a n cap ls) (hq : jsB ls = true) :
    Calls Try.prog 67 #[.slice a n cap, .func (.func 75) #[] #[]] w fun e w' => ∃ g c, e = .returned (.tuple #[.slice (some ⟨g, 0, none⟩) n c, .bool true]) ∧ w.heap.size ≤ g ∧ c ≤ maxLen ∧ n ≤ c ∧ IntB w' g n (meas gTardy ls n) ∧ Below w.heap.size w w' := by
  obtain ⟨i1, hj, hj0, hj1, hj2⟩ := info_parts infoI
  have hm := h.mx
  have hle := h.le
  have hlen := h.len
  have hn := (jsB_t hq).n
  have ok : jokTo ls n := by rw [← hlen]; exact (jsB_t hq).ok
  unfold maxLen at hm
  have hmk := run_makeI n (by omega)
  go_enter Try.func67, Try.ntmps67
  go_wp2_with fail
  refine (implJobsOk_any a n cap ls _ h).mono ?_
  rw [hq]
  rintro e w1 ⟨rfl, hb1⟩
  go_wp2
  clear hmk
  have own0 : ((w1.alloc (.cells #[.int .i64 0] 2)).alloc (.cells (madeCells #[.int .i64 0] n) 2)).ownsRow (w1.heap.size + 1) 2 1 (.slice (some ⟨w1.heap.size + 1, 0, none⟩) 0 n) 0 [] := by
    have := World.ownsRow_made (base := w1.heap.size + 1) (e := 2) (size := 1) (w1.alloc (.cells #[.int .i64 0] 2)) (madeCells #[.int .i64 0] n) n (by simp) (by unfold maxLen; omega) (by simp [size_madeCells])
    simpa using this
  have hN0 : ((w1.alloc (.cells #[.int .i64 0] 2)).alloc (.cells (madeCells #[.int .i64 0] n) 2)).heap[w1.heap.size]? = some (.cells #[.int .i64 0] 2 (0, 0)) := (Below.heap_alloc _ _ _ (by simp)).trans (heap_alloc_new _ _)
  have bx0 : Below w1.heap.size w1 ((w1.alloc (.cells #[.int .i64 0] 2)).alloc (.cells (madeCells #[.int .i64 0] n) 2)) := box_below.alloc (by simp) _
  go_loopw [7, 19] (fun u i wr => ∃ (k g uc : Nat), k ≤ n ∧ i = .int .i64 k ∧ u = .slice (some ⟨g, 0, none⟩) k uc ∧ Hid (wr.ownsRow (w1.heap.size + 1) 2 1 (.slice (some ⟨g, 0, none⟩) k uc) k ((meas gTardy ls k).map (Value.int .i64))) ∧ Hid (wr.heap[w1.heap.size]? = some (.cells #[.int .i64 (sumTo ls k)] 2 (0, 0))) ∧ Below w1.heap.size w1 wr) (fun _ i _ => n - (intOf i).toNat)
  case atStart => exact ⟨0, _, _, by omega, rfl, rfl, own0, hN0, bx0⟩
  case round =>
    obtain ⟨k, g, uc, hk, rfl, rfl, HO, HN, hw⟩ := hrel
    by_cases hlt : k < n
    · obtain ⟨b, off, rfl, hbw, hat⟩ := h.at_ (by omega)
      obtain ⟨hc0, hc1, hc2, hc3, hc4, hc5, hc6⟩ := (hat.below (hb1.then hw hb1.size) hbw).job (i := k) (by omega)
      have hlt' : (k : Int) < (n : Int) := by omega
      have bd := sumTo_bd ok k (by omega)
      have bd2 := sumTo_bd ok (k + 1) (by omega)
      have okk := (ok k hlt).1
      have jb := jok_bd okk
      have hz : w1.heap.size < wr.heap.size := lt_of_block HN.out
      have hgb := World.ownsRow.lt HO.out g rfl
      have e0 : 0 ≤ sumTo ls k + (jg ls k).long := by omega
      have e1 : sumTo ls k + (jg ls k).long ≤ 400000 := by omega
      have HNa : ((wr.alloc (.cells #[.int .i64 (jg ls k).id, .int .i64 (jg ls k).cores, .int .i64 (jg ls k).long, .int .i64 (jg ls k).due, .int .i64 (jg ls k).wt, .int .i64 (jg ls k).rank, .int .i64 (jg ls k).at_] 28)).drew).heap[w1.heap.size]? = some (.cells #[.int .i64 (sumTo ls k)] 2 (0, 0)) := (Below.heap_alloc _ _ _ hz).trans HN.out
      have KA : ((wr.alloc (.cells #[.int .i64 (jg ls k).id, .int .i64 (jg ls k).cores, .int .i64 (jg ls k).long, .int .i64 (jg ls k).due, .int .i64 (jg ls k).wt, .int .i64 (jg ls k).rank, .int .i64 (jg ls k).at_] 28)).drew).cell? ⟨wr.heap.size, 0, none⟩ = some (.int .i64 (jg ls k).id) ∧ ((wr.alloc (.cells #[.int .i64 (jg ls k).id, .int .i64 (jg ls k).cores, .int .i64 (jg ls k).long, .int .i64 (jg ls k).due, .int .i64 (jg ls k).wt, .int .i64 (jg ls k).rank, .int .i64 (jg ls k).at_] 28)).drew).cell? ⟨wr.heap.size, 1, none⟩ = some (.int .i64 (jg ls k).cores) ∧ ((wr.alloc (.cells #[.int .i64 (jg ls k).id, .int .i64 (jg ls k).cores, .int .i64 (jg ls k).long, .int .i64 (jg ls k).due, .int .i64 (jg ls k).wt, .int .i64 (jg ls k).rank, .int .i64 (jg ls k).at_] 28)).drew).cell? ⟨wr.heap.size, 2, none⟩ = some (.int .i64 (jg ls k).long) ∧ ((wr.alloc (.cells #[.int .i64 (jg ls k).id, .int .i64 (jg ls k).cores, .int .i64 (jg ls k).long, .int .i64 (jg ls k).due, .int .i64 (jg ls k).wt, .int .i64 (jg ls k).rank, .int .i64 (jg ls k).at_] 28)).drew).cell? ⟨wr.heap.size, 3, none⟩ = some (.int .i64 (jg ls k).due) ∧ ((wr.alloc (.cells #[.int .i64 (jg ls k).id, .int .i64 (jg ls k).cores, .int .i64 (jg ls k).long, .int .i64 (jg ls k).due, .int .i64 (jg ls k).wt, .int .i64 (jg ls k).rank, .int .i64 (jg ls k).at_] 28)).drew).cell? ⟨wr.heap.size, 4, none⟩ = some (.int .i64 (jg ls k).wt) ∧ ((wr.alloc (.cells #[.int .i64 (jg ls k).id, .int .i64 (jg ls k).cores, .int .i64 (jg ls k).long, .int .i64 (jg ls k).due, .int .i64 (jg ls k).wt, .int .i64 (jg ls k).rank, .int .i64 (jg ls k).at_] 28)).drew).cell? ⟨wr.heap.size, 5, none⟩ = some (.int .i64 (jg ls k).rank) ∧ ((wr.alloc (.cells #[.int .i64 (jg ls k).id, .int .i64 (jg ls k).cores, .int .i64 (jg ls k).long, .int .i64 (jg ls k).due, .int .i64 (jg ls k).wt, .int .i64 (jg ls k).rank, .int .i64 (jg ls k).at_] 28)).drew).cell? ⟨wr.heap.size, 6, none⟩ = some (.int .i64 (jg ls k).at_) := by simp
      have KK : ∀ W W' : World, W'.heap[wr.heap.size]? = W.heap[wr.heap.size]? → (W.cell? ⟨wr.heap.size, 0, none⟩ = some (.int .i64 (jg ls k).id) ∧ W.cell? ⟨wr.heap.size, 1, none⟩ = some (.int .i64 (jg ls k).cores) ∧ W.cell? ⟨wr.heap.size, 2, none⟩ = some (.int .i64 (jg ls k).long) ∧ W.cell? ⟨wr.heap.size, 3, none⟩ = some (.int .i64 (jg ls k).due) ∧ W.cell? ⟨wr.heap.size, 4, none⟩ = some (.int .i64 (jg ls k).wt) ∧ W.cell? ⟨wr.heap.size, 5, none⟩ = some (.int .i64 (jg ls k).rank) ∧ W.cell? ⟨wr.heap.size, 6, none⟩ = some (.int .i64 (jg ls k).at_)) → (W'.cell? ⟨wr.heap.size, 0, none⟩ = some (.int .i64 (jg ls k).id) ∧ W'.cell? ⟨wr.heap.size, 1, none⟩ = some (.int .i64 (jg ls k).cores) ∧ W'.cell? ⟨wr.heap.size, 2, none⟩ = some (.int .i64 (jg ls k).long) ∧ W'.cell? ⟨wr.heap.size, 3, none⟩ = some (.int .i64 (jg ls k).due) ∧ W'.cell? ⟨wr.heap.size, 4, none⟩ = some (.int .i64 (jg ls k).wt) ∧ W'.cell? ⟨wr.heap.size, 5, none⟩ = some (.int .i64 (jg ls k).rank) ∧ W'.cell? ⟨wr.heap.size, 6, none⟩ = some (.int .i64 (jg ls k).at_)) := fun W W' hb hS => by
        have hc : ∀ o, W'.cell? ⟨wr.heap.size, o, none⟩ = W.cell? ⟨wr.heap.size, o, none⟩ := fun o => World.cell?_of_block (a := ⟨wr.heap.size, o, none⟩) hb
        rw [hc, hc, hc, hc, hc, hc, hc]; exact hS
      have HKA : Hid _ := KA
      have HKK : Hid _ := KK
      have HHNa : Hid _ := HNa
      clear KA KK HNa
      go_wp2
      go_region_held3 (fun w' => w'.cell? ⟨wr.heap.size, 0, none⟩ = some (.int .i64 (jg ls k).id) ∧ w'.cell? ⟨wr.heap.size, 1, none⟩ = some (.int .i64 (jg ls k).cores) ∧ w'.cell? ⟨wr.heap.size, 2, none⟩ = some (.int .i64 (jg ls k).long) ∧ w'.cell? ⟨wr.heap.size, 3, none⟩ = some (.int .i64 (jg ls k).due) ∧ w'.cell? ⟨wr.heap.size, 4, none⟩ = some (.int .i64 (jg ls k).wt) ∧ w'.cell? ⟨wr.heap.size, 5, none⟩ = some (.int .i64 (jg ls k).rank) ∧ w'.cell? ⟨wr.heap.size, 6, none⟩ = some (.int .i64 (jg ls k).at_)) (first | exact KS5 | exact KS3 | exact KS2 | exact HKA.out | go_keep) (first
        | (go_at_call 94
           refine (clock_any (jg ls k) w1.heap.size (sumTo ls k) _ HHNa.out (by omega) (by omega) (by omega) (by omega)).mono ?_
           rintro e w2 ⟨rfl, hN2, B2⟩
           have Z2 : wr.heap.size + 1 ≤ w2.heap.size := by have := B2.size; simp at this; omega
           have Q2 : ∀ r, r < wr.heap.size → r ≠ w1.heap.size → w2.heap[r]? = wr.heap[r]? := fun r hr hn => (B2.block r (by simp; omega) hn).trans (Below.heap_alloc _ _ _ hr)
           have KS2 := HKK.out _ w2 (B2.block wr.heap.size (by simp) (by omega)) HKA.out
           have U2 : Below w1.heap.size wr w2 := ((Below.refl w1.heap.size wr).alloc (by omega) (.cells #[.int .i64 (jg ls k).id, .int .i64 (jg ls k).cores, .int .i64 (jg ls k).long, .int .i64 (jg ls k).due, .int .i64 (jg ls k).wt, .int .i64 (jg ls k).rank, .int .i64 (jg ls k).at_] 28)).trans ⟨B2.os, B2.tape, B2.output, B2.size, fun r hr => B2.block r (by simp; omega) (by omega)⟩)
        | (go_at_call 75
           refine (of_Tardy (jg ls k) (sumTo ls k + (jg ls k).long) _ okk e0 e1).mono ?_
           rintro e w3 ⟨rfl, B3⟩
           have Z3 : wr.heap.size + 1 ≤ w3.heap.size := by have := B3.size; omega
           have hN3 := (B3.block w1.heap.size (by omega)).trans hN2
           have U3 : Below w1.heap.size wr w3 := U2.trans (B3.mono (by omega))
           have KS3 := HKK.out w2 w3 (B3.block wr.heap.size (by omega)) KS2
           have HO3 : ∀ o, (w3.alloc o).ownsRow (w1.heap.size + 1) 2 1 (.slice (some ⟨g, 0, none⟩) k uc) k ((meas gTardy ls k).map (Value.int .i64)) := fun o => ownI_keep HO.out ((Below.heap_alloc _ _ _ (by omega)).trans ((B3.block g (by omega)).trans (Q2 g (by omega) (by omega)))))
        | (refine step_append_own rfl (.tmp 23) (.tmp 30) 44 rfl (w1.heap.size + 1) 2 i1 (.int .i64 0) 1 8 Try.underlying44 hj hj0 hj1 hj2 rfl (by decide) (.slice (some ⟨g, 0, none⟩) k uc) k ((meas gTardy ls k).map (Value.int .i64)) rfl (HO3 _) ⟨w3.heap.size, 0, none⟩ 1 1 [.int .i64 (gTardy (jg ls k) (sumTo ls k + (jg ls k).long))] rfl rfl (own_one _ _ _) (by intro u hu; simp at hu; subst hu; rfl) (by unfold maxLen; omega) (by omega) (by simp; omega) ?_
           intro v5 w5 own5 grow5 nil5 at5
           have KS5 := HKK.out w3 w5 ((grow5.block wr.heap.size (by simp; omega) (by simp [Value.ownBlock]; omega)).trans (Below.heap_alloc _ _ _ (by omega))) KS3
           clear nil5 at5))
      have hN5 : Hid (w5.heap[w1.heap.size]? = some (.cells #[.int .i64 (sumTo ls (k + 1))] 2 (0, 0))) := (grow5.block w1.heap.size (by simp; omega) (by simp [Value.ownBlock]; omega)).trans ((Below.heap_alloc _ _ _ (by omega)).trans hN3)
      have own6 : w5.ownsRow (w1.heap.size + 1) 2 1 v5 (k + 1) ((meas gTardy ls (k + 1)).map (Value.int .i64)) := by
        rw [meas_succ, List.map_append]; exact own5
      have B5 : Below w1.heap.size w1 w5 := ((hw.trans U3).alloc (by omega) _).grown grow5 (by simp; omega) (fun r e => by simp [Value.ownBlock] at e; omega)
      obtain ⟨g3, c3, hv3⟩ : ∃ g3 c3, v5 = .slice (some ⟨g3, 0, none⟩) (k + 1) c3 := by
        rcases own6.2 with ⟨_, h0⟩ | ⟨g3, c3, _, e, _⟩
        · omega
        · exact ⟨g3, c3, e⟩
      have HO6 : Hid _ := own6
      clear own5 own6 grow5 HO3 Q2 hN2 hN3 KS2 KS3 KS5 B2 B3 U2 U3 HKK HKA HHNa
      subst hv3
      go_wp2
      go_roundw
      case rel => first | exact ⟨k + 1, g3, c3, by omega, by go_num, rfl, HO6, hN5, B5⟩ | ((repeat apply Exists.intro); exact ⟨⟨k + 1, g3, c3, by omega, by go_num, rfl, HO6, hN5, B5⟩, rfl⟩)
      case measure => simp [intOf]; omega
    · have e : k = n := by omega
      subst e
      obtain ⟨p1, _, p3, p4, p5⟩ := own_ints HO.out
      go_wp2
      go_ret2
      have := hb1.size
      exact ⟨g, uc, rfl, by omega, p4, p3, p1, hb1.then hw hb1.size⟩

theorem summed_no_Tardy (a : Option Addr) (n cap : Nat) (ls : List Jb) (w : World) (h : JobS w a n cap ls) (hq : jsB ls = false) :
    Calls Try.prog 73 #[.slice a n cap, .func (.func 75) #[] #[]] w fun e w' => e = .returned (.int .i64 (-1)) ∧ Below w.heap.size w w' := by
  go_enter Try.func73, Try.ntmps73
  go_wp2_with fail
  refine (measured_no_Tardy a n cap ls _ h hq).mono ?_
  rintro e w1 ⟨rfl, hb1⟩
  go_wp2
  go_ret
  exact ⟨rfl, hb1⟩

set_option maxHeartbeats 1000000 in
theorem summed_yes_Tardy (a : Option Addr) (n cap : Nat) (ls : List Jb) (w : World) (h : JobS w a n cap ls) (hq : jsB ls = true) :
    Calls Try.prog 73 #[.slice a n cap, .func (.func 75) #[] #[]] w fun e w' => e = .returned (.int .i64 (sumG gTardy ls n)) ∧ Below w.heap.size w w' := by
  have hlen := h.len
  have hn := (jsB_t hq).n
  have ok : jokTo ls n := by rw [← hlen]; exact (jsB_t hq).ok
  go_enter Try.func73, Try.ntmps73
  go_wp2_with fail
  refine (measured_yes_Tardy a n cap ls _ h hq).mono ?_
  rintro e w1 ⟨g, c, rfl, hg, hc, hnc, hI, hb1⟩
  go_wp2
  go_loop [7, 20] (fun t i => ∃ k : Nat, k ≤ n ∧ i = .int .i64 k ∧ t = .int .i64 (sumG gTardy ls k)) (fun _ i => n - (intOf i).toNat)
  case atStart => exact ⟨0, by omega, rfl, rfl⟩
  case round =>
    obtain ⟨k, hk, rfl, rfl⟩ := hrel
    by_cases hlt : k < n
    · have hlt' : (k : Int) < (n : Int) := by omega
      have hcl := hI.cell hlt
      rw [meas_g _ _ hlt] at hcl
      have b0 := sumG_bd g_bd_Tardy ok (by omega) k (by omega)
      have b1 := sumG_bd g_bd_Tardy ok (by omega) (k + 1) (by omega)
      have hs : sumG gTardy ls (k + 1) = sumG gTardy ls k + gTardy (jg ls k) (sumTo ls (k + 1)) := rfl
      rw [hs] at b1
      have HS : Hid (sumG gTardy ls (k + 1) = sumG gTardy ls k + gTardy (jg ls k) (sumTo ls (k + 1))) := hs
      clear hs hI
      generalize gTardy (jg ls k) (sumTo ls (k + 1)) = z at *
      go_wp2
      go_round
      case rel => exact ⟨k + 1, by omega, by go_num, by rw [HS.out]⟩
      case measure => simp [intOf]; omega
    · have e : k = n := by omega
      subst e
      go_wp2
      go_ret
      exact ⟨rfl, hb1⟩

end Go.Proofs.Ytaoimijeaacaiaa
