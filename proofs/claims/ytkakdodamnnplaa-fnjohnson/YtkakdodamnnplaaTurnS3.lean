/- Turns of the model. -/
import Derived.Test.YtkakdodamnnplaaTurnS2
import Derived.Test.YtkakdodamnnplaaTime
namespace Go.Proofs.Ytkakdodamnnplaa
open Go.RowKit

/-- what Turns tells -/
def turnsV (n : Int) : List (List Int) := if 0 ≤ n ∧ n ≤ 6 then turnsL n.toNat (upN n.toNat) else []

set_option maxRecDepth 8000 in
set_option maxHeartbeats 4000000 in
theorem specTurns_any (n : Int) (w : World) :
    Calls Try.prog 20 #[.int .i64 n] w fun e w' => ∃ v X, e = .returned v ∧ RRows w' w.heap.size v X ∧ X.map (·.l) = turnsV n ∧ AllSome X ∧ Below w.heap.size w w' := by
  obtain ⟨i1, hi1, hi2, hi3, hi4⟩ := info_parts infoI
  by_cases c : 0 ≤ n ∧ n ≤ 6
  · obtain ⟨m, rfl⟩ := Int.eq_ofNat_of_zero_le c.1
    have hm6 : m ≤ 6 := by omega
    have HV : Hid (turnsV (m : Int) = turnsL m (upN m)) := by unfold Hid turnsV; rw [if_pos c]; simp
    have dc : inB (m : Int) 0 6 = true := by unfold inB; simp; omega
    have HU : Hid (∀ k, upN (k + 1) = upN k ++ [(k : Int)]) := upN_succ
    go_enter Try.func20, Try.ntmps20
    go_wp2_with fail
    refine (l1In_any _ _ _ _).mono ?_
    rw [dc]
    rintro e w' ⟨rfl, hq⟩; have hq' := hq.symm; clear hq; subst hq'
    clear dc c
    go_wp2_with fail
    go_loopw [3, 4] (fun a i wr => ∃ (k : Nat) (x : Rw), k ≤ m ∧ i = .int .i64 k ∧ a = x.val ∧ Hid (x.l = upN k) ∧ Hid (RowOk wr w.heap.size x) ∧ Below w.heap.size w wr) (fun _ i _ => m - (intOf i).toNat)
    case atStart => exact ⟨0, ⟨some w.heap.size, 0, []⟩, by omega, rfl, rfl, rfl, ⟨rfl, Or.inr ⟨w.heap.size, 0, #[], rfl, Nat.le_refl _, heap_alloc_new _ _, Nat.le_refl _, Nat.zero_le _, rfl, rfl⟩⟩, (Below.refl _ _).alloc (Nat.le_refl _) _⟩
    case round =>
      obtain ⟨k, x, hk, rfl, rfl, HX, HR, hw⟩ := hrel
      have HL : Hid (x.l.length = k) := by rw [Hid, HX.out, upN_len]
      have z := hw.size
      by_cases hkt : k < m
      · have hkt' : (k : Int) < (m : Int) := by omega
        have OX := HR.out.below (box_below (cs := #[.int .i64 (k : Int)]) (T := 2))
        have hl := HL.out
        go_wp2_with (at_builtin; refine wpList_append_own_at _ rfl (.tmp 15) (.tmp 17) 34 rfl w.heap.size 2 i1 (.int .i64 0) 1 8 Try.underlying34 hi1 hi2 hi3 hi4 rfl (by decide) _ _ _ rfl OX ⟨wr.heap.size, 0, none⟩ 1 1 [.int .i64 (k : Int)] rfl rfl (cell_one_new _ _ _) (fun u hu => by obtain rfl := List.mem_singleton.1 hu; rfl) (by unfold maxLen; omega) (by omega) (by simp; omega) ?_)
        intro v1 w1 own1 grow1 nil1 at1
        obtain ⟨y, hy0, hyl, hyo, hyb⟩ := rowOk_of (l := x.l ++ [(k : Int)]) own1 (by simp; try omega) (by rw [ints_app]; rfl)
        have HB : Hid (Below w.heap.size w w1) := (hw.alloc z _).grown grow1 (by simp; omega) (fun r e => (World.ownsRow.lt OX r e).1)
        have HYL : Hid (y.l = upN (k + 1)) := by rw [Hid, hyl, HX.out, HU.out]
        subst hy0
        clear own1 grow1 nil1 at1 hyb OX hyl hl
        go_wp2
        go_roundw
        case rel => exact ⟨k + 1, y, by omega, by go_num, rfl, HYL.out, hyo, HB.out⟩
        case measure => simp [intOf]; omega
      · have e : k = m := by omega
        subst e
        go_wp2_with fail
        refine (l5Turns_any k x w.heap.size _ HR.out HL.out hm6).mono ?_
        rintro e w2 ⟨v, X, rfl, hR, hXl, hS, hb⟩
        go_wp2
        go_ret
        exact ⟨v, X, rfl, hR.low z, by rw [HV.out, hXl, HX.out], hS, hw.then hb z⟩
  · have dc : inB n 0 6 = false := by unfold inB; simp; omega
    have HV : Hid (turnsV n = []) := by unfold Hid turnsV; rw [if_neg c]
    go_enter Try.func20, Try.ntmps20
    go_wp2_with fail
    refine (l1In_any _ _ _ _).mono ?_
    rw [dc]
    rintro e w' ⟨rfl, hq⟩; have hq' := hq.symm; clear hq; subst hq'
    go_wp2
    go_ret
    exact ⟨_, [], rfl, none_rows w, by rw [HV.out]; rfl, (fun x hx => by cases hx), (Below.refl _ _).alloc (Nat.le_refl _) _⟩

theorem turnsV_bd (n : Int) : (turnsV n).length ≤ 720 ∧ ∀ t ∈ turnsV n, t.length ≤ 6 := by
  unfold turnsV
  by_cases c : 0 ≤ n ∧ n ≤ 6
  · rw [if_pos c]
    refine ⟨?_, fun t ht => ?_⟩
    · rw [turnsL_len _ _ (upN_len _)]; exact (factN_le _ (by omega)).1
    · rw [(turnsL_perm _ _ (upN_len _) t ht).length_eq, upN_len]; omega
  · rw [if_neg c]
    exact ⟨by simp, fun t ht => by cases ht⟩

end Go.Proofs.Ytkakdodamnnplaa
