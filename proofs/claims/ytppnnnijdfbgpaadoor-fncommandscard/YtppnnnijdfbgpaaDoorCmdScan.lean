/- The program's digitAt. -/
import Derived.Test.YtppnnnijdfbgpaaDoorCmdSc
import Derived.Test.YtppnnnijdfbgpaaDoorTime
import Derived.PlainAid
namespace Go.Proofs.YtppnnnijdfbgpaaDoor
open Go.RowKit Go.PlainAid

theorem btL_bd (l : List UInt8) (i : Nat) : 0 ≤ btL l i ∧ btL l i ≤ 255 := by
  unfold btL
  have := (l[i]?.getD 0).toNat_lt
  omega

set_option maxHeartbeats 1000000 in
theorem digitAt_any (l : List UInt8) (i : Nat) (hi : i ≤ l.length) (w : World) :
    Calls Tryd.prog 38 #[.string ⟨l.toArray⟩, .int .i64 i] w fun e w' => e = .returned (.int .i64 (dgL l i)) ∧ w' = w := by
  have hbt := bt_list l
  have hsz := size_list l
  have hbd := btL_bd l i
  by_cases hlt : i < l.length
  · have ei := hbt i hlt
    have hlt' : (i : Int) < (l.length : Int) := by omega
    have hne : ((i : Int) == (l.length : Int)) = false := by simp; omega
    have HD : Hid (dgL l i = if inB (btL l i) 48 57 = true then btL l i - 48 else -1) := by
      unfold Hid dgL inB
      by_cases h : 48 ≤ btL l i ∧ btL l i ≤ 57
      · rw [if_pos ⟨hlt, h⟩, if_pos (by simp [h.1, h.2])]
      · rw [if_neg (fun h' => h h'.2), if_neg (by simp; omega)]
    generalize dgL l i = r at HD
    generalize (⟨l.toArray⟩ : ByteArray) = bs at hbt hsz ei ⊢
    have HB := get_bt bs
    clear hbt
    generalize btL l i = x at ei HD hbd
    have w1 : IntKind.i64.wrap x = x := by rw [IntKind.wrap_i64]; omega
    rcases hv : inB x 48 57 with _ | _
    · have E : Hid (r = -1) := HD.out.trans (by rw [hv]; rfl)
      go_enter Tryd.func38, Tryd.ntmps38
      go_wp2_with (go_at_call 32; refine (within_any _ _ _ _).mono ?_; rw [hv]; rintro e w' ⟨rfl, hq⟩; have hq' := hq.symm; clear hq; subst hq')
      go_ret
      exact ⟨by rw [E.out]; rfl, rfl⟩
    · have E : Hid (r = x - 48) := HD.out.trans (by rw [hv]; rfl)
      have h9 : 48 ≤ x ∧ x ≤ 57 := by unfold inB at hv; simpa using hv
      have w2 : IntKind.u8.wrap (x - 48) = x - 48 := by unfold IntKind.wrap; simp [IntKind.bits, IntKind.signed]; omega
      have w3 : IntKind.i64.wrap (x - 48) = x - 48 := by rw [IntKind.wrap_i64]; omega
      go_enter Tryd.func38, Tryd.ntmps38
      go_wp2_with (go_at_call 32; refine (within_any _ _ _ _).mono ?_; rw [hv]; rintro e w' ⟨rfl, hq⟩; have hq' := hq.symm; clear hq; subst hq')
      go_ret
      exact ⟨by rw [E.out]; rfl, rfl⟩
  · obtain rfl : i = l.length := by omega
    have HD : Hid (dgL l l.length = -1) := by unfold Hid dgL; rw [if_neg (fun h => by omega)]
    generalize dgL l l.length = r at HD
    generalize (⟨l.toArray⟩ : ByteArray) = bs at hbt hsz ⊢
    clear hbt hbd
    go_enter Tryd.func38, Tryd.ntmps38
    go_wp2
    go_ret
    exact ⟨by rw [HD.out]; rfl, rfl⟩

end Go.Proofs.YtppnnnijdfbgpaaDoor
