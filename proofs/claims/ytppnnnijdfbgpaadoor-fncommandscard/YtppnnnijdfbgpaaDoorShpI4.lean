/- The program's kindOf and commandOf. -/
import Derived.Test.YtppnnnijdfbgpaaDoorShpI2
import Derived.Test.YtppnnnijdfbgpaaDoorCmdR
namespace Go.Proofs.YtppnnnijdfbgpaaDoor
open Go.RowKit

/-- the kind that a word tells -/
def IsKd (s : List UInt8) (kd : Nat) : Prop := kd < 8 ∧ (1 ≤ kd → kW (kd : Int) = s) ∧ (kd = 0 → ∀ j : Nat, 1 ≤ j → j < 8 → kW (j : Int) ≠ s)
theorem sizedSh : (Tryd.prog.info? 42).map (·.size) = some 56 := by kernel_rfl
theorem shL_size : shL.toArray.size = 56 := by rfl

theorem kW_pos {j : Nat} (h1 : 1 ≤ j) (h8 : j < 8) : kW (j : Int) ≠ [] := by
  obtain rfl | rfl | rfl | rfl | rfl | rfl | rfl : j = 1 ∨ j = 2 ∨ j = 3 ∨ j = 4 ∨ j = 5 ∨ j = 6 ∨ j = 7 := by omega
  all_goals decide
theorem idxSh {j : Nat} (hj : j < 8) (W : World) : (Instr.index 42 (.agg shL.toArray) (.int .i64 (j : Int))).run Tryd.prog W = .ok (shV j) W := by
  obtain rfl | rfl | rfl | rfl | rfl | rfl | rfl | rfl : j = 0 ∨ j = 1 ∨ j = 2 ∨ j = 3 ∨ j = 4 ∨ j = 5 ∨ j = 6 ∨ j = 7 := by omega
  all_goals kernel_rfl

set_option maxHeartbeats 1000000 in
theorem kindOf_any (s : List UInt8) (w : World) (hs : ShIs w) :
    Calls Tryd.prog 28 #[.string ⟨s.toArray⟩] w fun e w' => ∃ kd : Nat, e = .returned (.int .i64 kd) ∧ IsKd s kd ∧ Below w.heap.size w w' := by
  obtain ⟨t, fr, hg⟩ := hs.blk
  have HI : Hid (∀ j : Nat, j < 8 → ∀ W, (Instr.index 42 (.agg shL.toArray) (.int .i64 (j : Int))).run Tryd.prog W = .ok (shV j) W) := fun j hj W => idxSh hj W
  have htl := toList_list s
  have Hbs : Hid (∀ m : List UInt8, ((⟨m.toArray⟩ : ByteArray).toList == s) = decide (m = s)) := fun m => by rw [toList_list]; by_cases e : m = s <;> simp [e]
  generalize hbs : (⟨s.toArray⟩ : ByteArray) = bs at htl ⊢
  clear hbs
  have hsz : (Tryd.prog.info? 42).map (·.size) = some shL.toArray.size := by rw [shL_size]; exact sizedSh
  generalize shL.toArray = tab at HI hg hsz
  go_enter Tryd.func28, Tryd.ntmps28
  go_wp2_with (refine wpList_load_row rfl 42 _ rfl 0 rfl t _ fr _ hg Tryd.underlying42 rfl hsz ?_)
  clear hg hsz
  go_loopw [3, 4, 6] (fun _ _ iv wr => ∃ j : Nat, j ≤ 8 ∧ iv = .int .i64 j ∧ Hid (∀ i : Nat, i < j → kW (i : Int) ≠ s) ∧ Below w.heap.size w wr) (fun _ _ iv _ => 8 - (intOf iv).toNat)
  case atStart => exact ⟨0, by omega, rfl, fun i hi => by omega, Below.refl _ _⟩
  case round =>
    obtain ⟨j, hj, rfl, HJ, hw⟩ := hrel
    rename World => wr
    by_cases h8 : j < 8
    · have h8' : (j : Int) < 8 := by omega
      have hi := HI.out j h8 wr
      rw [shV_is h8] at hi
      have Hb := Hbs.out (kW (j : Int))
      have HN : Hid (kW (j : Int) ≠ s → ∀ i : Nat, i < j + 1 → kW (i : Int) ≠ s) := fun h => all_s HJ.out h
      have HK : Hid (kW (j : Int) = s → IsKd s j) := fun h => ⟨h8, fun _ => h, fun h0 i h1 h9 e => by
        subst h0
        exact kW_pos h1 h9 (e.trans (h.symm.trans rfl))⟩
      generalize loK j 0 = x0 at hi
      generalize loK j 1 = x1 at hi
      generalize loK j 2 = x2 at hi
      generalize hiK j 0 = y0 at hi
      generalize hiK j 1 = y1 at hi
      generalize hiK j 2 = y2 at hi
      generalize kW (j : Int) = m at hi Hb HN HK
      generalize hwd : (⟨m.toArray⟩ : ByteArray) = wd at hi Hb
      clear hwd
      obtain ⟨W1, hW1⟩ : ∃ W1, W1 = wr.alloc (.cells #[.string wd, .int .i64 x0, .int .i64 y0, .int .i64 x1, .int .i64 y1, .int .i64 x2, .int .i64 y2] 41) := ⟨_, rfl⟩
      have hw1 : Below w.heap.size w W1 := by rw [hW1]; exact hw.alloc hw.size _
      have y0 : W1.cell? ⟨wr.heap.size, 0, none⟩ = some (.string wd) := by rw [hW1]; simp
      go_upto_region 4 with fail
      rw [← hW1]
      clear hW1 hi
      by_cases hm : m = s
      · have d1 : decide (m = s) = true := by simpa using hm
        rw [d1] at Hb
        have E := HK.out hm
        clear hm d1
        go_wp2
        go_ret
        exact ⟨j, rfl, E, hw1⟩
      · have d1 : decide (m = s) = false := by simpa using hm
        rw [d1] at Hb
        have E := HN.out hm
        clear hm d1
        go_wp2
        go_roundw
        case rel => exact ⟨j + 1, by omega, by go_num, E, hw1⟩
        case measure => simp [intOf]; omega
    · obtain rfl : j = 8 := by omega
      go_wp2
      go_ret
      exact ⟨0, rfl, ⟨by omega, fun h => by omega, fun _ i h1 h9 => HJ.out i h9⟩, hw⟩

end Go.Proofs.YtppnnnijdfbgpaaDoor
