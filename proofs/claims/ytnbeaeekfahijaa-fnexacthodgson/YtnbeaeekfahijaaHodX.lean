/- slices.MaxFunc of jobs, by the longest (of alike ones the greatest Id). -/
import Derived.Test.YtnbeaeekfahijaaHodD
import Derived.Test.YtnbeaeekfahijaaRuleI2
import Derived.Test.YtnbeaeekfahijaaJobDrawA
namespace Go.Proofs.Ytnbeaeekfahijaa
open Go.RowKit Go.Sort

theorem cbyLong_pos (x y : Jb) : 0 < cbyLong x y ↔ ltLong y x = true := by
  unfold cbyLong or2 kbyLong cmpI ltLong
  simp only [decide_eq_true_eq]
  split <;> split <;> (try split) <;> (try split) <;> omega

theorem box7_set {w : World} {B : Nat} {i j : Jb} (h : w.heap[B]? = some (.cells #[.int .i64 i.id, .int .i64 i.cores, .int .i64 i.long, .int .i64 i.due, .int .i64 i.wt, .int .i64 i.rank, .int .i64 i.at_] 31 (0, 0))) :
    (((((((w.setCell ⟨B, 0, none⟩ (.int .i64 j.id)).setCell ⟨B, 1, none⟩ (.int .i64 j.cores)).setCell ⟨B, 2, none⟩ (.int .i64 j.long)).setCell ⟨B, 3, none⟩ (.int .i64 j.due)).setCell ⟨B, 4, none⟩ (.int .i64 j.wt)).setCell ⟨B, 5, none⟩ (.int .i64 j.rank)).setCell ⟨B, 6, none⟩ (.int .i64 j.at_)).heap[B]? = some (.cells #[.int .i64 j.id, .int .i64 j.cores, .int .i64 j.long, .int .i64 j.due, .int .i64 j.wt, .int .i64 j.rank, .int .i64 j.at_] 31 (0, 0)) := by
  have := blk_set (j := 6) (blk_set (j := 5) (blk_set (j := 4) (blk_set (j := 3) (blk_set (j := 2) (blk_set (j := 1) (blk_set (j := 0) h (.int .i64 j.id)) (.int .i64 j.cores)) (.int .i64 j.long)) (.int .i64 j.due)) (.int .i64 j.wt)) (.int .i64 j.rank)) (.int .i64 j.at_)
  simpa using this
theorem box7_other (w : World) (B : Nat) (j : Jb) {k : Nat} (hk : k ≠ B) : (((((((w.setCell ⟨B, 0, none⟩ (.int .i64 j.id)).setCell ⟨B, 1, none⟩ (.int .i64 j.cores)).setCell ⟨B, 2, none⟩ (.int .i64 j.long)).setCell ⟨B, 3, none⟩ (.int .i64 j.due)).setCell ⟨B, 4, none⟩ (.int .i64 j.wt)).setCell ⟨B, 5, none⟩ (.int .i64 j.rank)).setCell ⟨B, 6, none⟩ (.int .i64 j.at_)).heap[k]? = w.heap[k]? :=
  (Below.heap_setCell _ _ _ _ hk).trans ((Below.heap_setCell _ _ _ _ hk).trans ((Below.heap_setCell _ _ _ _ hk).trans ((Below.heap_setCell _ _ _ _ hk).trans ((Below.heap_setCell _ _ _ _ hk).trans ((Below.heap_setCell _ _ _ _ hk).trans (Below.heap_setCell _ _ _ _ hk))))))
theorem box7_below {b : Nat} {w0 w : World} (h : Below b w0 w) {B : Nat} (hB : b ≤ B) (j : Jb) : Below b w0 (((((((w.setCell ⟨B, 0, none⟩ (.int .i64 j.id)).setCell ⟨B, 1, none⟩ (.int .i64 j.cores)).setCell ⟨B, 2, none⟩ (.int .i64 j.long)).setCell ⟨B, 3, none⟩ (.int .i64 j.due)).setCell ⟨B, 4, none⟩ (.int .i64 j.wt)).setCell ⟨B, 5, none⟩ (.int .i64 j.rank)).setCell ⟨B, 6, none⟩ (.int .i64 j.at_)) := (((((((h.setCell hB _).setCell hB _).setCell hB _).setCell hB _).setCell hB _).setCell hB _).setCell hB _)

set_option maxRecDepth 8000 in
set_option maxHeartbeats 4000000 in
theorem maxFunc_any (a : Option Addr) (n cap : Nat) (K : List Jb) (bo bn : Nat) (w : World) (h : JobS w a n cap K) (h0 : 0 < n) (hn : n ≤ 41) (hok : ∀ i, i < n → jok (jg K i) = true)
    (ho : w.cell? ⟨bo, 0, none⟩ = some (.func (.func 42) #[] #[])) (hb : w.cell? ⟨bn, 0, none⟩ = some (.func (.func 64) #[] #[])) :
    Calls Try.prog 68 #[.slice a n cap, .func (.func 77) #[] #[.pointer (some ⟨bo, 0, none⟩), .pointer (some ⟨bn, 0, none⟩)]] w fun e w' =>
      ∃ i, e = .returned (.agg #[.int .i64 (jg K i).id, .int .i64 (jg K i).cores, .int .i64 (jg K i).long, .int .i64 (jg K i).due, .int .i64 (jg K i).wt, .int .i64 (jg K i).rank, .int .i64 (jg K i).at_]) ∧ IsFar K i ∧ Below w.heap.size w w' := by
  have hlen := h.len
  have hm := h.mx
  have hle := h.le
  unfold maxLen at hm
  have lo := World.block_lt_of_cell? w _ ho
  have lb := World.block_lt_of_cell? w _ hb
  obtain ⟨b, off, rfl, hbw, hat⟩ := h.at_ h0
  have hmo : Try.prog.follows .mixedOrders = true := by kernel_rfl
  have h0' : (0 : Int) < (n : Int) := by omega
  have h1' : ¬ ((n : Int) < 1) := by omega
  obtain ⟨C0, C1, C2, C3, C4, C5, C6⟩ := (hat.below (box_below (w := w) (cs := #[.int .i64 0, .int .i64 0, .int .i64 0, .int .i64 0, .int .i64 0, .int .i64 0, .int .i64 0]) (T := 31)) hbw).job (i := 0) (by omega)
  simp only [Nat.zero_mul, Nat.add_zero] at C0 C1 C2 C3 C4 C5 C6
  go_enter Try.func68, Try.ntmps68
  go_wp2
  clear C0 C1 C2 C3 C4 C5 C6
  go_loopw [6] (fun i wr => ∃ (k j : Nat), 1 ≤ k ∧ k ≤ n ∧ i = .int .i64 k ∧ j < k ∧ wr.heap[w.heap.size]? = some (.cells #[.int .i64 0, .int .i64 0, .int .i64 0, .int .i64 0, .int .i64 0, .int .i64 0, .int .i64 0] 31 (0, 0)) ∧ wr.heap[w.heap.size + 1]? = some (.cells #[.int .i64 (jg K j).id, .int .i64 (jg K j).cores, .int .i64 (jg K j).long, .int .i64 (jg K j).due, .int .i64 (jg K j).wt, .int .i64 (jg K j).rank, .int .i64 (jg K j).at_] 31 (0, 0)) ∧ (∀ p, p < k → ltLong (jg K j) (jg K p) = false) ∧ Below w.heap.size w wr) (fun i _ => n - (intOf i).toNat)
  case atStart =>
    refine ⟨1, 0, by omega, by omega, rfl, by omega, ?_, ?_, fun p hp => ?_, ?_⟩
    · exact (Below.heap_alloc _ _ _ (by simp)).trans (heap_alloc_new _ _)
    · have := heap_alloc_new (w.alloc (.cells #[.int .i64 0, .int .i64 0, .int .i64 0, .int .i64 0, .int .i64 0, .int .i64 0, .int .i64 0] 31)) (.cells #[.int .i64 (jg K 0).id, .int .i64 (jg K 0).cores, .int .i64 (jg K 0).long, .int .i64 (jg K 0).due, .int .i64 (jg K 0).wt, .int .i64 (jg K 0).rank, .int .i64 (jg K 0).at_] 31)
      rwa [show (w.alloc (.cells #[.int .i64 0, .int .i64 0, .int .i64 0, .int .i64 0, .int .i64 0, .int .i64 0, .int .i64 0] 31)).heap.size = w.heap.size + 1 by simp] at this
    · obtain rfl : p = 0 := by omega
      exact swo_long.irrefl _
    · exact ((Below.refl _ _).alloc (Nat.le_refl _) _).alloc (by simp) _
  case round =>
    obtain ⟨k, j, k1, kn, rfl, hjk, bR, bM, hmax, hw⟩ := hrel
    have lM := lt_of_block bM
    have lR := lt_of_block bR
    by_cases hlt : k < n
    · have hlt' : (k : Int) < (n : Int) := by omega
      have hwz := hw.size
      have hbi : b < wr.heap.size := by omega
      have Hk := (hat.below hw hbw).job (i := k) (by omega)
      have Hm := (blk7 bM).1
      have P0 := fun nn os => cell_grown (w := wr) (by exact hbi) Hk.1 nn os
      have P1 := fun nn os => cell_grown (w := wr) (by exact hbi) Hk.2.1 nn os
      have P2 := fun nn os => cell_grown (w := wr) (by exact hbi) Hk.2.2.1 nn os
      have P3 := fun nn os => cell_grown (w := wr) (by exact hbi) Hk.2.2.2.1 nn os
      have P4 := fun nn os => cell_grown (w := wr) (by exact hbi) Hk.2.2.2.2.1 nn os
      have P5 := fun nn os => cell_grown (w := wr) (by exact hbi) Hk.2.2.2.2.2.1 nn os
      have P6 := fun nn os => cell_grown (w := wr) (by exact hbi) Hk.2.2.2.2.2.2 nn os
      have Q0 := fun nn os => cell_grown (w := wr) (by exact lM) Hm.1 nn os
      have Q1 := fun nn os => cell_grown (w := wr) (by exact lM) Hm.2.1 nn os
      have Q2 := fun nn os => cell_grown (w := wr) (by exact lM) Hm.2.2.1 nn os
      have Q3 := fun nn os => cell_grown (w := wr) (by exact lM) Hm.2.2.2.1 nn os
      have Q4 := fun nn os => cell_grown (w := wr) (by exact lM) Hm.2.2.2.2.1 nn os
      have Q5 := fun nn os => cell_grown (w := wr) (by exact lM) Hm.2.2.2.2.2.1 nn os
      have Q6 := fun nn os => cell_grown (w := wr) (by exact lM) Hm.2.2.2.2.2.2 nn os
      have CA : ∀ nn os, Calls Try.prog 77 #[.agg #[.int .i64 (jg K k).id, .int .i64 (jg K k).cores, .int .i64 (jg K k).long, .int .i64 (jg K k).due, .int .i64 (jg K k).wt, .int .i64 (jg K k).rank, .int .i64 (jg K k).at_], .agg #[.int .i64 (jg K j).id, .int .i64 (jg K j).cores, .int .i64 (jg K j).long, .int .i64 (jg K j).due, .int .i64 (jg K j).wt, .int .i64 (jg K j).rank, .int .i64 (jg K j).at_], .pointer (some ⟨bo, 0, none⟩), .pointer (some ⟨bn, 0, none⟩)] (grow (wr.drewN nn) os) fun e w' => e = .returned (.int .i64 (cbyLong (jg K k) (jg K j))) ∧ ∃ q os', w' = grow ((grow (wr.drewN nn) os).drewN q) os' :=
        fun nn os => then_byLong _ _ (hok k hlt) (hok j (by omega)) bo bn _ (cell_grown (by exact Nat.lt_of_lt_of_le lo hwz) ((hw.cell (p := ⟨bo, 0, none⟩) lo).trans ho) nn os) (cell_grown (by exact Nat.lt_of_lt_of_le lb hwz) ((hw.cell (p := ⟨bn, 0, none⟩) lb).trans hb) nn os)
      clear Hk Hm
      have FZ := fun (c : Nat) nn os => ((below_grow wr nn os).frozen (p := ⟨w.heap.size + 1, c, none⟩) lM).trans (free_of_blk c bM)
      have F0 := FZ 0
      have F1 := FZ 1
      have F2 := FZ 2
      have F3 := FZ 3
      have F4 := FZ 4
      have F5 := FZ 5
      have F6 := FZ 6
      clear FZ
      have hpos := cbyLong_pos (jg K k) (jg K j)
      have BG := fun nn os => below_grow wr nn os
      generalize cbyLong (jg K k) (jg K j) = cv at CA hpos
      by_cases hc : 0 < cv
      · have hlk := hpos.1 hc
        have HM : Hid (∀ p, p < k + 1 → ltLong (jg K k) (jg K p) = false) := fun p hp => by
          by_cases e : p = k
          · subst e; exact swo_long.irrefl _
          · rw [Bool.eq_false_iff]; intro h1
            have := swo_long.trans _ _ _ hlk h1
            rw [hmax p (by omega)] at this; cases this
        clear hpos hmax
        go_wp2
        go_quiet_grown ((go_at_call 77; exact Calls.grown_of (CA _ _)))
        have B3 := BG nq osq
        have bM3 := (B3.block _ lM).trans bM
        have bR3 := (B3.block _ lR).trans bR
        have hw3 := hw.then B3 hw.size
        go_wp2
        go_roundw
        case rel => exact ⟨k + 1, k, by omega, by omega, by go_num, by omega, (box7_other _ _ _ (by omega)).trans bR3, box7_set bM3, HM.out, box7_below hw3 (by omega) _⟩
        case measure => simp [intOf]; omega
      · have HM : Hid (∀ p, p < k + 1 → ltLong (jg K j) (jg K p) = false) := fun p hp => by
          by_cases e : p = k
          · subst e; rw [Bool.eq_false_iff]; exact fun h1 => hc (hpos.2 h1)
          · exact hmax p (by omega)
        clear hpos hmax
        go_wp2
        go_quiet_grown ((go_at_call 77; exact Calls.grown_of (CA _ _)))
        have B3 := BG nq osq
        go_wp2
        go_roundw
        case rel => exact ⟨k + 1, j, by omega, by omega, by go_num, by omega, (B3.block _ lR).trans bR, (B3.block _ lM).trans bM, HM.out, hw.then B3 hw.size⟩
        case measure => simp [intOf]; omega
    · have e : k = n := by omega
      subst e
      have hlt' : ¬ ((k : Int) < (k : Int)) := by omega
      obtain ⟨Q0, Q1, Q2, Q3, Q4, Q5, Q6⟩ := (blk7 bM).1
      obtain ⟨⟨R0, R1, R2, R3, R4, R5, R6⟩, RF⟩ := blk7 (j := jb0) bR
      have F0 := free_of_blk 0 bR
      have F1 := free_of_blk 1 bR
      have F2 := free_of_blk 2 bR
      have F3 := free_of_blk 3 bR
      have F4 := free_of_blk 4 bR
      have F5 := free_of_blk 5 bR
      have F6 := free_of_blk 6 bR
      have bF := box7_set (i := jb0) (j := jg K j) bR
      have wF := box7_below hw (Nat.le_refl _) (jg K j)
      have HF : Hid (IsFar K j) := ⟨(by omega : j < K.length), fun p hp => hmax p (by omega)⟩
      clear RF hmax
      go_wp2
      generalize ((((((wr.setCell ⟨w.heap.size, 0, none⟩ (.int .i64 (jg K j).id)).setCell ⟨w.heap.size, 1, none⟩ (.int .i64 (jg K j).cores)).setCell ⟨w.heap.size, 2, none⟩ (.int .i64 (jg K j).long)).setCell ⟨w.heap.size, 3, none⟩ (.int .i64 (jg K j).due)).setCell ⟨w.heap.size, 4, none⟩ (.int .i64 (jg K j).wt)).setCell ⟨w.heap.size, 5, none⟩ (.int .i64 (jg K j).rank)).setCell ⟨w.heap.size, 6, none⟩ (.int .i64 (jg K j).at_) = WF at bF wF ⊢
      obtain ⟨G0, G1, G2, G3, G4, G5, G6⟩ := (blk7 bF).1
      exact bodyPost_ret (v := .agg #[.int .i64 (jg K j).id, .int .i64 (jg K j).cores, .int .i64 (jg K j).long, .int .i64 (jg K j).due, .int .i64 (jg K j).wt, .int .i64 (jg K j).rank, .int .i64 (jg K j).at_]) (by simp [results, Try.results68, go_sem, G0, G1, G2, G3, G4, G5, G6]) rfl ⟨j, rfl, HF.out, wF⟩

end Go.Proofs.Ytnbeaeekfahijaa
