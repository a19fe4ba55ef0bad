/- Finish and Parts of the program; the latest of pieces. -/
import Derived.Test.YtnndkdonbjeejaaNbs
import Derived.Test.YtnndkdonbjeejaaPieceS
import Derived.Shelf.SlSortCmp.QuietGrown
namespace Go.Proofs.Ytnndkdonbjeejaa
open Go.RowKit Go.Sort

theorem kUp_pos (x y : Pc) : 0 < kUp x y ↔ y.up < x.up := by unfold kUp cmpI; split <;> (try split) <;> omega
theorem box4_set {w : World} {B : Nat} {i j : Pc} (h : w.heap[B]? = some (.cells #[.int .i64 i.job, .int .i64 i.mac, .int .i64 i.fr, .int .i64 i.up] 56 (0, 0))) :
    ((((w.setCell ⟨B, 0, none⟩ (.int .i64 j.job)).setCell ⟨B, 1, none⟩ (.int .i64 j.mac)).setCell ⟨B, 2, none⟩ (.int .i64 j.fr)).setCell ⟨B, 3, none⟩ (.int .i64 j.up)).heap[B]? = some (.cells #[.int .i64 j.job, .int .i64 j.mac, .int .i64 j.fr, .int .i64 j.up] 56 (0, 0)) := by
  have := blk_set (j := 3) (blk_set (j := 2) (blk_set (j := 1) (blk_set (j := 0) h (.int .i64 j.job)) (.int .i64 j.mac)) (.int .i64 j.fr)) (.int .i64 j.up)
  simpa using this
theorem box4_other (w : World) (B : Nat) (j : Pc) {k : Nat} (hk : k ≠ B) : ((((w.setCell ⟨B, 0, none⟩ (.int .i64 j.job)).setCell ⟨B, 1, none⟩ (.int .i64 j.mac)).setCell ⟨B, 2, none⟩ (.int .i64 j.fr)).setCell ⟨B, 3, none⟩ (.int .i64 j.up)).heap[k]? = w.heap[k]? :=
  (Below.heap_setCell _ _ _ _ hk).trans ((Below.heap_setCell _ _ _ _ hk).trans ((Below.heap_setCell _ _ _ _ hk).trans (Below.heap_setCell _ _ _ _ hk)))
theorem box4_below {b : Nat} {w0 w : World} (h : Below b w0 w) {B : Nat} (hB : b ≤ B) (j : Pc) : Below b w0 ((((w.setCell ⟨B, 0, none⟩ (.int .i64 j.job)).setCell ⟨B, 1, none⟩ (.int .i64 j.mac)).setCell ⟨B, 2, none⟩ (.int .i64 j.fr)).setCell ⟨B, 3, none⟩ (.int .i64 j.up)) := ((((h.setCell hB _).setCell hB _).setCell hB _).setCell hB _)
theorem blk4 {w : World} {B : Nat} {j : Pc} (h : w.heap[B]? = some (.cells #[.int .i64 j.job, .int .i64 j.mac, .int .i64 j.fr, .int .i64 j.up] 56 (0, 0))) : (w.cell? ⟨B, 0, none⟩ = some (.int .i64 j.job) ∧ w.cell? ⟨B, 1, none⟩ = some (.int .i64 j.mac) ∧ w.cell? ⟨B, 2, none⟩ = some (.int .i64 j.fr) ∧ w.cell? ⟨B, 3, none⟩ = some (.int .i64 j.up)) ∧ (w.frozen? ⟨B, 0, none⟩ = false ∧ w.frozen? ⟨B, 1, none⟩ = false ∧ w.frozen? ⟨B, 2, none⟩ = false ∧ w.frozen? ⟨B, 3, none⟩ = false) := by
  simp [World.cell?, World.frozen?, h]

set_option maxRecDepth 8000 in
set_option maxHeartbeats 4000000 in
theorem maxFuncC_any (a : Option Addr) (n cap : Nat) (K : List Pc) (w : World) (h : PieceS w a n cap K) (h0 : 0 < n) :
    Calls Try.prog 45 #[.slice a n cap, .func (.func 46) #[] #[]] w fun e w' =>
      ∃ i, i < n ∧ e = .returned (.agg #[.int .i64 (pcg K i).job, .int .i64 (pcg K i).mac, .int .i64 (pcg K i).fr, .int .i64 (pcg K i).up]) ∧ (∀ p, p < n → (pcg K p).up ≤ (pcg K i).up) ∧ Below w.heap.size w w' := by
  have hlen := h.len
  have hm := h.mx
  have hle := h.le
  unfold maxLen at hm
  obtain ⟨b, off, rfl, hbw, hat⟩ := h.at_ h0
  have hmo : Try.prog.follows .mixedOrders = true := by kernel_rfl
  have h0' : (0 : Int) < (n : Int) := by omega
  have h1' : ¬ ((n : Int) < 1) := by omega
  obtain ⟨C0, C1, C2, C3⟩ := (hat.below (box_below (w := w) (cs := #[.int .i64 0, .int .i64 0, .int .i64 0, .int .i64 0]) (T := 56)) hbw).row (i := 0) (by omega)
  simp only [Nat.zero_mul, Nat.add_zero] at C0 C1 C2 C3
  go_enter Try.func45, Try.ntmps45
  go_wp2
  clear C0 C1 C2 C3
  go_loopw [6] (fun i wr => ∃ (k j : Nat), 1 ≤ k ∧ k ≤ n ∧ i = .int .i64 k ∧ j < k ∧ wr.heap[w.heap.size]? = some (.cells #[.int .i64 0, .int .i64 0, .int .i64 0, .int .i64 0] 56 (0, 0)) ∧ wr.heap[w.heap.size + 1]? = some (.cells #[.int .i64 (pcg K j).job, .int .i64 (pcg K j).mac, .int .i64 (pcg K j).fr, .int .i64 (pcg K j).up] 56 (0, 0)) ∧ (∀ p, p < k → (pcg K p).up ≤ (pcg K j).up) ∧ Below w.heap.size w wr) (fun i _ => n - (intOf i).toNat)
  case atStart =>
    refine ⟨1, 0, by omega, by omega, rfl, by omega, ?_, ?_, fun p hp => ?_, ?_⟩
    · exact (Below.heap_alloc _ _ _ (by simp)).trans (heap_alloc_new _ _)
    · have := heap_alloc_new (w.alloc (.cells #[.int .i64 0, .int .i64 0, .int .i64 0, .int .i64 0] 56)) (.cells #[.int .i64 (pcg K 0).job, .int .i64 (pcg K 0).mac, .int .i64 (pcg K 0).fr, .int .i64 (pcg K 0).up] 56)
      rwa [show (w.alloc (.cells #[.int .i64 0, .int .i64 0, .int .i64 0, .int .i64 0] 56)).heap.size = w.heap.size + 1 by simp] at this
    · obtain rfl : p = 0 := by omega
      exact Int.le_refl _
    · exact ((Below.refl _ _).alloc (Nat.le_refl _) _).alloc (by simp) _
  case round =>
    obtain ⟨k, j, k1, kn, rfl, hjk, bR, bM, hmax, hw⟩ := hrel
    have lM := lt_of_block bM
    have lR := lt_of_block bR
    by_cases hlt : k < n
    · have hlt' : (k : Int) < (n : Int) := by omega
      have hwz := hw.size
      have hbi : b < wr.heap.size := by omega
      have Hk := (hat.below hw hbw).row (i := k) (by omega)
      have Hm := (blk4 bM).1
      have P0 := fun nn os => cell_grown (w := wr) (by exact hbi) Hk.1 nn os
      have P1 := fun nn os => cell_grown (w := wr) (by exact hbi) Hk.2.1 nn os
      have P2 := fun nn os => cell_grown (w := wr) (by exact hbi) Hk.2.2.1 nn os
      have P3 := fun nn os => cell_grown (w := wr) (by exact hbi) Hk.2.2.2 nn os
      have Q0 := fun nn os => cell_grown (w := wr) (by exact lM) Hm.1 nn os
      have Q1 := fun nn os => cell_grown (w := wr) (by exact lM) Hm.2.1 nn os
      have Q2 := fun nn os => cell_grown (w := wr) (by exact lM) Hm.2.2.1 nn os
      have Q3 := fun nn os => cell_grown (w := wr) (by exact lM) Hm.2.2.2 nn os
      have CA : ∀ nn os, Calls Try.prog 46 #[.agg #[.int .i64 (pcg K k).job, .int .i64 (pcg K k).mac, .int .i64 (pcg K k).fr, .int .i64 (pcg K k).up], .agg #[.int .i64 (pcg K j).job, .int .i64 (pcg K j).mac, .int .i64 (pcg K j).fr, .int .i64 (pcg K j).up]] (grow (wr.drewN nn) os) fun e w' => e = .returned (.int .i64 (kUp (pcg K k) (pcg K j))) ∧ ∃ q os', w' = grow ((grow (wr.drewN nn) os).drewN q) os' :=
        fun nn os => byPieceTo_any _ _ _
      clear Hk Hm
      have FZ := fun (c : Nat) nn os => ((below_grow wr nn os).frozen (p := ⟨w.heap.size + 1, c, none⟩) lM).trans (free_of_blk c bM)
      have F0 := FZ 0
      have F1 := FZ 1
      have F2 := FZ 2
      have F3 := FZ 3
      clear FZ
      have hpos := kUp_pos (pcg K k) (pcg K j)
      have BG := fun nn os => below_grow wr nn os
      generalize kUp (pcg K k) (pcg K j) = cv at CA hpos
      by_cases hc : 0 < cv
      · have hlk := hpos.1 hc
        have HM : Hid (∀ p, p < k + 1 → (pcg K p).up ≤ (pcg K k).up) := fun p hp => by
          by_cases e : p = k
          · subst e; exact Int.le_refl _
          · have := hmax p (by omega); omega
        clear hpos hmax hlk
        go_wp2
        go_quiet_grown ((go_at_call 46; exact Calls.grown_of (CA _ _)))
        have B3 := BG nq osq
        have bM3 := (B3.block _ lM).trans bM
        have bR3 := (B3.block _ lR).trans bR
        have hw3 := hw.then B3 hw.size
        go_wp2
        go_roundw
        case rel => exact ⟨k + 1, k, by omega, by omega, by go_num, by omega, (box4_other _ _ _ (by omega)).trans bR3, box4_set bM3, HM.out, box4_below hw3 (by omega) _⟩
        case measure => simp [intOf]; omega
      · have HM : Hid (∀ p, p < k + 1 → (pcg K p).up ≤ (pcg K j).up) := fun p hp => by
          by_cases e : p = k
          · subst e
            have : ¬ (pcg K j).up < (pcg K p).up := fun h1 => hc (hpos.2 h1)
            omega
          · exact hmax p (by omega)
        clear hpos hmax
        go_wp2
        go_quiet_grown ((go_at_call 46; exact Calls.grown_of (CA _ _)))
        have B3 := BG nq osq
        go_wp2
        go_roundw
        case rel => exact ⟨k + 1, j, by omega, by omega, by go_num, by omega, (B3.block _ lR).trans bR, (B3.block _ lM).trans bM, HM.out, hw.then B3 hw.size⟩
        case measure => simp [intOf]; omega
    · have e : k = n := by omega
      subst e
      have hlt' : ¬ ((k : Int) < (k : Int)) := by omega
      obtain ⟨Q0, Q1, Q2, Q3⟩ := (blk4 bM).1
      obtain ⟨⟨R0, R1, R2, R3⟩, RF⟩ := blk4 (j := pc0) bR
      have F0 := free_of_blk 0 bR
      have F1 := free_of_blk 1 bR
      have F2 := free_of_blk 2 bR
      have F3 := free_of_blk 3 bR
      have bF := box4_set (i := pc0) (j := pcg K j) bR
      have wF := box4_below hw (Nat.le_refl _) (pcg K j)
      have HF : Hid (∀ p, p < k → (pcg K p).up ≤ (pcg K j).up) := hmax
      clear RF hmax
      go_wp2
      generalize (((wr.setCell ⟨w.heap.size, 0, none⟩ (.int .i64 (pcg K j).job)).setCell ⟨w.heap.size, 1, none⟩ (.int .i64 (pcg K j).mac)).setCell ⟨w.heap.size, 2, none⟩ (.int .i64 (pcg K j).fr)).setCell ⟨w.heap.size, 3, none⟩ (.int .i64 (pcg K j).up) = WF at bF wF ⊢
      obtain ⟨G0, G1, G2, G3⟩ := (blk4 bF).1
      exact bodyPost_ret (v := .agg #[.int .i64 (pcg K j).job, .int .i64 (pcg K j).mac, .int .i64 (pcg K j).fr, .int .i64 (pcg K j).up]) (by simp [results, Try.results45, go_sem, G0, G1, G2, G3]) rfl ⟨j, hjk, rfl, HF.out, wF⟩

theorem finV_is {ps : List Pc} {i : Nat} (hi : i < ps.length) (h : ∀ p, p < ps.length → (pcg ps p).up ≤ (pcg ps i).up) (h0 : ∀ p ∈ ps, 0 ≤ p.up) : finV ps = (pcg ps i).up := by
  have hm : pcg ps i ∈ ps := by rw [pcg_get hi]; exact List.getElem_mem hi
  have h1 := finV_ge hm
  have h2 := finV_le (t := (pcg ps i).up) (h0 _ hm) ps fun p hp => by
    obtain ⟨q, hq, rfl⟩ := List.getElem_of_mem hp
    rw [← pcg_get hq]; exact h q hq
  omega

set_option maxRecDepth 8000 in
/-- Finish, where none ends below 0 (else the program tells the greatest all the same) -/
theorem implFinish_any (a : Option Addr) (n cap : Nat) (ps : List Pc) (w : World) (h : PieceS w a n cap ps) (hu : ∀ p ∈ ps, 0 ≤ p.up) :
    Calls Try.prog 17 #[.slice a n cap] w fun e w' => e = .returned (.int .i64 (finV ps)) ∧ Below w.heap.size w w' := by
  have hlen := h.len
  have hmx := h.mx
  have hle := h.le
  unfold maxLen at hmx
  by_cases h0 : n = 0
  · subst h0
    obtain rfl : ps = [] := List.length_eq_zero_iff.1 hlen
    go_enter Try.func17, Try.ntmps17
    go_wp2
    go_ret
    exact ⟨rfl, Below.refl _ _⟩
  · have hz : ((n : Int) == 0) = false := by simpa using h0
    have hpos : 0 < n := by omega
    clear h0
    have hfld : ∀ (x0 x1 x2 x3 : Int) (W : World), (Instr.field 56 (.agg #[.int .i64 x0, .int .i64 x1, .int .i64 x2, .int .i64 x3]) 3).run Try.prog W = .ok (.int .i64 x3) W := fun _ _ _ _ _ => by kernel_rfl
    have HF : Hid (∀ i, i < n → (∀ p, p < n → (pcg ps p).up ≤ (pcg ps i).up) → finV ps = (pcg ps i).up) := fun i hi hp => finV_is (by omega) (fun p q => hp p (by omega)) hu
    go_enter Try.func17, Try.ntmps17
    go_wp2_with (go_at_call 45; refine (maxFuncC_any a n cap ps _ h hpos).mono ?_; rintro e w' ⟨i, hi, rfl, hp, hb⟩)
    go_ret
    exact ⟨by rw [HF.out i hi hp]; rfl, hb⟩

set_option maxRecDepth 8000 in
theorem implParts_any (a : Option Addr) (n cap : Nat) (ps : List Pc) (id : Int) (w : World) (h : PieceS w a n cap ps) :
    Calls Try.prog 19 #[.slice a n cap, .int .i64 id] w fun e w' => e = .returned (.int .i64 (partsOf id ps)) ∧ Below w.heap.size w w' := by
  have hm := h.mx
  have hle := h.le
  have hlen := h.len
  unfold maxLen at hm
  go_enter Try.func19, Try.ntmps19
  go_wp2
  go_loopw [5, 7, 10] (fun s _ i wr => ∃ k : Nat, k ≤ n ∧ i = .int .i64 k ∧ s = .int .i64 (partsOf id (ps.take k)) ∧ Below w.heap.size w wr) (fun _ _ i _ => n - (intOf i).toNat)
  case atStart => exact ⟨0, by omega, rfl, by simp [partsOf], Below.refl _ _⟩
  case round =>
    obtain ⟨k, hk, rfl, rfl, hw⟩ := hrel
    rename World => wr
    have bd := partsOf_bd id (ps.take k)
    have hl : (ps.take k).length = k := by rw [List.length_take]; omega
    by_cases hlt : k < n
    · obtain ⟨b, off, rfl, hbw, hat⟩ := h.at_ (by omega)
      obtain ⟨hc0, hc1, hc2, hc3⟩ := (hat.below hw hbw).row (i := k) (by omega)
      have hlt' : (k : Int) < (n : Int) := by omega
      have ST := partsOf_step (ps := ps) (k := k) (id := id) (by omega)
      have HB : Hid (Below w.heap.size w (wr.alloc (.cells #[.int .i64 (pcg ps k).job, .int .i64 (pcg ps k).mac, .int .i64 (pcg ps k).fr, .int .i64 (pcg ps k).up] 56))) := hw.then box_below hw.size
      by_cases e : (pcg ps k).job = id
      · have e' : ((pcg ps k).job == id) = true := by simpa using e
        rw [if_pos e] at ST
        have HS : Hid _ := ST
        have b1 : partsOf id (List.take k ps) ≤ k := by omega
        clear ST e hl
        go_wp2
        go_roundw
        case rel => exact ⟨k + 1, by omega, by go_num, by rw [HS.out], HB.out⟩
        case measure => simp [intOf]; omega
      · have e' : ((pcg ps k).job == id) = false := by simpa using e
        rw [if_neg e, Int.add_zero] at ST
        have HS : Hid _ := ST
        clear ST e hl
        go_wp2
        go_roundw
        case rel => exact ⟨k + 1, by omega, by go_num, by rw [HS.out], HB.out⟩
        case measure => simp [intOf]; omega
    · obtain rfl : k = n := by omega
      have HE : Hid (ps.take k = ps) := List.take_of_length_le (by omega)
      clear hl
      go_wp2
      go_ret
      exact ⟨by rw [HE.out]; rfl, hw⟩

end Go.Proofs.Ytnndkdonbjeejaa
