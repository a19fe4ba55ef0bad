/- The model's ShowCommand: the kind's word, its numbers. -/
import Derived.Test.YtppnnnijdfbgpaaDoorCmdM
import Derived.Test.YtppnnnijdfbgpaaDoorDigits
import Derived.Deep.Cut
import Derived.Deep.CutRange
namespace Go.Proofs.YtppnnnijdfbgpaaDoor
open Go.RowKit

theorem text_app (l r : List UInt8) : (⟨l.toArray⟩ ++ ⟨r.toArray⟩ : ByteArray) = ⟨(l ++ r).toArray⟩ := by apply ByteArray.ext; simp

theorem l12Word_any (k : Int) (w : World) (hk : k = 1 ∨ k = 2 ∨ k = 3 ∨ k = 4 ∨ k = 5 ∨ k = 6 ∨ k = 7) :
    Calls Tryd.prog 39 #[.int .i64 k] w fun e w' => e = .returned (.string ⟨(kW k).toArray⟩) ∧ Below w.heap.size w w' := by
  rcases hk with rfl | rfl | rfl | rfl | rfl | rfl | rfl
  all_goals
    go_enter Tryd.func39, Tryd.ntmps39
    go_wp2
    go_ret
    exact ⟨rfl, box_below⟩

/-- how many numbers a kind tells -/
def kC (k : Int) : Nat := if k = 1 then 3 else if k = 7 then 2 else 1
theorem kN_len (k a b c : Int) : (kN k a b c).length = kC k := by
  unfold kN kC
  split
  · rfl
  split <;> rfl
theorem l12Count_any (k : Int) (w : World) (hk : k = 1 ∨ k = 2 ∨ k = 3 ∨ k = 4 ∨ k = 5 ∨ k = 6 ∨ k = 7) :
    Calls Tryd.prog 40 #[.int .i64 k] w fun e w' => e = .returned (.int .i64 (kC k : Nat)) ∧ Below w.heap.size w w' := by
  rcases hk with rfl | rfl | rfl | rfl | rfl | rfl | rfl
  all_goals
    go_enter Tryd.func40, Tryd.ntmps40
    go_wp2
    go_ret
    exact ⟨rfl, box_below⟩

/-- number i of three -/
def n3 (a b c : Int) : Nat → Int
  | 0 => a
  | 1 => b
  | _ => c
/-- a kind's word and its first i numbers -/
def cmTo (k a b c : Int) (i : Nat) : List UInt8 := kW k ++ tailB ((kN k a b c).take i)
theorem tailB_app : ∀ (l : List Int) (x : Int), tailB (l ++ [x]) = tailB l ++ (32 :: Lib.decDigits x.toNat)
  | [], x => by show (32 :: (Lib.decDigits x.toNat ++ [])) = _; rw [List.append_nil]; rfl
  | y :: t, x => by show (32 :: (Lib.decDigits y.toNat ++ tailB (t ++ [x]))) = _; rw [tailB_app t x]; show _ = (32 :: (Lib.decDigits y.toNat ++ tailB t)) ++ _; rw [List.cons_append, List.append_assoc]
theorem kN_at {k a b c : Int} {i : Nat} (hi : i < kC k) : (kN k a b c)[i]? = some (n3 a b c i) := by
  unfold kC at hi
  unfold kN
  split at hi
  · rw [if_pos (by assumption)]
    obtain rfl | rfl | rfl : i = 0 ∨ i = 1 ∨ i = 2 := by omega
    all_goals rfl
  · rw [if_neg (by assumption)]
    split at hi
    · rw [if_pos (by assumption)]
      obtain rfl | rfl : i = 0 ∨ i = 1 := by omega
      all_goals rfl
    · rw [if_neg (by assumption)]
      obtain rfl : i = 0 := by omega
      rfl
theorem cmTo_s {k a b c : Int} {i : Nat} (hi : i < kC k) : cmTo k a b c (i + 1) = (cmTo k a b c i ++ [32]) ++ Lib.decDigits (n3 a b c i).toNat := by
  unfold cmTo
  have hl : i < (kN k a b c).length := by rw [kN_len]; exact hi
  have e := kN_at (a := a) (b := b) (c := c) hi
  rw [List.getElem?_eq_getElem hl] at e
  rw [List.take_succ_eq_append_getElem hl, Option.some.inj e, tailB_app]
  simp
theorem cmTo_all (k a b c : Int) : cmTo k a b c (kC k) = cmSh k a b c := by
  unfold cmTo cmSh
  rw [← kN_len k a b c, List.take_length]
theorem kC_le (k : Int) : kC k ≤ 3 := by unfold kC; split; · omega
                                         split <;> omega
theorem kW_len (k : Int) : (kW k).length ≤ 6 := by
  unfold kW
  repeat (split; · decide)
  decide
theorem n3_bd {k a b c : Int} (h : cmB k a b c = true) (i : Nat) : 0 ≤ n3 a b c i ∧ n3 a b c i ≤ 1000000000 := by
  obtain ⟨a1, b1, c1, _⟩ := cmB_num h
  match i with
  | 0 => exact a1
  | 1 => show 0 ≤ b ∧ b ≤ 1000000000; omega
  | i + 2 => show 0 ≤ c ∧ c ≤ 1000000000; omega
theorem cmTo_len {k a b c : Int} (h : cmB k a b c = true) : ∀ i, i ≤ kC k → (cmTo k a b c i).length ≤ 6 + 11 * i
  | 0, _ => by unfold cmTo; rw [List.take_zero]; show (kW k ++ []).length ≤ 6; rw [List.append_nil]; exact kW_len k
  | i + 1, hi => by
    have ih := cmTo_len h i (by omega)
    have hb := n3_bd h i
    have := decDigits_len 9 (n3 a b c i).toNat (by omega)
    rw [cmTo_s (by omega), List.length_append, List.length_append]
    simp only [List.length_cons, List.length_nil]
    omega

set_option maxHeartbeats 1000000 in
theorem l12Show_any (k a b c : Int) (w : World) (h : cmB k a b c = true) :
    Calls Tryd.prog 31 #[.agg #[.int .i64 k, .int .i64 a, .int .i64 b, .int .i64 c]] w fun e w' => e = .returned (.string ⟨(cmSh k a b c).toArray⟩) ∧ Below w.heap.size w w' := by
  have hk := kind_of h
  rw [← cmTo_all]
  have HW := fun W => l12Word_any k W hk
  have HC := fun W => l12Count_any k W hk
  have hH : Hid (cmB k a b c = true) := h
  have hk3 := kC_le k
  clear h hk
  generalize hcn : kC k = cn at HC hk3 ⊢
  have Hcn : Hid (kC k = cn) := hcn
  clear hcn
  obtain ⟨W0, hW0⟩ : ∃ W0, W0 = w.alloc (.cells #[.int .i64 k, .int .i64 a, .int .i64 b, .int .i64 c] 25) := ⟨_, rfl⟩
  have B0 : Below w.heap.size w W0 := by rw [hW0]; exact box_below
  have x0 : W0.heap[w.heap.size]? = some (.cells #[.int .i64 k, .int .i64 a, .int .i64 b, .int .i64 c] 25 (0, 0)) := by rw [hW0]; exact heap_alloc_new _ _
  have z0 : w.heap.size < W0.heap.size := by rw [hW0]; simp
  have c0 : W0.cell? ⟨w.heap.size, 0, none⟩ = some (.int .i64 k) := by simp [World.cell?, x0]
  go_enter Tryd.func31, Tryd.ntmps31
  go_upto_region 1 with fail
  rw [← hW0]
  clear hW0
  go_upto_region 2 with (go_at_call 39; refine (HW _).mono ?_; rintro e w1 ⟨rfl, hb1⟩)
  have x1 : w1.heap[w.heap.size]? = some (.cells #[.int .i64 k, .int .i64 a, .int .i64 b, .int .i64 c] 25 (0, 0)) := (hb1.block _ z0).trans x0
  have z1 : w.heap.size < w1.heap.size := Nat.lt_of_lt_of_le z0 hb1.size
  have B1 := B0.then hb1 B0.size
  have d0 : w1.cell? ⟨w.heap.size, 0, none⟩ = some (.int .i64 k) := by simp [World.cell?, x1]
  have d1 : w1.cell? ⟨w.heap.size, 1, none⟩ = some (.int .i64 a) := by simp [World.cell?, x1]
  have d2 : w1.cell? ⟨w.heap.size, 2, none⟩ = some (.int .i64 b) := by simp [World.cell?, x1]
  have d3 : w1.cell? ⟨w.heap.size, 3, none⟩ = some (.int .i64 c) := by simp [World.cell?, x1]
  obtain ⟨W2, hW2⟩ : ∃ W2, W2 = w1.alloc (.cells #[.int .i64 a, .int .i64 b, .int .i64 c] 2) := ⟨_, rfl⟩
  have B2 : Below w.heap.size w W2 := by rw [hW2]; exact B1.then box_below B1.size
  have y2 : W2.heap[w1.heap.size]? = some (.cells #[.int .i64 a, .int .i64 b, .int .i64 c] 2 (0, 0)) := by rw [hW2]; exact heap_alloc_new _ _
  have x2 : W2.heap[w.heap.size]? = some (.cells #[.int .i64 k, .int .i64 a, .int .i64 b, .int .i64 c] 25 (0, 0)) := by rw [hW2]; exact ((box_below (w := w1)).block _ z1).trans x1
  have l2 : w.heap.size < W2.heap.size := by rw [hW2]; simp; omega
  have l3 : w1.heap.size < W2.heap.size := by rw [hW2]; simp
  go_upto_region 3 with fail
  rw [← hW2]
  clear hW2 x0 x1 c0 d0 d1 d2 d3 B0 B1 hb1 HW
  have HK : Hid (∀ W, Below W2.heap.size W2 W → W.cell? ⟨w.heap.size, 0, none⟩ = some (.int .i64 k)) := fun W hW => by
    rw [hW.cell (p := ⟨w.heap.size, 0, none⟩) l2]; simp [World.cell?, x2]
  have HN : Hid (∀ W, Below W2.heap.size W2 W → ∀ i, i < 3 → W.cell? ⟨w1.heap.size, i, none⟩ = some (.int .i64 (n3 a b c i))) := fun W hW i hi => by
    rw [hW.cell (p := ⟨w1.heap.size, i, none⟩) l3]
    obtain rfl | rfl | rfl : i = 0 ∨ i = 1 ∨ i = 2 := by omega
    all_goals simp [World.cell?, y2, n3]
  clear x2 y2
  go_wp2
  go_loopw [3, 5] (fun s i wr => ∃ j : Nat, j ≤ cn ∧ i = .int .i64 j ∧ s = .string ⟨(cmTo k a b c j).toArray⟩ ∧ Below W2.heap.size W2 wr) (fun _ i _ => cn - (intOf i).toNat)
  case atStart => exact ⟨0, by omega, rfl, by unfold cmTo; rw [List.take_zero]; show _ = Value.string ⟨(kW k ++ []).toArray⟩; rw [List.append_nil], Below.refl _ _⟩
  case round =>
    obtain ⟨j, hj, rfl, rfl, hw⟩ := hrel
    rename World => wr
    have e0 := HK.out _ hw
    by_cases hlt : j < cn
    · have hb := n3_bd hH.out j
      have hl := cmTo_len hH.out j (by rw [Hcn.out]; omega)
      have HS := cmTo_s (k := k) (a := a) (b := b) (c := c) (i := j) (by rw [Hcn.out]; exact hlt)
      have HNj := fun W hW => HN.out W hW j (by omega)
      generalize cmTo k a b c j = t at hl HS ⊢
      obtain ⟨m, hm⟩ : ∃ m : Nat, n3 a b c j = m := ⟨(n3 a b c j).toNat, by omega⟩
      rw [hm] at HS HNj hb
      have Hm : Hid (n3 a b c j = m) := hm
      clear hm
      rw [Int.toNat_natCast] at HS
      have HS' : Hid (cmTo k a b c (j + 1) = t ++ [32] ++ Lib.decDigits m) := HS
      clear HS
      have hd := decDigits_len 9 m (by omega)
      have hlt' : (j : Int) < (cn : Int) := by omega
      go_wp2_with (first | (go_at_call 40; refine (HC _).mono ?_; rintro e w3 ⟨rfl, hb3⟩; have hw3 := hw.then hb3 hw.size; have e3 := HNj _ hw3) | (go_at_call 41; refine (l1Int_pos m (by omega) _).mono ?_; rintro e w4 ⟨rfl, hb4⟩))
      rw [text_app, text_app]
      exact ⟨⟨j + 1, by omega, by go_num, by rw [HS'.out], hw3.then hb4 hw3.size⟩, by simp [intOf]; omega⟩
    · obtain rfl : j = cn := by omega
      have hnn : ¬ (j : Int) < (j : Int) := by omega
      go_wp2_with (go_at_call 40; refine (HC _).mono ?_; rintro e w3 ⟨rfl, hb3⟩; have hw3 := hw.then hb3 hw.size)
      go_ret
      exact ⟨rfl, B2.then hw3 B2.size⟩

set_option maxHeartbeats 1000000 in
theorem specShowCommand_any (k a b c : Int) (w : World) :
    Calls Tryd.prog 13 #[.agg #[.int .i64 k, .int .i64 a, .int .i64 b, .int .i64 c]] w fun e w' => e = .returned (.string ⟨(if cmB k a b c = true then cmSh k a b c else []).toArray⟩) ∧ Below w.heap.size w w' := by
  have CO := fun W => specCommandOk_any k a b c W
  rcases h : cmB k a b c with _ | _
  · rw [h] at CO
    go_enter Tryd.func13, Tryd.ntmps13
    go_wp2_with (go_at_call 15; refine (CO _).mono ?_; rintro e w1 ⟨rfl, hb1⟩)
    go_ret
    exact ⟨rfl, (box_below (w := w)).then hb1 (by simp)⟩
  · rw [h] at CO
    have CS := fun W => l12Show_any k a b c W h
    rw [if_pos rfl]
    clear h
    obtain ⟨W0, hW0⟩ : ∃ W0, W0 = w.alloc (.cells #[.int .i64 k, .int .i64 a, .int .i64 b, .int .i64 c] 25) := ⟨_, rfl⟩
    have B0 : Below w.heap.size w W0 := by rw [hW0]; exact box_below
    have x0 : W0.heap[w.heap.size]? = some (.cells #[.int .i64 k, .int .i64 a, .int .i64 b, .int .i64 c] 25 (0, 0)) := by rw [hW0]; exact heap_alloc_new _ _
    have z0 : w.heap.size < W0.heap.size := by rw [hW0]; simp
    have H0 : Hid (∀ W, Below W0.heap.size W0 W → W.cell? ⟨w.heap.size, 0, none⟩ = some (.int .i64 k) ∧ W.cell? ⟨w.heap.size, 1, none⟩ = some (.int .i64 a) ∧ W.cell? ⟨w.heap.size, 2, none⟩ = some (.int .i64 b) ∧ W.cell? ⟨w.heap.size, 3, none⟩ = some (.int .i64 c)) := fun W hW => by
      have e := (hW.block _ z0).trans x0
      simp [World.cell?, e]
    obtain ⟨c0, c1, c2, c3⟩ := H0.out W0 (Below.refl _ _)
    clear x0
    go_enter Tryd.func13, Tryd.ntmps13
    go_upto_region 1 with fail
    rw [← hW0]
    clear hW0
    go_wp2_with (first | (go_at_call 15; refine (CO _).mono ?_; rintro e w1 ⟨rfl, hb1⟩; obtain ⟨d0, d1, d2, d3⟩ := H0.out _ hb1; have B1 := B0.then hb1 B0.size) | (go_at_call 31; refine (CS _).mono ?_; rintro e w2 ⟨rfl, hb2⟩; have B2 := B1.then hb2 B1.size))
    go_ret
    exact ⟨rfl, B2⟩

end Go.Proofs.YtppnnnijdfbgpaaDoor
