/- The program's ReadCommand. -/
import Derived.Test.YtppnnnijdfbgpaaDoorCmdI1
import Derived.Test.YtppnnnijdfbgpaaDoorShpI3
import Derived.Test.YtppnnnijdfbgpaaDoorShpI5
namespace Go.Proofs.YtppnnnijdfbgpaaDoor
open Go.RowKit

theorem Blk4.below {w w' : World} {B : Nat} {v : Array Value} {T : TypeId} (h : w.heap[B]? = some (.cells v T (0, 0))) (hb : Below w.heap.size w w') : w'.heap[B]? = some (.cells v T (0, 0)) := (hb.block B (lt_of_block h)).trans h

theorem shAll {k : Nat} (hk : k < 8) : shL[7 * k]? = some (.string ⟨(kW (k : Int)).toArray⟩) ∧ shL[7 * k + 1]? = some (.int .i64 (loK k 0)) ∧ shL[7 * k + 2]? = some (.int .i64 (hiK k 0)) ∧ shL[7 * k + 3]? = some (.int .i64 (loK k 1)) ∧ shL[7 * k + 4]? = some (.int .i64 (hiK k 1)) ∧ shL[7 * k + 5]? = some (.int .i64 (loK k 2)) ∧ shL[7 * k + 6]? = some (.int .i64 (hiK k 2)) := by
  obtain rfl | rfl | rfl | rfl | rfl | rfl | rfl | rfl : k = 0 ∨ k = 1 ∨ k = 2 ∨ k = 3 ∨ k = 4 ∨ k = 5 ∨ k = 6 ∨ k = 7 := by omega
  all_goals exact ⟨rfl, rfl, rfl, rfl, rfl, rfl, rfl⟩
/-- row k of the table, cell by cell -/
def ShRow (W : World) (k : Nat) (wb : ByteArray) (x0 y0 x1 y1 x2 y2 : Int) : Prop :=
  W.cell? ⟨0, 7 * k, none⟩ = some (.string wb) ∧ W.cell? ⟨0, 7 * k + 1, none⟩ = some (.int .i64 x0) ∧ W.cell? ⟨0, 7 * k + 2, none⟩ = some (.int .i64 y0) ∧ W.cell? ⟨0, 7 * k + 3, none⟩ = some (.int .i64 x1) ∧ W.cell? ⟨0, 7 * k + 4, none⟩ = some (.int .i64 y1) ∧ W.cell? ⟨0, 7 * k + 5, none⟩ = some (.int .i64 x2) ∧ W.cell? ⟨0, 7 * k + 6, none⟩ = some (.int .i64 y2)
theorem ShIs.row {W : World} (h : ShIs W) {k : Nat} (hk : k < 8) : ShRow W k ⟨(kW (k : Int)).toArray⟩ (loK k 0) (hiK k 0) (loK k 1) (hiK k 1) (loK k 2) (hiK k 2) := by
  obtain ⟨e0, e1, e2, e3, e4, e5, e6⟩ := shAll hk
  exact ⟨(h.cell _).trans e0, (h.cell _).trans e1, (h.cell _).trans e2, (h.cell _).trans e3, (h.cell _).trans e4, (h.cell _).trans e5, (h.cell _).trans e6⟩

set_option maxRecDepth 8000 in
set_option maxHeartbeats 4000000 in
theorem implReadCommand_any (l : List UInt8) (hl : l.length ≤ 2000000) (w : World) (hs : ShIs w) :
    Calls Tryd.prog 11 #[.string ⟨l.toArray⟩] w fun e w' => ∃ (k a b c : Int) (is : Bool), e = .returned (.tuple #[.agg #[.int .i64 k, .int .i64 a, .int .i64 b, .int .i64 c], .bool is]) ∧ IsRd l k a b c is ∧ Below w.heap.size w w' := by
  have CS := fun W => scanned_any l hl W
  have HS : Hid (∀ W, Below w.heap.size w W → ShIs W) := fun W hW => hs.keep hW hs.pos
  clear hs hl
  generalize (⟨l.toArray⟩ : ByteArray) = bs at CS ⊢
  obtain ⟨W0, hW0⟩ : ∃ W0, W0 = w.alloc (.cells #[.int .i64 0, .int .i64 0, .int .i64 0, .int .i64 0] 25) := ⟨_, rfl⟩
  have B0 : Below w.heap.size w W0 := by rw [hW0]; exact box_below
  have X0 : W0.heap[w.heap.size]? = some (.cells #[.int .i64 0, .int .i64 0, .int .i64 0, .int .i64 0] 25 (0, 0)) := by rw [hW0]; exact heap_alloc_new _ _
  go_enter Tryd.func11, Tryd.ntmps11
  go_upto_region 1 with fail
  rw [← hW0]
  clear hW0
  go_upto_region 2 with (go_at_call 26; refine (CS _).mono ?_; rintro e w1 ⟨wd, ns, v, rfl, O1, D1, hb1⟩)
  clear CS
  have B1 := B0.then hb1 B0.size
  have X1 := Blk4.below X0 hb1
  have HD : Hid (ScD l wd ns) := D1
  have HO : Hid (∀ W, Below w1.heap.size w1 W → W.ownsRow W0.heap.size 2 1 v ns.length (ns.map (Value.int .i64))) := fun W hW => ownI_below O1 hW
  obtain ⟨pa, cap, rfl⟩ := own_sliceC O1
  have CK := fun W h => kindOf_any wd W h
  clear O1 D1 X0 hb1
  generalize (⟨wd.toArray⟩ : ByteArray) = wb at CK ⊢
  go_wp2_with (go_at_call 28; refine (CK _ (HS.out _ B1)).mono ?_; rintro e w2 ⟨kd, rfl, K2, hb2⟩; have H2 : Hid (Below w1.heap.size w1 w2) := hb2; clear hb2)
  refine (commandOf_any kd _ _ ns w2 (HO.out w2 H2.out)).mono ?_
  rintro e w3 ⟨rfl, hb3⟩
  have HK : Hid (IsKd wd kd) := K2
  have R1 : Hid (cmB (kd : Int) (zg ns 0) (zg ns 1) (zg ns 2) = true → ns.length = tdK kd → IsRd l kd (zg ns 0) (zg ns 1) (zg ns 2) true) := fun h h' => rd_yes HD.out HK.out h h'
  have R2 : Hid ((cmB (kd : Int) (zg ns 0) (zg ns 1) (zg ns 2) = true → ns.length ≠ tdK kd) → IsRd l 0 0 0 0 false) := fun h => rd_no HD.out HK.out h
  have hk8 := K2.1
  have hnl : ns.length ≤ maxLen := by
    have := (HO.out w1 (Below.refl _ _)).2
    rcases this with ⟨_, e⟩ | ⟨g, cap', cur, e, _, _, h1, h2, _⟩
    · rw [e]; exact Nat.zero_le _
    · exact Nat.le_trans h1 h2
  unfold maxLen at hnl
  clear K2 HO HK HD CK
  generalize ns.length = n at R1 R2 hnl ⊢
  generalize zg ns 0 = x at R1 R2 ⊢
  generalize zg ns 1 = y at R1 R2 ⊢
  generalize zg ns 2 = z at R1 R2 ⊢
  have B3 := (B1.then H2.out B1.size).then hb3 (B1.then H2.out B1.size).size
  have X3 := Blk4.below (Blk4.below X1 H2.out) hb3
  clear X1 H2 hb3 B1
  obtain ⟨W4, hW4⟩ : ∃ W4, W4 = w3.alloc (.cells #[.int .i64 kd, .int .i64 x, .int .i64 y, .int .i64 z] 25) := ⟨_, rfl⟩
  have B4 : Below w.heap.size w W4 := by rw [hW4]; exact B3.alloc B3.size _
  have Y4 : W4.heap[w3.heap.size]? = some (.cells #[.int .i64 kd, .int .i64 x, .int .i64 y, .int .i64 z] 25 (0, 0)) := by rw [hW4]; exact heap_alloc_new _ _
  have X4 : W4.heap[w.heap.size]? = some (.cells #[.int .i64 0, .int .i64 0, .int .i64 0, .int .i64 0] 25 (0, 0)) := by rw [hW4]; exact (Below.heap_alloc _ _ _ (lt_of_block X3)).trans X3
  go_upto_region 3 with fail
  rw [← hW4]
  clear hW4 X3 B3
  have HY : Hid (∀ W, Below W4.heap.size W4 W → W.cell? ⟨w3.heap.size, 0, none⟩ = some (.int .i64 kd) ∧ W.cell? ⟨w3.heap.size, 1, none⟩ = some (.int .i64 x) ∧ W.cell? ⟨w3.heap.size, 2, none⟩ = some (.int .i64 y) ∧ W.cell? ⟨w3.heap.size, 3, none⟩ = some (.int .i64 z)) := fun W hW => (boxed4 (Blk4.below Y4 hW)).1
  have HX4 : Hid (∀ W, Below W4.heap.size W4 W → W.heap[w.heap.size]? = some (.cells #[.int .i64 0, .int .i64 0, .int .i64 0, .int .i64 0] 25 (0, 0))) := fun W hW => Blk4.below X4 hW
  obtain ⟨c0, c1, c2, c3⟩ := HY.out W4 (Below.refl _ _)
  clear X4 Y4
  generalize w3.heap.size = N at c0 c1 c2 c3 HY ⊢
  have CO := fun W h => implCommandOk_any kd x y z W h
  have HS4 : Hid (ShIs W4) := HS.out _ B4
  rcases hr : cmB (kd : Int) x y z with _ | _
  · have HR : Hid (IsRd l 0 0 0 0 false) := R2.out (fun h => by rw [hr] at h; cases h)
    rw [hr] at CO
    go_wp2_with (go_at_call 14; refine (CO _ HS4.out).mono ?_; rintro e w5 ⟨rfl, hb5⟩; have x5 := HX4.out _ hb5; have HE5 : Hid _ := setAll4 x5 (.int .i64 0) (.int .i64 0) (.int .i64 0) (.int .i64 0); obtain ⟨⟨r0, r1, r2, r3⟩, f0, f1, f2, f3⟩ := boxed4 x5; have HB5 : Hid (Below w.heap.size w w5) := B4.then hb5 B4.size; clear x5 hb5)
    refine bodyPost_ret (results_cmd rfl _ _ w.heap.size _ _ _ _ rfl HE5.out Tryd.underlying25 rfl sizedCmd _ rfl) rfl ?_
    exact ⟨0, 0, 0, 0, false, rfl, HR.out, below4 HB5.out (Nat.le_refl _) _ _ _ _⟩
  · rw [hr] at CO
    have hkd := kind_of hr
    have hk1 : 1 ≤ kd := by omega
    have hk7 : kd ≤ 7 := by omega
    have CT : ∀ W, Calls Tryd.prog 20 #[.agg #[.string ⟨(kW (kd : Int)).toArray⟩, .int .i64 (loK kd 0), .int .i64 (hiK kd 0), .int .i64 (loK kd 1), .int .i64 (hiK kd 1), .int .i64 (loK kd 2), .int .i64 (hiK kd 2)]] W fun e w' => e = .returned (.int .i64 (tdK kd : Nat)) ∧ Below W.heap.size W w' := fun W => by
      have := told_any kd hk8 W
      rwa [shV_is hk8] at this
    have HR7 : Hid (∀ W, Below W4.heap.size W4 W → ShRow W kd ⟨(kW (kd : Int)).toArray⟩ (loK kd 0) (hiK kd 0) (loK kd 1) (hiK kd 1) (loK kd 2) (hiK kd 2)) := fun W hW => (HS4.out.keep hW HS4.out.pos).row hk8
    have R3 : Hid (n = tdK kd → IsRd l kd x y z true) := fun h => R1.out hr h
    have R4 : Hid (n ≠ tdK kd → IsRd l 0 0 0 0 false) := fun h => R2.out (fun _ => h)
    clear R1 R2 hr hkd hk8
    generalize (⟨(kW (kd : Int)).toArray⟩ : ByteArray) = wb at CT HR7
    generalize loK kd 0 = x0 at CT HR7
    generalize hiK kd 0 = y0 at CT HR7
    generalize loK kd 1 = x1 at CT HR7
    generalize hiK kd 1 = y1 at CT HR7
    generalize loK kd 2 = x2 at CT HR7
    generalize hiK kd 2 = y2 at CT HR7
    generalize tdK kd = m at CT R3 R4
    by_cases ht : n = m
    · have HT := R3.out ht
      subst ht
      have HD : Hid (IsRd l kd x y z true) := HT
      clear R3 R4 HT
      obtain rfl | rfl | rfl | rfl | rfl | rfl | rfl : kd = 1 ∨ kd = 2 ∨ kd = 3 ∨ kd = 4 ∨ kd = 5 ∨ kd = 6 ∨ kd = 7 := by omega
      all_goals
        go_wp2_with (first | (go_at_call 14; refine (CO _ HS4.out).mono ?_; rintro e w5 ⟨rfl, hb5⟩; obtain ⟨t0, t1, t2, t3, t4, t5, t6⟩ := HR7.out _ hb5; obtain ⟨c0, c1, c2, c3⟩ := HY.out _ hb5; simp only [Nat.reduceMul, Nat.reduceAdd] at t0 t1 t2 t3 t4 t5 t6; have H5 : Hid (Below W4.heap.size W4 w5) := hb5; clear hb5) | (go_at_call 20; refine (CT _).mono ?_; rintro e w6 ⟨rfl, hb6⟩; have h6 := H5.out.then hb6 H5.out.size; obtain ⟨c0, c1, c2, c3⟩ := HY.out _ h6; have x6 := HX4.out _ h6; have HE6 : Hid (∀ v : Value, ((((w6.setCell ⟨w.heap.size, 0, none⟩ v).setCell ⟨w.heap.size, 1, none⟩ (.int .i64 x)).setCell ⟨w.heap.size, 2, none⟩ (.int .i64 y)).setCell ⟨w.heap.size, 3, none⟩ (.int .i64 z)).heap[w.heap.size]? = some (.cells #[v, .int .i64 x, .int .i64 y, .int .i64 z] 25 (0, 0))) := fun v => setAll4 x6 v (.int .i64 x) (.int .i64 y) (.int .i64 z); obtain ⟨⟨r0, r1, r2, r3⟩, f0, f1, f2, f3⟩ := boxed4 x6; have HB6 : Hid (Below w.heap.size w w6) := B4.then h6 B4.size; clear x6 h6 hb6 t0 t1 t2 t3 t4 t5 t6))
        refine bodyPost_ret (results_cmd rfl _ _ w.heap.size _ _ _ _ rfl (HE6.out _) Tryd.underlying25 rfl sizedCmd _ rfl) rfl ?_
        exact ⟨_, _, _, _, true, rfl, HD.out, below4 HB6.out (Nat.le_refl _) _ _ _ _⟩
    · have hne : ((n : Int) == (m : Int)) = false := by simp; omega
      have HD : Hid (IsRd l 0 0 0 0 false) := R4.out ht
      clear R3 R4
      obtain rfl | rfl | rfl | rfl | rfl | rfl | rfl : kd = 1 ∨ kd = 2 ∨ kd = 3 ∨ kd = 4 ∨ kd = 5 ∨ kd = 6 ∨ kd = 7 := by omega
      all_goals
        go_wp2_with (first | (go_at_call 14; refine (CO _ HS4.out).mono ?_; rintro e w5 ⟨rfl, hb5⟩; obtain ⟨t0, t1, t2, t3, t4, t5, t6⟩ := HR7.out _ hb5; obtain ⟨c0, c1, c2, c3⟩ := HY.out _ hb5; simp only [Nat.reduceMul, Nat.reduceAdd] at t0 t1 t2 t3 t4 t5 t6; have H5 : Hid (Below W4.heap.size W4 w5) := hb5; clear hb5) | (go_at_call 20; refine (CT _).mono ?_; rintro e w6 ⟨rfl, hb6⟩; have h6 := H5.out.then hb6 H5.out.size; obtain ⟨c0, c1, c2, c3⟩ := HY.out _ h6; have x6 := HX4.out _ h6; have HE6 : Hid _ := setAll4 x6 (.int .i64 0) (.int .i64 0) (.int .i64 0) (.int .i64 0); obtain ⟨⟨r0, r1, r2, r3⟩, f0, f1, f2, f3⟩ := boxed4 x6; have HB6 : Hid (Below w.heap.size w w6) := B4.then h6 B4.size; clear x6 h6 hb6 t0 t1 t2 t3 t4 t5 t6))
        refine bodyPost_ret (results_cmd rfl _ _ w.heap.size _ _ _ _ rfl HE6.out Tryd.underlying25 rfl sizedCmd _ rfl) rfl ?_
        exact ⟨_, _, _, _, false, rfl, HD.out, below4 HB6.out (Nat.le_refl _) _ _ _ _⟩

end Go.Proofs.YtppnnnijdfbgpaaDoor
