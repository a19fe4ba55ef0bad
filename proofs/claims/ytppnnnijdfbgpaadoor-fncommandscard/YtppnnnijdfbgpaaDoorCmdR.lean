/- The model's ReadCommand: of a text its command, none where there is none. -/
import Derived.Test.YtppnnnijdfbgpaaDoorCmdW
import Derived.Test.YtppnnnijdfbgpaaDoorCmdT
import Derived.Laws.Rows
import Derived.Laws.ResultCell
namespace Go.Proofs.YtppnnnijdfbgpaaDoor
open Go.RowKit Go.PlainAid Go.Sort

/-- the numbers q are those of words 1 to 3, 0 where there is no such word -/
def NumsOf (s : List UInt8) (q : Nat → Int) : Prop :=
  ∀ j, j < 3 → (j + 1 < (wordsB s).length → IsDg ((wordsB s)[j + 1]?.getD []) (q j)) ∧ ((wordsB s).length ≤ j + 1 → q j = 0)
theorem nums_back {k a b c : Int} {q : Nat → Int} (h : cmB k a b c = true) (hq : NumsOf (cmSh k a b c) q) : q 0 = a ∧ q 1 = b ∧ q 2 = c := by
  obtain ⟨a1, b1, c1, d1, e1⟩ := cmB_num h
  have key : ∀ (x y : Int), 0 ≤ x → x ≤ 1000000000 → IsDg (Lib.decDigits x.toNat) y → y = x := fun x y h0 h1 hd => by
    have := hd x.toNat (by omega) rfl
    omega
  unfold NumsOf at hq
  rw [cmSh_words] at hq
  unfold kN at hq
  by_cases k1 : k = 1
  · rw [if_pos k1] at hq
    refine ⟨?_, ?_, ?_⟩
    · exact key a _ a1.1 (by omega) ((hq 0 (by omega)).1 (by simp))
    · exact key b _ b1.1 (by omega) ((hq 1 (by omega)).1 (by simp))
    · exact key c _ c1.1 (by omega) ((hq 2 (by omega)).1 (by simp))
  · rw [if_neg k1] at hq
    by_cases k7 : k = 7
    · rw [if_pos k7] at hq
      refine ⟨?_, ?_, ?_⟩
      · exact key a _ a1.1 (by omega) ((hq 0 (by omega)).1 (by simp))
      · exact key b _ b1.1 (by omega) ((hq 1 (by omega)).1 (by simp))
      · rw [d1 k1]; exact (hq 2 (by omega)).2 (by simp)
    · rw [if_neg k7] at hq
      refine ⟨?_, ?_, ?_⟩
      · exact key a _ a1.1 (by omega) ((hq 0 (by omega)).1 (by simp))
      · rw [e1 k1 k7]; exact (hq 1 (by omega)).2 (by simp)
      · rw [d1 k1]; exact (hq 2 (by omega)).2 (by simp)
theorem isRd_nums {s : List UInt8} {q : Nat → Int} (hq : NumsOf s q) (h : ∀ k : Int, 1 ≤ k → k ≤ 7 → cmB k (q 0) (q 1) (q 2) = true → cmSh k (q 0) (q 1) (q 2) ≠ s) : IsRd s 0 0 0 0 false := by
  refine Or.inr ⟨rfl, rfl, rfl, rfl, rfl, fun k a b c hc e => ?_⟩
  subst e
  obtain ⟨r1, r2, r3⟩ := nums_back hc hq
  have hk := kind_of hc
  refine h k (by omega) (by omega) ?_ ?_
  · rw [r1, r2, r3]; exact hc
  · rw [r1, r2, r3]

/-- so many of the numbers are read: the words up to i -/
def NumsTo (ws : List (List UInt8)) (i : Nat) (q : Nat → Int) : Prop :=
  ∀ j, j < 3 → (j + 1 < i → IsDg (ws[j + 1]?.getD []) (q j)) ∧ (i ≤ j + 1 → q j = 0)
theorem NumsTo.step {ws : List (List UInt8)} {i : Nat} {q : Nat → Int} {x : Int} (h : NumsTo ws i q) (hx : IsDg (ws[i]?.getD []) x) : NumsTo ws (i + 1) (fun j => if j + 1 = i then x else q j) := by
  intro j hj
  by_cases e : j + 1 = i
  · refine ⟨fun _ => ?_, fun h9 => by omega⟩
    show IsDg _ (if j + 1 = i then x else q j)
    rw [if_pos e, e]; exact hx
  · refine ⟨fun h9 => ?_, fun h9 => ?_⟩
    · show IsDg _ (if j + 1 = i then x else q j)
      rw [if_neg e]; exact (h j hj).1 (by omega)
    · show (if j + 1 = i then x else q j) = 0
      rw [if_neg e]; exact (h j hj).2 (by omega)
theorem NumsTo.all {s : List UInt8} {i : Nat} {q : Nat → Int} (h : NumsTo (wordsB s) i q) (hi : i = (wordsB s).length ∨ (i = 4 ∧ 4 ≤ (wordsB s).length)) : NumsOf s q := by
  intro j hj
  refine ⟨fun h9 => (h j hj).1 (by omega), fun h9 => (h j hj).2 (by omega)⟩

theorem wordsB_pos (l : List UInt8) : 1 ≤ (wordsB l).length := by
  cases l with
  | nil => exact Nat.le_refl _
  | cons c t =>
    show 1 ≤ (if c = 32 then [] :: wordsB t else match wordsB t with | [] => [[c]] | w :: ws => (c :: w) :: ws).length
    split
    · simp
    · split <;> simp

theorem OwnStr.keep {w w' : World} {base g cap : Nat} {ws : List (List UInt8)} (h : OwnStr w base g cap ws) (hb : w'.heap[g]? = w.heap[g]?) (hs : w.heap.size ≤ w'.heap.size) : OwnStr w' base g cap ws := by
  refine ⟨⟨h.own.1, ?_⟩, h.base, Nat.lt_of_lt_of_le h.lt hs⟩
  rcases h.own.2 with ⟨e, _⟩ | ⟨g', cap', cur, e, hg, hgg, r⟩
  · cases e
  · have e2 := e
    injection e2 with e1 _ _
    injection e1 with e1
    injection e1 with e1 _ _
    subst e1
    exact .inr ⟨g, cap', cur, e, hg, hb.trans hgg, r⟩

/-- the block of three numbers -/
def Blk3 (w : World) (B : Nat) (q : Nat → Int) : Prop := w.heap[B]? = some (.cells #[.int .i64 (q 0), .int .i64 (q 1), .int .i64 (q 2)] 2 (0, 0))
theorem Blk3.below {w w' : World} {B : Nat} {q : Nat → Int} (h : Blk3 w B q) (hb : Below w.heap.size w w') : Blk3 w' B q := (hb.block B (lt_of_block h)).trans h
theorem Blk3.cells {w : World} {B : Nat} {q : Nat → Int} (h : Blk3 w B q) : w.cell? ⟨B, 0, none⟩ = some (.int .i64 (q 0)) ∧ w.cell? ⟨B, 1, none⟩ = some (.int .i64 (q 1)) ∧ w.cell? ⟨B, 2, none⟩ = some (.int .i64 (q 2)) := by
  unfold Blk3 at h
  simp [World.cell?, h]
theorem Blk3.set {w : World} {B : Nat} {q : Nat → Int} (h : Blk3 w B q) {i : Nat} (h1 : 1 ≤ i) (h3 : i ≤ 3) (x : Int) : Blk3 (w.setCell ⟨B, i - 1, none⟩ (.int .i64 x)) B (fun j => if j + 1 = i then x else q j) := by
  have := blk_set (j := i - 1) h (.int .i64 x)
  refine this.trans ?_
  obtain rfl | rfl | rfl : i = 1 ∨ i = 2 ∨ i = 3 := by omega
  all_goals rfl

theorem sizedCmd : (Tryd.prog.info? 25).map (·.size) = some 4 := by kernel_rfl
theorem results_cmd {P : Program} {fn : Func} {p u : Tmp} {ty : TypeId} (h : fn.results = #[.cell p ty, .tmp u]) (tmps : Array Value) (w : World) (g : Nat) (t : TypeId) (cs : Array Value) (fr : Nat × Nat) (d : TypeDesc)
    (hp : tmps.getD p undef = .pointer (some ⟨g, 0, none⟩)) (hg : w.heap[g]? = some (.cells cs t fr))
    (hu : P.underlying ty = some d) (hd : (match d with | .struct _ | .array _ _ => true | _ => false) = true) (hi : (P.info? ty).map (·.size) = some cs.size) (v : Value) (hv : tmps.getD u undef = v) :
    (results fn tmps).run P w = .ok (.tuple #[.agg cs, v]) w := by
  rw [results_cell_tmp h, hp, hv]
  simp [asAddr, run_loadVar_row w g t ty cs fr d hg hu hd hi]
theorem boxed4 {W : World} {k : Nat} {v0 v1 v2 v3 : Value} {ty : TypeId} (h : W.heap[k]? = some (.cells #[v0, v1, v2, v3] ty (0, 0))) :
    (W.cell? ⟨k, 0, none⟩ = some v0 ∧ W.cell? ⟨k, 1, none⟩ = some v1 ∧ W.cell? ⟨k, 2, none⟩ = some v2 ∧ W.cell? ⟨k, 3, none⟩ = some v3) ∧ W.frozen? ⟨k, 0, none⟩ = false ∧ W.frozen? ⟨k, 1, none⟩ = false ∧ W.frozen? ⟨k, 2, none⟩ = false ∧ W.frozen? ⟨k, 3, none⟩ = false :=
  ⟨⟨cell_of_blk 0 h (by simp), cell_of_blk 1 h (by simp), cell_of_blk 2 h (by simp), cell_of_blk 3 h (by simp)⟩, free_of_blk 0 h, free_of_blk 1 h, free_of_blk 2 h, free_of_blk 3 h⟩
theorem setAll4 {W : World} {k : Nat} {x0 x1 x2 x3 : Value} {ty : TypeId} (h : W.heap[k]? = some (.cells #[x0, x1, x2, x3] ty (0, 0))) (v0 v1 v2 v3 : Value) :
    ((((W.setCell ⟨k, 0, none⟩ v0).setCell ⟨k, 1, none⟩ v1).setCell ⟨k, 2, none⟩ v2).setCell ⟨k, 3, none⟩ v3).heap[k]? = some (.cells #[v0, v1, v2, v3] ty (0, 0)) :=
  blk_set (j := 3) (blk_set (j := 2) (blk_set (j := 1) (blk_set (j := 0) h v0) v1) v2) v3
theorem below4 {B k : Nat} {w W : World} (h : Below B w W) (hB : B ≤ k) (v0 v1 v2 v3 : Value) : Below B w ((((W.setCell ⟨k, 0, none⟩ v0).setCell ⟨k, 1, none⟩ v1).setCell ⟨k, 2, none⟩ v2).setCell ⟨k, 3, none⟩ v3) :=
  (((h.setCell (p := ⟨k, 0, none⟩) hB _).setCell (p := ⟨k, 1, none⟩) hB _).setCell (p := ⟨k, 2, none⟩) hB _).setCell (p := ⟨k, 3, none⟩) hB _

set_option maxRecDepth 8000 in
set_option maxHeartbeats 4000000 in
theorem specReadCommand_any (l : List UInt8) (hl : l.length ≤ 2000000) (w : World) :
    Calls Tryd.prog 12 #[.string ⟨l.toArray⟩] w fun e w' => ∃ (k a b c : Int) (is : Bool), e = .returned (.tuple #[.agg #[.int .i64 k, .int .i64 a, .int .i64 b, .int .i64 c], .bool is]) ∧ IsRd l k a b c is ∧ Below w.heap.size w w' := by
  have hwl := wordsB_len l
  have HWM : Hid (∀ i, i < (wordsB l).length → ((wordsB l)[i]?.getD []).length ≤ 2000000) := fun i hi => by
    rw [List.getElem?_eq_getElem hi]
    exact Nat.le_trans (wordsB_mem l _ (List.getElem_mem hi)) hl
  have CW := fun W => l1Words_any l hl W
  have HNA : Hid (∀ i q, NumsTo (wordsB l) i q → (i = (wordsB l).length ∨ (i = 4 ∧ 4 ≤ (wordsB l).length)) → NumsOf l q) := fun i q h hi => h.all hi
  have hw1 := wordsB_pos l
  generalize wordsB l = ws at hwl HWM CW HNA hw1
  have htl := toList_list l
  have Hbs : Hid (∀ m : List UInt8, ((⟨m.toArray⟩ : ByteArray).toList == l) = decide (m = l)) := fun m => by rw [toList_list]; by_cases e : m = l <;> simp [e]
  generalize hbs : (⟨l.toArray⟩ : ByteArray) = bs at htl CW ⊢
  clear hbs
  obtain ⟨W0, hW0⟩ : ∃ W0, W0 = w.alloc (.cells #[.int .i64 0, .int .i64 0, .int .i64 0, .int .i64 0] 25) := ⟨_, rfl⟩
  have B0 : Below w.heap.size w W0 := by rw [hW0]; exact box_below
  have x0 : W0.heap[w.heap.size]? = some (.cells #[.int .i64 0, .int .i64 0, .int .i64 0, .int .i64 0] 25 (0, 0)) := by rw [hW0]; exact heap_alloc_new _ _
  have z0 : w.heap.size < W0.heap.size := by rw [hW0]; simp
  go_enter Tryd.func12, Tryd.ntmps12
  go_upto_region 1 with fail
  rw [← hW0]
  clear hW0
  go_upto_region 2 with (go_at_call 29; refine (CW _).mono ?_; rintro e w1 ⟨g, c', rfl, O1, hb1⟩)
  have V1 := B0.then hb1 B0.size
  have x1 := (hb1.block _ z0).trans x0
  have z1 : w.heap.size < w1.heap.size := Nat.lt_of_lt_of_le z0 hb1.size
  obtain ⟨W2, hW2⟩ : ∃ W2, W2 = w1.alloc (.cells #[.int .i64 0, .int .i64 0, .int .i64 0] 2) := ⟨_, rfl⟩
  have V2 : Below w.heap.size w W2 := by rw [hW2]; exact V1.then box_below V1.size
  have N2 : Blk3 W2 w1.heap.size (fun _ => 0) := by rw [hW2]; exact heap_alloc_new _ _
  have O2 : OwnStr W2 W0.heap.size g c' ws := by rw [hW2]; exact O1.below box_below
  have x2 : W2.heap[w.heap.size]? = some (.cells #[.int .i64 0, .int .i64 0, .int .i64 0, .int .i64 0] 25 (0, 0)) := by rw [hW2]; exact ((box_below (w := w1)).block _ z1).trans x1
  have gN : g < w1.heap.size := O1.lt
  go_upto_region 3 with fail
  rw [← hW2]
  clear hW2 CW x0 x1 O1 hb1 V1 B0
  have hgl := O2.lt
  have HO2 : Hid (OwnStr W2 W0.heap.size g c' ws) := O2
  have HX2 : Hid (W2.heap[w.heap.size]? = some (.cells #[.int .i64 0, .int .i64 0, .int .i64 0, .int .i64 0] 25 (0, 0))) := x2
  have HN2 : Hid (Blk3 W2 w1.heap.size (fun _ => 0)) := N2
  clear O2 x2 N2
  generalize w1.heap.size = N at z1 gN HN2 ⊢
  generalize W0.heap.size = base0 at HO2
  go_wp2_with fail
  go_loopw [6, 7, 8] (fun iv _ _ wr => ∃ (i : Nat) (q : Nat → Int), 1 ≤ i ∧ i ≤ 4 ∧ i ≤ ws.length ∧ iv = .int .i64 i ∧ Hid (NumsTo ws i q) ∧ Hid (OwnStr wr base0 g c' ws) ∧ Hid (wr.heap[w.heap.size]? = some (.cells #[.int .i64 0, .int .i64 0, .int .i64 0, .int .i64 0] 25 (0, 0))) ∧ Hid (Blk3 wr N q) ∧ Below w.heap.size w wr) (fun iv _ _ _ => 4 - (intOf iv).toNat)
  case atStart => exact ⟨1, fun _ => 0, by omega, by omega, hw1, rfl, fun j hj => ⟨fun h => by omega, fun _ => rfl⟩, HO2, HX2, HN2, V2⟩
  case round =>
    obtain ⟨i, q, hi1, hi4, hil, rfl, HQ, HO, HX, HN, hw⟩ := hrel
    rename World => wr
    clear HO2 HX2 HN2 V2
    by_cases hgo : i < ws.length ∧ i < 4
    · obtain ⟨h1, h2⟩ := hgo
      obtain ⟨m, rfl⟩ : ∃ m, i = m + 1 := ⟨i - 1, by omega⟩
      have d1 : ((m : Int) + 1 < (ws.length : Int)) := by omega
      have d2 : ((m : Int) + 1 < 4) := by omega
      have hcell := HO.out.cell h1
      unfold strV at hcell
      have CD := fun W => l1Digits_any (ws[m + 1]?.getD []) (HWM.out (m + 1) h1) W
      have HST : Hid (∀ x, IsDg (ws[m + 1]?.getD []) x → NumsTo ws (m + 1 + 1) (fun j => if j + 1 = m + 1 then x else q j)) := fun x hx => HQ.out.step hx
      generalize ws[m + 1]?.getD [] = wd at hcell CD HST
      obtain ⟨n0, n1, n2⟩ := HN.out.cells
      have nm : wr.cell? ⟨N, m, none⟩ = some (.int .i64 (q m)) := by
        obtain rfl | rfl | rfl : m = 0 ∨ m = 1 ∨ m = 2 := by omega
        all_goals assumption
      have nf : wr.frozen? ⟨N, m, none⟩ = false := free_of_blk m HN.out
      have HS : Hid (∀ x, Blk3 (wr.setCell ⟨N, m, none⟩ (.int .i64 x)) N (fun j => if j + 1 = m + 1 then x else q j)) := fun x => HN.out.set (i := m + 1) (by omega) (by omega) x
      have HK : Hid (∀ x : Int, OwnStr (wr.setCell ⟨N, m, none⟩ (.int .i64 x)) base0 g c' ws ∧ (wr.setCell ⟨N, m, none⟩ (.int .i64 x)).heap[w.heap.size]? = some (.cells #[.int .i64 0, .int .i64 0, .int .i64 0, .int .i64 0] 25 (0, 0)) ∧ Below w.heap.size w (wr.setCell ⟨N, m, none⟩ (.int .i64 x))) := fun x =>
        ⟨HO.out.keep (Below.heap_setCell wr ⟨N, m, none⟩ _ _ (show g ≠ N by omega)) (by simp [World.setCell]), (Below.heap_setCell wr ⟨N, m, none⟩ _ _ (show w.heap.size ≠ N by omega)).trans HX.out, hw.setCell (show w.heap.size ≤ N by omega) _⟩
      have hm3 : (m : Int) < 3 := by omega
      clear n0 n1 n2 HQ HN HO HX hw
      go_wp2_with (go_at_call 30; refine (CD _).mono ?_; rintro e w' ⟨x, b, rfl, hx, hq⟩; have hq' := hq.symm; clear hq; subst hq')
      obtain ⟨k1, k2, k3⟩ := HK.out x
      exact ⟨⟨m + 1 + 1, _, by omega, by omega, by omega, by go_num, HST.out x hx, k1, k2, HS.out x, k3⟩, by simp [intOf]; omega⟩
    · by_cases hil2 : i < ws.length
      · have d1 : ((i : Int) < (ws.length : Int)) := by omega
        have d2 : ¬ ((i : Int) < 4) := by omega
        have HNM : Hid (NumsOf l q) := HNA.out i q HQ.out (by omega)
        have BHQ := HQ
        clear HQ HO BHQ
        go_wp2_with fail
        go_loopw [3, 9, 10] (fun sv kv _ wr => ∃ k : Nat, 1 ≤ k ∧ k ≤ 8 ∧ sv = .bool false ∧ kv = .int .i64 k ∧ Hid (∀ k' : Int, 1 ≤ k' → k' < k → cmB k' (q 0) (q 1) (q 2) = true → cmSh k' (q 0) (q 1) (q 2) ≠ l) ∧ Hid (wr.heap[w.heap.size]? = some (.cells #[.int .i64 0, .int .i64 0, .int .i64 0, .int .i64 0] 25 (0, 0))) ∧ Hid (Blk3 wr N q) ∧ Below w.heap.size w wr) (fun _ kv _ _ => 8 - (intOf kv).toNat)
        case atStart => exact ⟨1, by omega, by omega, rfl, rfl, fun k' h1 h2 => by omega, HX.out, HN.out, hw⟩
        case round =>
          obtain ⟨k, hk1, hk8, rfl, rfl, HT, HX3, HN3, hw3⟩ := hrel
          rename World => w3
          clear HX HN hw
          by_cases h7 : k ≤ 7
          · have h7' : (k : Int) ≤ 7 := by omega
            obtain ⟨n0, n1, n2⟩ := HN3.out.cells
            have f0 := lt_of_block HN3.out
            obtain ⟨m, hm⟩ : ∃ m, m = if cmB (k : Int) (q 0) (q 1) (q 2) = true then cmSh (k : Int) (q 0) (q 1) (q 2) else [] := ⟨_, rfl⟩
            have CS := fun W => specShowCommand_any (k : Int) (q 0) (q 1) (q 2) W
            rw [← hm] at CS
            have HM : Hid (m = if cmB (k : Int) (q 0) (q 1) (q 2) = true then cmSh (k : Int) (q 0) (q 1) (q 2) else []) := hm
            clear hm
            obtain ⟨W5, hW5⟩ : ∃ W5, W5 = (w3.alloc (.cells #[.int .i64 k, .int .i64 (q 0), .int .i64 (q 1), .int .i64 (q 2)] 25)).drew := ⟨_, rfl⟩
            have BB : Below w3.heap.size w3 W5 := by rw [hW5]; exact (box_below (w := w3)).drew
            have y5 : W5.heap[w3.heap.size]? = some (.cells #[.int .i64 k, .int .i64 (q 0), .int .i64 (q 1), .int .i64 (q 2)] 25 (0, 0)) := by rw [hW5]; exact heap_alloc_new w3 _
            have l5 := lt_of_block y5
            have HY : Hid (∀ W, Below W5.heap.size W5 W → W.cell? ⟨w3.heap.size, 0, none⟩ = some (.int .i64 k) ∧ W.cell? ⟨w3.heap.size, 1, none⟩ = some (.int .i64 (q 0)) ∧ W.cell? ⟨w3.heap.size, 2, none⟩ = some (.int .i64 (q 1)) ∧ W.cell? ⟨w3.heap.size, 3, none⟩ = some (.int .i64 (q 2))) := fun W hW => by
              have e := (hW.block _ l5).trans y5
              simp [World.cell?, e]
            obtain ⟨c0, c1, c2, c3⟩ := HY.out W5 (Below.refl _ _)
            have V5 := hw3.then BB hw3.size
            have HX5 : Hid (∀ W, Below W5.heap.size W5 W → W.heap[w.heap.size]? = some (.cells #[.int .i64 0, .int .i64 0, .int .i64 0, .int .i64 0] 25 (0, 0))) := fun W hW => by
              have e := (BB.block _ (lt_of_block HX3.out)).trans HX3.out
              exact (hW.block _ (lt_of_block e)).trans e
            have HN5 : Hid (∀ W, Below W5.heap.size W5 W → Blk3 W N q) := fun W hW => (HN3.out.below BB).below hW
            go_upto_region 11 with fail
            go_region
            rw [← hW5]
            clear hW5 n0 n1 n2 y5 BB HX3 HN3
            by_cases hA : m = l ∧ l ≠ []
            · obtain ⟨hA1, hA2⟩ := hA
              have e1 : (m == l) = true := by simpa using hA1
              have e2 : (l == []) = false := by simpa using hA2
              have e3 : l.isEmpty = false := by cases l with | nil => exact absurd rfl hA2 | cons c t => rfl
              have e4 : l ≠ [] := hA2
              have HR : Hid (cmB (k : Int) (q 0) (q 1) (q 2) = true ∧ cmSh (k : Int) (q 0) (q 1) (q 2) = l) := by
                have e := HM.out
                rcases h : cmB (k : Int) (q 0) (q 1) (q 2) with _ | _
                · rw [h, if_neg (by simp)] at e; exact absurd (hA1.symm.trans e) hA2
                · rw [h, if_pos rfl] at e; exact ⟨rfl, e.symm.trans hA1⟩
              clear hA1 hA2
              go_wp2_with (go_at_call 13; refine (CS _).mono ?_; rintro e w6 ⟨rfl, hb6⟩; obtain ⟨d0, d1, d2, d3⟩ := HY.out _ hb6; have x6 := HX5.out _ hb6; have HE6 : Hid _ := setAll4 x6 (.int .i64 k) (.int .i64 (q 0)) (.int .i64 (q 1)) (.int .i64 (q 2)); obtain ⟨⟨r0, r1, r2, r3⟩, f0, f1, f2, f3⟩ := boxed4 x6; clear x6; have V6 := V5.then hb6 V5.size)
              refine bodyPost_ret (results_cmd rfl _ _ w.heap.size _ _ _ _ rfl HE6.out Tryd.underlying25 rfl sizedCmd _ rfl) rfl ?_
              exact ⟨_, _, _, _, true, rfl, Or.inl ⟨rfl, HR.out.1, HR.out.2⟩, below4 V6 (Nat.le_refl _) _ _ _ _⟩
            · have HNO : Hid (∀ k' : Int, 1 ≤ k' → k' < ((k + 1 : Nat) : Int) → cmB k' (q 0) (q 1) (q 2) = true → cmSh k' (q 0) (q 1) (q 2) ≠ l) := fun k' h1 h2 h3 h4 => by
                by_cases e : k' = k
                · subst e
                  have e := HM.out
                  rw [if_pos h3, h4] at e
                  exact hA ⟨e, fun e2 => cmSh_ne _ _ _ _ (h4.trans e2)⟩
                · exact HT.out k' h1 (by omega) h3 h4
              by_cases e1' : m = l
              · have e0 : l = [] := Classical.byContradiction fun h => hA ⟨e1', h⟩
                have e1 : (m == l) = true := by simpa using e1'
                have e2 : (l == []) = true := by rw [e0]; rfl
                have e3 : l.isEmpty = true := by rw [e0]; rfl
                clear e0 e1' hA
                go_wp2_with (go_at_call 13; refine (CS _).mono ?_; rintro e w6 ⟨rfl, hb6⟩; have V6 := V5.then hb6 V5.size; have x6 := HX5.out _ hb6; have n6 := HN5.out _ hb6)
                exact ⟨⟨k + 1, by omega, by omega, rfl, by go_num, HNO, x6, n6, V6⟩, by simp [intOf]; omega⟩
              · have e1 : (m == l) = false := by simpa using e1'
                clear e1' hA
                go_wp2_with (go_at_call 13; refine (CS _).mono ?_; rintro e w6 ⟨rfl, hb6⟩; have V6 := V5.then hb6 V5.size; have x6 := HX5.out _ hb6; have n6 := HN5.out _ hb6)
                exact ⟨⟨k + 1, by omega, by omega, rfl, by go_num, HNO, x6, n6, V6⟩, by simp [intOf]; omega⟩
          · obtain rfl : k = 8 := by omega
            have HRN : Hid (IsRd l 0 0 0 0 false) := isRd_nums HNM.out fun k h1 h2 h3 => HT.out k h1 (by omega) h3
            have x6 := HX3.out
            have HE6 : Hid _ := setAll4 x6 (.int .i64 0) (.int .i64 0) (.int .i64 0) (.int .i64 0)
            obtain ⟨⟨r0, r1, r2, r3⟩, f0, f1, f2, f3⟩ := boxed4 x6
            clear x6
            go_wp2_with fail
            refine bodyPost_ret (results_cmd rfl _ _ w.heap.size _ _ _ _ rfl HE6.out Tryd.underlying25 rfl sizedCmd _ rfl) rfl ?_
            exact ⟨0, 0, 0, 0, false, rfl, HRN.out, below4 hw3 (Nat.le_refl _) _ _ _ _⟩
      · have d1 : ¬ ((i : Int) < (ws.length : Int)) := by omega
        have HNM : Hid (NumsOf l q) := HNA.out i q HQ.out (by omega)
        have BHQ := HQ
        clear HQ HO BHQ
        go_wp2_with fail
        go_loopw [3, 9, 10] (fun sv kv _ wr => ∃ k : Nat, 1 ≤ k ∧ k ≤ 8 ∧ sv = .bool false ∧ kv = .int .i64 k ∧ Hid (∀ k' : Int, 1 ≤ k' → k' < k → cmB k' (q 0) (q 1) (q 2) = true → cmSh k' (q 0) (q 1) (q 2) ≠ l) ∧ Hid (wr.heap[w.heap.size]? = some (.cells #[.int .i64 0, .int .i64 0, .int .i64 0, .int .i64 0] 25 (0, 0))) ∧ Hid (Blk3 wr N q) ∧ Below w.heap.size w wr) (fun _ kv _ _ => 8 - (intOf kv).toNat)
        case atStart => exact ⟨1, by omega, by omega, rfl, rfl, fun k' h1 h2 => by omega, HX.out, HN.out, hw⟩
        case round =>
          obtain ⟨k, hk1, hk8, rfl, rfl, HT, HX3, HN3, hw3⟩ := hrel
          rename World => w3
          clear HX HN hw
          by_cases h7 : k ≤ 7
          · have h7' : (k : Int) ≤ 7 := by omega
            obtain ⟨n0, n1, n2⟩ := HN3.out.cells
            have f0 := lt_of_block HN3.out
            obtain ⟨m, hm⟩ : ∃ m, m = if cmB (k : Int) (q 0) (q 1) (q 2) = true then cmSh (k : Int) (q 0) (q 1) (q 2) else [] := ⟨_, rfl⟩
            have CS := fun W => specShowCommand_any (k : Int) (q 0) (q 1) (q 2) W
            rw [← hm] at CS
            have HM : Hid (m = if cmB (k : Int) (q 0) (q 1) (q 2) = true then cmSh (k : Int) (q 0) (q 1) (q 2) else []) := hm
            clear hm
            obtain ⟨W5, hW5⟩ : ∃ W5, W5 = (w3.alloc (.cells #[.int .i64 k, .int .i64 (q 0), .int .i64 (q 1), .int .i64 (q 2)] 25)).drew := ⟨_, rfl⟩
            have BB : Below w3.heap.size w3 W5 := by rw [hW5]; exact (box_below (w := w3)).drew
            have y5 : W5.heap[w3.heap.size]? = some (.cells #[.int .i64 k, .int .i64 (q 0), .int .i64 (q 1), .int .i64 (q 2)] 25 (0, 0)) := by rw [hW5]; exact heap_alloc_new w3 _
            have l5 := lt_of_block y5
            have HY : Hid (∀ W, Below W5.heap.size W5 W → W.cell? ⟨w3.heap.size, 0, none⟩ = some (.int .i64 k) ∧ W.cell? ⟨w3.heap.size, 1, none⟩ = some (.int .i64 (q 0)) ∧ W.cell? ⟨w3.heap.size, 2, none⟩ = some (.int .i64 (q 1)) ∧ W.cell? ⟨w3.heap.size, 3, none⟩ = some (.int .i64 (q 2))) := fun W hW => by
              have e := (hW.block _ l5).trans y5
              simp [World.cell?, e]
            obtain ⟨c0, c1, c2, c3⟩ := HY.out W5 (Below.refl _ _)
            have V5 := hw3.then BB hw3.size
            have HX5 : Hid (∀ W, Below W5.heap.size W5 W → W.heap[w.heap.size]? = some (.cells #[.int .i64 0, .int .i64 0, .int .i64 0, .int .i64 0] 25 (0, 0))) := fun W hW => by
              have e := (BB.block _ (lt_of_block HX3.out)).trans HX3.out
              exact (hW.block _ (lt_of_block e)).trans e
            have HN5 : Hid (∀ W, Below W5.heap.size W5 W → Blk3 W N q) := fun W hW => (HN3.out.below BB).below hW
            go_upto_region 11 with fail
            go_region
            rw [← hW5]
            clear hW5 n0 n1 n2 y5 BB HX3 HN3
            by_cases hA : m = l ∧ l ≠ []
            · obtain ⟨hA1, hA2⟩ := hA
              have e1 : (m == l) = true := by simpa using hA1
              have e2 : (l == []) = false := by simpa using hA2
              have e3 : l.isEmpty = false := by cases l with | nil => exact absurd rfl hA2 | cons c t => rfl
              have e4 : l ≠ [] := hA2
              have HR : Hid (cmB (k : Int) (q 0) (q 1) (q 2) = true ∧ cmSh (k : Int) (q 0) (q 1) (q 2) = l) := by
                have e := HM.out
                rcases h : cmB (k : Int) (q 0) (q 1) (q 2) with _ | _
                · rw [h, if_neg (by simp)] at e; exact absurd (hA1.symm.trans e) hA2
                · rw [h, if_pos rfl] at e; exact ⟨rfl, e.symm.trans hA1⟩
              clear hA1 hA2
              go_wp2_with (go_at_call 13; refine (CS _).mono ?_; rintro e w6 ⟨rfl, hb6⟩; obtain ⟨d0, d1, d2, d3⟩ := HY.out _ hb6; have x6 := HX5.out _ hb6; have HE6 : Hid _ := setAll4 x6 (.int .i64 k) (.int .i64 (q 0)) (.int .i64 (q 1)) (.int .i64 (q 2)); obtain ⟨⟨r0, r1, r2, r3⟩, f0, f1, f2, f3⟩ := boxed4 x6; clear x6; have V6 := V5.then hb6 V5.size)
              refine bodyPost_ret (results_cmd rfl _ _ w.heap.size _ _ _ _ rfl HE6.out Tryd.underlying25 rfl sizedCmd _ rfl) rfl ?_
              exact ⟨_, _, _, _, true, rfl, Or.inl ⟨rfl, HR.out.1, HR.out.2⟩, below4 V6 (Nat.le_refl _) _ _ _ _⟩
            · have HNO : Hid (∀ k' : Int, 1 ≤ k' → k' < ((k + 1 : Nat) : Int) → cmB k' (q 0) (q 1) (q 2) = true → cmSh k' (q 0) (q 1) (q 2) ≠ l) := fun k' h1 h2 h3 h4 => by
                by_cases e : k' = k
                · subst e
                  have e := HM.out
                  rw [if_pos h3, h4] at e
                  exact hA ⟨e, fun e2 => cmSh_ne _ _ _ _ (h4.trans e2)⟩
                · exact HT.out k' h1 (by omega) h3 h4
              by_cases e1' : m = l
              · have e0 : l = [] := Classical.byContradiction fun h => hA ⟨e1', h⟩
                have e1 : (m == l) = true := by simpa using e1'
                have e2 : (l == []) = true := by rw [e0]; rfl
                have e3 : l.isEmpty = true := by rw [e0]; rfl
                clear e0 e1' hA
                go_wp2_with (go_at_call 13; refine (CS _).mono ?_; rintro e w6 ⟨rfl, hb6⟩; have V6 := V5.then hb6 V5.size; have x6 := HX5.out _ hb6; have n6 := HN5.out _ hb6)
                exact ⟨⟨k + 1, by omega, by omega, rfl, by go_num, HNO, x6, n6, V6⟩, by simp [intOf]; omega⟩
              · have e1 : (m == l) = false := by simpa using e1'
                clear e1' hA
                go_wp2_with (go_at_call 13; refine (CS _).mono ?_; rintro e w6 ⟨rfl, hb6⟩; have V6 := V5.then hb6 V5.size; have x6 := HX5.out _ hb6; have n6 := HN5.out _ hb6)
                exact ⟨⟨k + 1, by omega, by omega, rfl, by go_num, HNO, x6, n6, V6⟩, by simp [intOf]; omega⟩
          · obtain rfl : k = 8 := by omega
            have HRN : Hid (IsRd l 0 0 0 0 false) := isRd_nums HNM.out fun k h1 h2 h3 => HT.out k h1 (by omega) h3
            have x6 := HX3.out
            have HE6 : Hid _ := setAll4 x6 (.int .i64 0) (.int .i64 0) (.int .i64 0) (.int .i64 0)
            obtain ⟨⟨r0, r1, r2, r3⟩, f0, f1, f2, f3⟩ := boxed4 x6
            clear x6
            go_wp2_with fail
            refine bodyPost_ret (results_cmd rfl _ _ w.heap.size _ _ _ _ rfl HE6.out Tryd.underlying25 rfl sizedCmd _ rfl) rfl ?_
            exact ⟨0, 0, 0, 0, false, rfl, HRN.out, below4 hw3 (Nat.le_refl _) _ _ _ _⟩

end Go.Proofs.YtppnnnijdfbgpaaDoor
