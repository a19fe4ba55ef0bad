/- Own rows of levels with spare room behind them; the two Lowers told alike. -/
import Derived.Test.YtplcpiglciplkaaLowMath
import Derived.Test.YtplcpiglciplkaaLevOpen
namespace Go.Proofs.Ytplcpiglciplkaa
open Go.RowKit

/-- block B is a row of the call's own, its first n levels those of ls -/
def LevC (w : World) (B n : Nat) (ls : List Lev) : Prop :=
  ∃ cur : Array Value, w.heap[B]? = some (.cells cur 82 (0, 0)) ∧ n * 2 ≤ cur.size ∧ ∀ i, i < n → cur[i * 2]? = some (.int .i64 (fr ls i)) ∧ cur[i * 2 + 1]? = some (.int .i64 (fe ls i))

theorem LevB.toC {w : World} {B n : Nat} {ls : List Lev} (h : LevB w B n n ls) : LevC w B n ls := by
  obtain ⟨cur, h1, h2, h3⟩ := h
  exact ⟨cur, h1, by omega, h3⟩
theorem LevC.lt {w : World} {B n : Nat} {ls : List Lev} (h : LevC w B n ls) : B < w.heap.size := by
  obtain ⟨cur, h1, _⟩ := h; exact lt_of_block h1
theorem LevC.blk {w w' : World} {B n : Nat} {ls : List Lev} (h : LevC w B n ls) (hb : w'.heap[B]? = w.heap[B]?) : LevC w' B n ls := by
  obtain ⟨cur, h1, h2⟩ := h
  exact ⟨cur, by rw [hb]; exact h1, h2⟩
theorem LevC.below {w w' : World} {B n : Nat} {ls : List Lev} (h : LevC w B n ls) (ho : Below w.heap.size w w') : LevC w' B n ls := h.blk (ho.block B h.lt)
theorem LevC.only {w w' : World} {B B' n : Nat} {ls : List Lev} (h : LevC w B n ls) (ho : Only B' w w') (hB : B ≠ B') : LevC w' B n ls := h.blk (ho.block B hB)
theorem LevC.toS {w : World} {B n cap : Nat} {ls : List Lev} (h : LevC w B n ls) (hl : ls.length = n) (hn : n ≤ cap) (hm : cap ≤ maxLen)
    (wf : ∀ i, i < n → (-9223372036854775808 ≤ fr ls i ∧ fr ls i ≤ 9223372036854775807) ∧ (-9223372036854775808 ≤ fe ls i ∧ fe ls i ≤ 9223372036854775807)) : LevS w (some ⟨B, 0, none⟩) n cap ls := by
  obtain ⟨cur, h1, h2, h3⟩ := h
  refine ⟨hl, hn, hm, (fun h => by cases h), wf, fun _ => ⟨B, 0, rfl, lt_of_block h1, fun i hi => ?_⟩⟩
  obtain ⟨e0, e1⟩ := h3 i (by omega)
  simp only [Nat.zero_add]
  exact ⟨by simp [World.cell?, h1, e0], by simp [World.cell?, h1, e1]⟩

/-- an own row, opened -/
theorem own_levC {w : World} {base : Nat} {v : Value} {out : List Lev} (h : w.ownsRow base 82 2 v out.length (cellsOf out)) (hn : 0 < out.length) :
    ∃ g cap, v = .slice (some ⟨g, 0, none⟩) out.length cap ∧ base ≤ g ∧ out.length ≤ cap ∧ cap ≤ maxLen ∧ LevC w g out.length out := by
  have hc := @World.ownsRow.cells _ _ _ _ _ _ _ h
  rcases h.2 with ⟨rfl, h0⟩ | ⟨g, cap, cur, rfl, hb, hg, h1, h2, h3, h4⟩
  · omega
  · refine ⟨g, cap, rfl, hb, h1, h2, cur, hg, by omega, fun i hi => ?_⟩
    obtain ⟨c0, c1⟩ := cellsOf_at out i hi
    have e : ∀ j, j < out.length * 2 → cur[j]? = (cellsOf out)[j]? := fun j hj => by
      rw [← h4, List.getElem?_take, if_pos hj, Array.getElem?_toList]
    exact ⟨(e _ (by omega)).trans c0, (e _ (by omega)).trans c1⟩

theorem LevC.step {w1 : World} {B n k : Nat} {k0 : Int} {cur : Array Value} (hcur1 : w1.heap[B]? = some (.cells cur 82 (0, 0))) (hcs : n * 2 ≤ cur.size) (hk : k < n)
    (hck : ∀ i, i < k → cur[i * 2]? = some (.int .i64 (k0 + 2 * (i : Int))) ∧ cur[i * 2 + 1]? = some (.int .i64 (k0 + 2 * (i : Int) + 1))) :
    ∃ cur' : Array Value, ((w1.setCell ⟨B, k * 2, none⟩ (.int .i64 (k0 + 2 * (k : Int)))).setCell ⟨B, k * 2 + 1, none⟩ (.int .i64 (k0 + 2 * (k : Int) + 1))).heap[B]? = some (.cells cur' 82 (0, 0)) ∧ n * 2 ≤ cur'.size ∧
      ∀ i, i < k + 1 → cur'[i * 2]? = some (.int .i64 (k0 + 2 * (i : Int))) ∧ cur'[i * 2 + 1]? = some (.int .i64 (k0 + 2 * (i : Int) + 1)) := by
  refine ⟨_, blk_set (blk_set hcur1 _) _, by simpa using hcs, fun i hi => ?_⟩
  simp only [Array.getElem?_setIfInBounds]
  by_cases e : i = k
  · subst e
    rw [if_neg (by omega), if_pos rfl, if_pos (by omega), if_pos rfl, if_pos (by simp; omega)]
    exact ⟨rfl, rfl⟩
  · rw [if_neg (by omega), if_neg (by omega), if_neg (by omega), if_neg (by omega)]
    exact hck i (by omega)

set_option maxHeartbeats 400000 in
theorem markLevelC_any (B n cap : Nat) (k0 : Int) (ls : List Lev) (w : World) (h : LevC w B n ls) (hn : n ≤ 1048576) (h0 : 0 ≤ k0) (h1 : k0 ≤ 1073741824) :
    Calls Try.prog 75 #[.slice (some ⟨B, 0, none⟩) n cap, .int .i64 k0] w fun e w' => e = .returned (.int .i64 (k0 + 2 * n)) ∧ LevC w' B n (marks k0 n) ∧ Only B w w' := by
  go_enter Try.func75, Try.ntmps75
  go_wp2
  go_loopw [1, 5] (fun m i wr => ∃ k : Nat, k ≤ n ∧ i = .int .i64 k ∧ m = .int .i64 (k0 + 2 * k) ∧ (∃ cur : Array Value, wr.heap[B]? = some (.cells cur 82 (0, 0)) ∧ n * 2 ≤ cur.size ∧ ∀ i, i < k → cur[i * 2]? = some (.int .i64 (k0 + 2 * (i : Int))) ∧ cur[i * 2 + 1]? = some (.int .i64 (k0 + 2 * (i : Int) + 1))) ∧ Only B w wr) (fun _ i _ => n - (intOf i).toNat)
  case atStart =>
    obtain ⟨cur, hcur, hcs, _⟩ := h
    exact ⟨0, by omega, rfl, by go_num, ⟨cur, hcur, hcs, fun i hi => by omega⟩, Only.refl _ _⟩
  case round =>
    obtain ⟨k, hk, rfl, rfl, ⟨cur, hcur, hcs, hck⟩, hw⟩ := hrel
    by_cases hlt : k < n
    · have g0 := cell_of_blk (k * 2) hcur (by omega)
      have g1 := cell_of_blk (k * 2 + 1) hcur (by omega)
      have f0 := free_of_blk (k * 2) hcur
      have f1 := free_of_blk (k * 2 + 1) hcur
      have F := LevC.step (k0 := k0) hcur hcs hlt hck
      clear hck
      go_wp2
      go_roundw
      case rel => exact ⟨k + 1, by omega, by go_num, by go_num, F, (hw.setCell _ _).setCell _ _⟩
      case measure => simp [intOf]; omega
    · have e : k = n := by omega
      subst e
      go_wp2
      go_ret
      exact ⟨rfl, ⟨cur, hcur, hcs, fun i hi => by rw [marks_fr _ _ _ hi, marks_fe _ _ _ hi]; exact hck i hi⟩, hw⟩

set_option maxHeartbeats 400000 in
theorem heldLevelC_any (B n cap : Nat) (k0 : Int) (w : World) (h : LevC w B n (marks k0 n)) (hn : n ≤ 1048576) (h0 : 0 ≤ k0) (h1 : k0 ≤ 1073741824) :
    Calls Try.prog 76 #[.slice (some ⟨B, 0, none⟩) n cap, .int .i64 k0] w fun e w' => e = .returned (.int .i64 (k0 + 2 * n)) ∧ w' = w := by
  obtain ⟨cur, hcur, hcs, hck⟩ := h
  go_enter Try.func76, Try.ntmps76
  go_wp2
  go_loop [1, 5] (fun m i => ∃ k : Nat, k ≤ n ∧ i = .int .i64 k ∧ m = .int .i64 (k0 + 2 * k)) (fun _ i => n - (intOf i).toNat)
  case atStart => exact ⟨0, by omega, rfl, by go_num⟩
  case round =>
    obtain ⟨k, hk, rfl, rfl⟩ := hrel
    by_cases hlt : k < n
    · have g0 : w.cell? ⟨B, k * 2, none⟩ = some (.int .i64 (k0 + 2 * k)) := by rw [← marks_fr k0 n k hlt, ← (hck k hlt).1]; simp [World.cell?, hcur]
      have g1 : w.cell? ⟨B, k * 2 + 1, none⟩ = some (.int .i64 (k0 + 2 * k + 1)) := by rw [← marks_fe k0 n k hlt, ← (hck k hlt).2]; simp [World.cell?, hcur]
      clear hck
      go_wp2
      go_round
      case rel => exact ⟨k + 1, by omega, by go_num, by go_num⟩
      case measure => simp [intOf]; omega
    · have e : k = n := by omega
      subst e
      go_wp2
      go_ret
      exact ⟨rfl, rfl⟩

theorem markProfileC_any (t : Int) (B n cap : Nat) (k0 : Int) (ls : List Lev) (w : World) (h : LevC w B n ls) (hn : n ≤ 1048576) (h0 : 0 ≤ k0) (h1 : k0 ≤ 1073741824) :
    Calls Try.prog 38 #[.agg #[.int .i64 t, .slice (some ⟨B, 0, none⟩) n cap], .int .i64 k0] w fun e w' => e = .returned (.int .i64 (k0 + 2 * n)) ∧ LevC w' B n (marks k0 n) ∧ Only B (w.alloc (.cells #[.int .i64 t, .slice (some ⟨B, 0, none⟩) n cap] 26)) w' := by
  go_enter Try.func38, Try.ntmps38
  go_wp2_with fail
  refine (markLevelC_any B n cap k0 ls _ (h.below box_below) hn h0 h1).mono ?_
  rintro e w1 ⟨rfl, hl, ho⟩
  go_wp2
  go_ret
  exact ⟨rfl, hl, ho⟩

theorem heldProfileC_any (t : Int) (B n cap : Nat) (k0 : Int) (w : World) (h : LevC w B n (marks k0 n)) (hn : n ≤ 1048576) (h0 : 0 ≤ k0) (h1 : k0 ≤ 1073741824) :
    Calls Try.prog 43 #[.agg #[.int .i64 t, .slice (some ⟨B, 0, none⟩) n cap], .int .i64 k0] w fun e w' => e = .returned (.int .i64 (k0 + 2 * n)) ∧ Below w.heap.size w w' := by
  go_enter Try.func43, Try.ntmps43
  go_wp2_with fail
  refine (heldLevelC_any B n cap k0 _ (h.below box_below) hn h0 h1).mono ?_
  rintro e w1 ⟨rfl, rfl⟩
  go_wp2
  go_ret
  exact ⟨rfl, box_below⟩

/-- both are right and the lower is short enough -/
noncomputable def lowB (Ta Tb : Int) (la lb : List Lev) : Bool := poB Ta la && poB Tb lb && decide ((lowL la lb).length ≤ 200)

theorem lowB_t {Ta Tb : Int} {la lb : List Lev} (h : lowB Ta Tb la lb = true) : PO Ta la ∧ PO Tb lb ∧ (lowL la lb).length ≤ 200 ∧ 0 < (lowL la lb).length := by
  unfold lowB at h
  simp only [Bool.and_eq_true, decide_eq_true_eq] at h
  have pa := poB_t h.1.1
  have pb := poB_t h.1.2
  exact ⟨pa, pb, h.2, (lowL_po pa pb h.2).n1⟩

/-- boxed pairs: block, its two cells, its type -/
def Bxs (W : World) (L : List (Nat × Value × Value × TypeId)) : Prop := ∀ x ∈ L, W.heap[x.1]? = some (.cells #[x.2.1, x.2.2.1] x.2.2.2 (0, 0))
theorem Bxs.below {W W' : World} {L : List (Nat × Value × Value × TypeId)} (h : Bxs W L) (hb : Below W.heap.size W W') : Bxs W' L := fun x hx => (hb.block _ (lt_of_block (h x hx))).trans (h x hx)
theorem Bxs.only {W W' : World} {B : Nat} {L : List (Nat × Value × Value × TypeId)} (h : Bxs W L) (ho : Only B W W') (hB : ∀ x ∈ L, x.1 ≠ B) : Bxs W' L := fun x hx => (ho.block _ (hB x hx)).trans (h x hx)
theorem Bxs.cons {W : World} {v0 v1 : Value} {T : TypeId} {L : List (Nat × Value × Value × TypeId)} (h : Bxs W L) : Bxs (W.alloc (.cells #[v0, v1] T)) ((W.heap.size, v0, v1, T) :: L) := by
  intro x hx
  rcases List.mem_cons.1 hx with rfl | hx
  · exact heap_alloc_new _ _
  · exact h.below box_below x hx

end Go.Proofs.Ytplcpiglciplkaa
