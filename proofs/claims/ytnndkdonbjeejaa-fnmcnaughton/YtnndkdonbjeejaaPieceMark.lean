/- Marks in rows of Piece with room behind them; a row of the call's own, or none. -/
import Derived.Test.YtnndkdonbjeejaaPieceRow
namespace Go.Proofs.Ytnndkdonbjeejaa
open Go.RowKit Go.Sort

set_option maxHeartbeats 1000000 in
theorem markPieceC_any (B n c : Nat) (k0 : Int) (ls : List Pc) (w : World) (h : PieceB w B c n ls) (hnc : n ≤ c) (hn : n ≤ 1048576) (h0 : 0 ≤ k0) (h1 : k0 ≤ 1073741824) :
    Calls Try.prog 28 #[.slice (some ⟨B, 0, none⟩) n c, .int .i64 k0] w fun e w' => e = .returned (.int .i64 (k0 + 4 * n)) ∧ PieceB w' B c n (pcmarks k0 n) ∧ Only B w w' := by
  go_enter Try.func28, Try.ntmps28
  go_wp2
  go_loopw [1, 5] (fun m i wr => ∃ k : Nat, k ≤ n ∧ i = .int .i64 k ∧ m = .int .i64 (k0 + 4 * k) ∧ PieceB wr B c k (pcmarks k0 n) ∧ Only B w wr) (fun _ i _ => n - (intOf i).toNat)
  case atStart =>
    obtain ⟨cur, hcur, hcs, _⟩ := h
    exact ⟨0, by omega, rfl, by go_num, ⟨cur, hcur, hcs, fun i hi => by omega⟩, Only.refl _ _⟩
  case round =>
    obtain ⟨k, hk, rfl, rfl, ⟨cur, hcur, hcs, hck⟩, hw⟩ := hrel
    by_cases hlt : k < n
    · have HG := pcmarks_g k0 n k hlt
      have g0 := cell_of_blk (k * 4) hcur (by omega)
      have f0 := free_of_blk (k * 4) hcur
      have g1 := cell_of_blk (k * 4 + 1) hcur (by omega)
      have f1 := free_of_blk (k * 4 + 1) hcur
      have g2 := cell_of_blk (k * 4 + 2) hcur (by omega)
      have f2 := free_of_blk (k * 4 + 2) hcur
      have g3 := cell_of_blk (k * 4 + 3) hcur (by omega)
      have f3 := free_of_blk (k * 4 + 3) hcur
      go_wp2
      go_roundw
      case rel => exact ⟨k + 1, by omega, by go_num, by go_num, PieceB.step hcur hcs (Nat.lt_of_lt_of_le hlt hnc) hck (by rw [HG]; unfold pcmark; congr 1 <;> omega), (((hw.setCell _ _).setCell _ _).setCell _ _).setCell _ _⟩
      case measure => simp [intOf]; omega
    · have e : k = n := by omega
      subst e
      go_wp2
      go_ret
      exact ⟨rfl, ⟨cur, hcur, hcs, hck⟩, hw⟩

set_option maxHeartbeats 1000000 in
theorem heldPieceC_any (B n c : Nat) (k0 : Int) (w : World) (h : PieceB w B c n (pcmarks k0 n)) (hnc : n ≤ c) (hn : n ≤ 1048576) (h0 : 0 ≤ k0) (h1 : k0 ≤ 1073741824) :
    Calls Try.prog 29 #[.slice (some ⟨B, 0, none⟩) n c, .int .i64 k0] w fun e w' => e = .returned (.int .i64 (k0 + 4 * n)) ∧ w' = w := by
  obtain ⟨cur, hcur, hcs, hck⟩ := h
  go_enter Try.func29, Try.ntmps29
  go_wp2
  go_loop [1, 5] (fun m i => ∃ k : Nat, k ≤ n ∧ i = .int .i64 k ∧ m = .int .i64 (k0 + 4 * k)) (fun _ i => n - (intOf i).toNat)
  case atStart => exact ⟨0, by omega, rfl, by go_num⟩
  case round =>
    obtain ⟨k, hk, rfl, rfl⟩ := hrel
    by_cases hlt : k < n
    · skip
      have g0 : w.cell? ⟨B, k * 4, none⟩ = some (.int .i64 (k0 + 4 * k)) := by have := hck k hlt 0 (by omega); rw [pcmarks_g k0 n k hlt] at this; simp only [pcc, pcmark, Nat.add_zero] at this; rw [← this]; simp [World.cell?, hcur]
      have g1 : w.cell? ⟨B, k * 4 + 1, none⟩ = some (.int .i64 (k0 + 4 * k + 1)) := by have := hck k hlt 1 (by omega); rw [pcmarks_g k0 n k hlt] at this; simp only [pcc, pcmark] at this; rw [← this]; simp [World.cell?, hcur]
      have g2 : w.cell? ⟨B, k * 4 + 2, none⟩ = some (.int .i64 (k0 + 4 * k + 2)) := by have := hck k hlt 2 (by omega); rw [pcmarks_g k0 n k hlt] at this; simp only [pcc, pcmark] at this; rw [← this]; simp [World.cell?, hcur]
      have g3 : w.cell? ⟨B, k * 4 + 3, none⟩ = some (.int .i64 (k0 + 4 * k + 3)) := by have := hck k hlt 3 (by omega); rw [pcmarks_g k0 n k hlt] at this; simp only [pcc, pcmark] at this; rw [← this]; simp [World.cell?, hcur]
      clear hck
      go_wp2
      go_round
      case rel => exact ⟨k + 1, by omega, by go_num, by go_num⟩
      case measure => simp [intOf]; omega
    · have e : k = n := by omega
      subst e
      go_wp2
      go_ret
      exact ⟨rfl, rfl⟩

theorem OwnPiece.cell {w : World} {base g cap : Nat} {ys : List Pc} (h : OwnPiece w base g cap ys) {i f : Nat} (hi : i < ys.length) (hf : f < 4) : w.cell? ⟨g, i * 4 + f, none⟩ = some (.int .i64 (pcc (pcg ys i) f)) ∧ w.frozen? ⟨g, i * 4 + f, none⟩ = false := by
  refine ⟨by have := h.at_ i hi f hf; rwa [Nat.zero_add] at this, ?_⟩
  rcases h.own.2 with ⟨e, _⟩ | ⟨g', cap', cur, e, hg, hgg, r⟩
  · cases e
  · injection e with e1 _ e3
    injection e1 with e1
    injection e1 with e1 _ _
    subst e1
    exact free_of_blk _ hgg

theorem OwnPiece.toB {w : World} {base g cap : Nat} {ys : List Pc} (h : OwnPiece w base g cap ys) : PieceB w g cap ys.length ys := by
  have hcell : ∀ i, i < ys.length → ∀ c, c < 4 → w.cell? ⟨g, i * 4 + c, none⟩ = some (.int .i64 (pcc (pcg ys i) c)) := fun i hi c hc => (h.cell hi hc).1
  rcases h.own.2 with ⟨e, _⟩ | ⟨g', cap', cur, e, hg, hgg, h1, h2, h3, h4⟩
  · cases e
  · injection e with e1 _ e3
    injection e1 with e1
    injection e1 with e1 _ _
    subst e1 e3
    refine ⟨cur, hgg, h3, fun i hi c hc => ?_⟩
    have := hcell i hi c hc
    simpa [World.cell?, hgg] using this

/-- a list of jobs of the call's own: none, or a row -/
def LPiece (w : World) (base : Nat) (v : Option Addr) (n c : Nat) (ys : List Pc) : Prop := n = ys.length ∧ ((v = none ∧ c = 0 ∧ ys = []) ∨ ∃ g, v = some ⟨g, 0, none⟩ ∧ OwnPiece w base g c ys)
theorem LPiece.of {w : World} {base : Nat} {v : Value} {ys : List Pc} (h : w.ownsRow base 56 4 v ys.length (pccells ys)) : ∃ a c, v = .slice a ys.length c ∧ LPiece w base a ys.length c ys := by
  by_cases hv : v = .slice none 0 0
  · subst hv
    have h0 : ys.length = 0 := by
      rcases h.2 with ⟨_, h0⟩ | ⟨g, cap, cur, e, _⟩
      · exact h0
      · cases e
    have hy := List.length_eq_zero_iff.1 h0
    subst hy
    exact ⟨none, 0, rfl, rfl, Or.inl ⟨rfl, rfl, rfl⟩⟩
  · obtain ⟨g, cap, e, O⟩ := ownPiece_of h rfl rfl hv
    exact ⟨_, cap, e, rfl, Or.inr ⟨g, rfl, O⟩⟩
theorem LPiece.toS {w : World} {base : Nat} {v : Option Addr} {n c : Nat} {ys : List Pc} (h : LPiece w base v n c ys) (wf : ∀ i, i < ys.length → pcwf (pcg ys i)) : PieceS w v n c ys := by
  obtain ⟨rfl, ⟨rfl, rfl, rfl⟩ | ⟨g, rfl, O⟩⟩ := h
  · exact PieceS.nil_ w
  · exact O.toS wf
theorem LPiece.below {w w' : World} {base : Nat} {v : Option Addr} {n c : Nat} {ys : List Pc} (h : LPiece w base v n c ys) (hb : Below w.heap.size w w') : LPiece w' base v n c ys := by
  obtain ⟨e, h⟩ := h
  refine ⟨e, h.imp id ?_⟩
  rintro ⟨g, e, O⟩
  exact ⟨g, e, O.below hb⟩
theorem LPiece.low {w : World} {base base' : Nat} {v : Option Addr} {n c : Nat} {ys : List Pc} (h : LPiece w base v n c ys) (hb : base' ≤ base) : LPiece w base' v n c ys := by
  obtain ⟨e, h⟩ := h
  refine ⟨e, h.imp id ?_⟩
  rintro ⟨g, e, O⟩
  exact ⟨g, e, O.low hb⟩

end Go.Proofs.Ytnndkdonbjeejaa
