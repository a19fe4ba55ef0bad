/- Marks in rows of Part with room behind them; a row of the call's own, or none. -/
import Derived.Test.YtdgfkcobhhlfbaaGreatPartRow
namespace Go.Proofs.YtdgfkcobhhlfbaaGreat
open Go.RowKit Go.Sort

set_option maxHeartbeats 1000000 in
theorem markPartC_any (B n c : Nat) (k0 : Int) (ls : List Pt) (w : World) (h : PartB w B c n ls) (hnc : n ≤ c) (hn : n ≤ 1048576) (h0 : 0 ≤ k0) (h1 : k0 ≤ 1073741824) :
    Calls Tryz.prog 50 #[.slice (some ⟨B, 0, none⟩) n c, .int .i64 k0] w fun e w' => e = .returned (.int .i64 (k0 + 2 * n)) ∧ PartB w' B c n (ptmarks k0 n) ∧ Only B w w' := by
  go_enter Tryz.func50, Tryz.ntmps50
  go_wp2
  go_loopw [1, 5] (fun m i wr => ∃ k : Nat, k ≤ n ∧ i = .int .i64 k ∧ m = .int .i64 (k0 + 2 * k) ∧ PartB wr B c k (ptmarks k0 n) ∧ Only B w wr) (fun _ i _ => n - (intOf i).toNat)
  case atStart =>
    obtain ⟨cur, hcur, hcs, _⟩ := h
    exact ⟨0, by omega, rfl, by go_num, ⟨cur, hcur, hcs, fun i hi => by omega⟩, Only.refl _ _⟩
  case round =>
    obtain ⟨k, hk, rfl, rfl, ⟨cur, hcur, hcs, hck⟩, hw⟩ := hrel
    by_cases hlt : k < n
    · have HG := ptmarks_g k0 n k hlt
      have g0 := cell_of_blk (k * 2) hcur (by omega)
      have f0 := free_of_blk (k * 2) hcur
      have g1 := cell_of_blk (k * 2 + 1) hcur (by omega)
      have f1 := free_of_blk (k * 2 + 1) hcur
      go_wp2
      go_roundw
      case rel => exact ⟨k + 1, by omega, by go_num, by go_num, PartB.step hcur hcs (Nat.lt_of_lt_of_le hlt hnc) hck (by rw [HG]; unfold ptmark; congr 1 <;> omega), (hw.setCell _ _).setCell _ _⟩
      case measure => simp [intOf]; omega
    · have e : k = n := by omega
      subst e
      go_wp2
      go_ret
      exact ⟨rfl, ⟨cur, hcur, hcs, hck⟩, hw⟩

theorem OwnPart.cell {w : World} {base g cap : Nat} {ys : List Pt} (h : OwnPart w base g cap ys) {i f : Nat} (hi : i < ys.length) (hf : f < 2) : w.cell? ⟨g, i * 2 + f, none⟩ = some (.int .i64 (ptc (ptg ys i) f)) ∧ w.frozen? ⟨g, i * 2 + f, none⟩ = false := by
  refine ⟨by have := h.at_ i hi f hf; rwa [Nat.zero_add] at this, ?_⟩
  rcases h.own.2 with ⟨e, _⟩ | ⟨g', cap', cur, e, hg, hgg, r⟩
  · cases e
  · injection e with e1 _ e3
    injection e1 with e1
    injection e1 with e1 _ _
    subst e1
    exact free_of_blk _ hgg

theorem OwnPart.toB {w : World} {base g cap : Nat} {ys : List Pt} (h : OwnPart w base g cap ys) : PartB w g cap ys.length ys := by
  have hcell : ∀ i, i < ys.length → ∀ c, c < 2 → w.cell? ⟨g, i * 2 + c, none⟩ = some (.int .i64 (ptc (ptg ys i) c)) := fun i hi c hc => (h.cell hi hc).1
  rcases h.own.2 with ⟨e, _⟩ | ⟨g', cap', cur, e, hg, hgg, h1, h2, h3, h4⟩
  · cases e
  · injection e with e1 _ e3
    injection e1 with e1
    injection e1 with e1 _ _
    subst e1 e3
    refine ⟨cur, hgg, h3, fun i hi c hc => ?_⟩
    have := hcell i hi c hc
    simpa [World.cell?, hgg] using this

/-- a list of jobs of the call's own: none, or a row -/
def LPart (w : World) (base : Nat) (v : Option Addr) (n c : Nat) (ys : List Pt) : Prop := n = ys.length ∧ ((v = none ∧ c = 0 ∧ ys = []) ∨ ∃ g, v = some ⟨g, 0, none⟩ ∧ OwnPart w base g c ys)
theorem LPart.of {w : World} {base : Nat} {v : Value} {ys : List Pt} (h : w.ownsRow base 85 2 v ys.length (ptcells ys)) : ∃ a c, v = .slice a ys.length c ∧ LPart w base a ys.length c ys := by
  by_cases hv : v = .slice none 0 0
  · subst hv
    have h0 : ys.length = 0 := by
      rcases h.2 with ⟨_, h0⟩ | ⟨g, cap, cur, e, _⟩
      · exact h0
      · cases e
    have hy := List.length_eq_zero_iff.1 h0
    subst hy
    exact ⟨none, 0, rfl, rfl, Or.inl ⟨rfl, rfl, rfl⟩⟩
  · obtain ⟨g, cap, e, O⟩ := ownPart_of h rfl rfl hv
    exact ⟨_, cap, e, rfl, Or.inr ⟨g, rfl, O⟩⟩
theorem LPart.toS {w : World} {base : Nat} {v : Option Addr} {n c : Nat} {ys : List Pt} (h : LPart w base v n c ys) (wf : ∀ i, i < ys.length → ptwf (ptg ys i)) : PartS w v n c ys := by
  obtain ⟨rfl, ⟨rfl, rfl, rfl⟩ | ⟨g, rfl, O⟩⟩ := h
  · exact PartS.nil_ w
  · exact O.toS wf
theorem LPart.below {w w' : World} {base : Nat} {v : Option Addr} {n c : Nat} {ys : List Pt} (h : LPart w base v n c ys) (hb : Below w.heap.size w w') : LPart w' base v n c ys := by
  obtain ⟨e, h⟩ := h
  refine ⟨e, h.imp id ?_⟩
  rintro ⟨g, e, O⟩
  exact ⟨g, e, O.below hb⟩
theorem LPart.low {w : World} {base base' : Nat} {v : Option Addr} {n c : Nat} {ys : List Pt} (h : LPart w base v n c ys) (hb : base' ≤ base) : LPart w base' v n c ys := by
  obtain ⟨e, h⟩ := h
  refine ⟨e, h.imp id ?_⟩
  rintro ⟨g, e, O⟩
  exact ⟨g, e, O.low hb⟩

end Go.Proofs.YtdgfkcobhhlfbaaGreat
