/- A call's own jobs, or none, marked and held. -/
import Derived.Test.YtdgfkcobhhlfbaaGreatStateMk
import Derived.Test.YtdgfkcobhhlfbaaGreatPd
namespace Go.Proofs.YtdgfkcobhhlfbaaGreat
open Go.RowKit Go.Sort

set_option maxHeartbeats 1000000 in
theorem markJC_any (B n c : Nat) (k0 : Int) (ls : List Jb) (w : World) (h : JobB w B c n ls) (hnc : n ≤ c) (hn : n ≤ 1048576) (h0 : 0 ≤ k0) (h1 : k0 ≤ 1073741824) :
    Calls Tryz.prog 11 #[.slice (some ⟨B, 0, none⟩) n c, .int .i64 k0] w fun e w' => e = .returned (.int .i64 (k0 + 7 * n)) ∧ JobB w' B c n (jmarks k0 n) ∧ Only B w w' := by
  go_enter Tryz.func11, Tryz.ntmps11
  go_wp2
  go_loopw [1, 5] (fun m i wr => ∃ k : Nat, k ≤ n ∧ i = .int .i64 k ∧ m = .int .i64 (k0 + 7 * k) ∧ JobB wr B c k (jmarks k0 n) ∧ Only B w wr) (fun _ i _ => n - (intOf i).toNat)
  case atStart =>
    obtain ⟨cur, hcur, hcs, _⟩ := h
    exact ⟨0, by omega, rfl, by go_num, ⟨cur, hcur, hcs, fun i hi => by omega⟩, Only.refl _ _⟩
  case round =>
    obtain ⟨k, hk, rfl, rfl, ⟨cur, hcur, hcs, hck⟩, hw⟩ := hrel
    by_cases hlt : k < n
    · have HG := jmarks_g k0 n k hlt
      have g0 := cell_of_blk (k * 7) hcur (by omega)
      have f0 := free_of_blk (k * 7) hcur
      have g1 := cell_of_blk (k * 7 + 1) hcur (by omega)
      have f1 := free_of_blk (k * 7 + 1) hcur
      have g2 := cell_of_blk (k * 7 + 2) hcur (by omega)
      have f2 := free_of_blk (k * 7 + 2) hcur
      have g3 := cell_of_blk (k * 7 + 3) hcur (by omega)
      have f3 := free_of_blk (k * 7 + 3) hcur
      have g4 := cell_of_blk (k * 7 + 4) hcur (by omega)
      have f4 := free_of_blk (k * 7 + 4) hcur
      have g5 := cell_of_blk (k * 7 + 5) hcur (by omega)
      have f5 := free_of_blk (k * 7 + 5) hcur
      have g6 := cell_of_blk (k * 7 + 6) hcur (by omega)
      have f6 := free_of_blk (k * 7 + 6) hcur
      go_wp2
      go_roundw
      case rel => exact ⟨k + 1, by omega, by go_num, by go_num, JobB.step hcur hcs (Nat.lt_of_lt_of_le hlt hnc) hck (by rw [HG]; unfold jmark; congr 1 <;> omega), ((((((hw.setCell _ _).setCell _ _).setCell _ _).setCell _ _).setCell _ _).setCell _ _).setCell _ _⟩
      case measure => simp [intOf]; omega
    · have e : k = n := by omega
      subst e
      go_wp2
      go_ret
      exact ⟨rfl, ⟨cur, hcur, hcs, hck⟩, hw⟩

set_option maxHeartbeats 1000000 in
theorem heldJC_any (B n c : Nat) (k0 : Int) (w : World) (h : JobB w B c n (jmarks k0 n)) (hnc : n ≤ c) (hn : n ≤ 1048576) (h0 : 0 ≤ k0) (h1 : k0 ≤ 1073741824) :
    Calls Tryz.prog 12 #[.slice (some ⟨B, 0, none⟩) n c, .int .i64 k0] w fun e w' => e = .returned (.int .i64 (k0 + 7 * n)) ∧ w' = w := by
  obtain ⟨cur, hcur, hcs, hck⟩ := h
  go_enter Tryz.func12, Tryz.ntmps12
  go_wp2
  go_loop [1, 5] (fun m i => ∃ k : Nat, k ≤ n ∧ i = .int .i64 k ∧ m = .int .i64 (k0 + 7 * k)) (fun _ i => n - (intOf i).toNat)
  case atStart => exact ⟨0, by omega, rfl, by go_num⟩
  case round =>
    obtain ⟨k, hk, rfl, rfl⟩ := hrel
    by_cases hlt : k < n
    · skip
      have g0 : w.cell? ⟨B, k * 7, none⟩ = some (.int .i64 (k0 + 7 * k)) := by have := hck k hlt 0 (by omega); rw [jmarks_g k0 n k hlt] at this; simp only [jc, jmark, Nat.add_zero] at this; rw [← this]; simp [World.cell?, hcur]
      have g1 : w.cell? ⟨B, k * 7 + 1, none⟩ = some (.int .i64 (k0 + 7 * k + 1)) := by have := hck k hlt 1 (by omega); rw [jmarks_g k0 n k hlt] at this; simp only [jc, jmark] at this; rw [← this]; simp [World.cell?, hcur]
      have g2 : w.cell? ⟨B, k * 7 + 2, none⟩ = some (.int .i64 (k0 + 7 * k + 2)) := by have := hck k hlt 2 (by omega); rw [jmarks_g k0 n k hlt] at this; simp only [jc, jmark] at this; rw [← this]; simp [World.cell?, hcur]
      have g3 : w.cell? ⟨B, k * 7 + 3, none⟩ = some (.int .i64 (k0 + 7 * k + 3)) := by have := hck k hlt 3 (by omega); rw [jmarks_g k0 n k hlt] at this; simp only [jc, jmark] at this; rw [← this]; simp [World.cell?, hcur]
      have g4 : w.cell? ⟨B, k * 7 + 4, none⟩ = some (.int .i64 (k0 + 7 * k + 4)) := by have := hck k hlt 4 (by omega); rw [jmarks_g k0 n k hlt] at this; simp only [jc, jmark] at this; rw [← this]; simp [World.cell?, hcur]
      have g5 : w.cell? ⟨B, k * 7 + 5, none⟩ = some (.int .i64 (k0 + 7 * k + 5)) := by have := hck k hlt 5 (by omega); rw [jmarks_g k0 n k hlt] at this; simp only [jc, jmark] at this; rw [← this]; simp [World.cell?, hcur]
      have g6 : w.cell? ⟨B, k * 7 + 6, none⟩ = some (.int .i64 (k0 + 7 * k + 6)) := by have := hck k hlt 6 (by omega); rw [jmarks_g k0 n k hlt] at this; simp only [jc, jmark] at this; rw [← this]; simp [World.cell?, hcur]
      clear hck
      go_wp2
      go_round
      case rel => exact ⟨k + 1, by omega, by go_num, by go_num⟩
      case measure => simp [intOf]; omega
    · have e : k = n := by omega
      subst e
      go_wp2
      go_ret
      exact ⟨rfl, rfl⟩

theorem OwnJ.toBJ {w : World} {base g cap : Nat} {ys : List Jb} (h : OwnJ w base g cap ys) : JobB w g cap ys.length ys := by
  have hcell : ∀ i, i < ys.length → ∀ c, c < 7 → w.cell? ⟨g, i * 7 + c, none⟩ = some (.int .i64 (jc (jg ys i) c)) := fun i hi c hc => by have := h.at_ i hi c hc; rwa [Nat.zero_add] at this
  rcases h.own.2 with ⟨e, _⟩ | ⟨g', cap', cur, e, hg, hgg, h1, h2, h3, h4⟩
  · cases e
  · injection e with e1 _ e3
    injection e1 with e1
    injection e1 with e1 _ _
    subst e1 e3
    refine ⟨cur, hgg, h3, fun i hi c hc => ?_⟩
    have := hcell i hi c hc
    simpa [World.cell?, hgg] using this

theorem OwnJ.keepJ {w w' : World} {base g cap : Nat} {ys : List Jb} (h : OwnJ w base g cap ys) (hb : w'.heap[g]? = w.heap[g]?) (hs : w.heap.size ≤ w'.heap.size) : OwnJ w' base g cap ys := by
  refine ⟨⟨h.own.1, ?_⟩, h.le, h.mx, h.base, Nat.lt_of_lt_of_le h.lt hs⟩
  rcases h.own.2 with ⟨e, _⟩ | ⟨g', cap', cur, e, hg, hgg, r⟩
  · cases e
  · have e2 := e
    injection e2 with e1 _ _
    injection e1 with e1
    injection e1 with e1 _ _
    subst e1
    exact .inr ⟨g, cap', cur, e, hg, hb.trans hgg, r⟩
def LJb (w : World) (base : Nat) (v : Option Addr) (n c : Nat) (ys : List Jb) : Prop := n = ys.length ∧ ((v = none ∧ c = 0 ∧ ys = []) ∨ ∃ g, v = some ⟨g, 0, none⟩ ∧ OwnJ w base g c ys)
theorem LJb.toS {w : World} {base : Nat} {v : Option Addr} {n c : Nat} {ys : List Jb} (h : LJb w base v n c ys) (wf : ∀ i, i < ys.length → jwf (jg ys i)) : JobS w v n c ys := by
  obtain ⟨rfl, ⟨rfl, rfl, rfl⟩ | ⟨g, rfl, O⟩⟩ := h
  · exact JobS.nil_ w
  · exact O.toS wf
theorem LJb.below {w w' : World} {base : Nat} {v : Option Addr} {n c : Nat} {ys : List Jb} (h : LJb w base v n c ys) (hb : Below w.heap.size w w') : LJb w' base v n c ys := by
  obtain ⟨e, h⟩ := h
  refine ⟨e, h.imp id ?_⟩
  rintro ⟨g, e, O⟩
  exact ⟨g, e, O.below hb⟩
theorem LJb.keepB {w w' : World} {base : Nat} {v : Option Addr} {n c : Nat} {ys : List Jb} (h : LJb w base v n c ys) (hb : ∀ g, base ≤ g → g < w.heap.size → w'.heap[g]? = w.heap[g]?) (hs : w.heap.size ≤ w'.heap.size) : LJb w' base v n c ys := by
  obtain ⟨e, h⟩ := h
  refine ⟨e, h.imp id ?_⟩
  rintro ⟨g, e, O⟩
  exact ⟨g, e, O.keepJ (hb g O.base O.lt) hs⟩
def JHeld (w : World) (v : Option Addr) (n c : Nat) (k0 : Int) : Prop := (v = none ∧ n = 0 ∧ c = 0) ∨ ∃ g, v = some ⟨g, 0, none⟩ ∧ n ≤ c ∧ JobB w g c n (jmarks k0 n)
theorem JHeld.below {w w' : World} {v : Option Addr} {n c : Nat} {k0 : Int} (h : JHeld w v n c k0) (hb : Below w.heap.size w w') : JHeld w' v n c k0 := by
  refine h.imp id ?_
  rintro ⟨g, e, hn, cur, h1, h2⟩
  exact ⟨g, e, hn, cur, (hb.block g (lt_of_block h1)).trans h1, h2⟩
theorem markLJb_any (base : Nat) (v : Option Addr) (n c : Nat) (k0 : Int) (ys : List Jb) (w : World) (h : LJb w base v n c ys) (hn : n ≤ 1048576) (h0 : 0 ≤ k0) (h1 : k0 ≤ 1073741824) :
    Calls Tryz.prog 11 #[.slice v n c, .int .i64 k0] w fun e w' => e = .returned (.int .i64 (k0 + 7 * (n : Int))) ∧ JHeld w' v n c k0 ∧ Below base w w' := by
  obtain ⟨rfl, ⟨rfl, rfl, rfl⟩ | ⟨g, rfl, O⟩⟩ := h
  · refine (markNilJ_any k0 w).mono ?_
    rintro e w' ⟨rfl, rfl⟩
    exact ⟨by simp, Or.inl ⟨rfl, rfl, rfl⟩, Below.refl _ _⟩
  · refine (markJC_any g ys.length c k0 ys w O.toBJ O.le hn h0 h1).mono ?_
    rintro e w' ⟨rfl, hm, ho⟩
    exact ⟨rfl, Or.inr ⟨g, rfl, O.le, hm⟩, ho.below O.base⟩
theorem heldLJb_any (v : Option Addr) (n c : Nat) (k0 : Int) (w : World) (h : JHeld w v n c k0) (hn : n ≤ 1048576) (h0 : 0 ≤ k0) (h1 : k0 ≤ 1073741824) :
    Calls Tryz.prog 12 #[.slice v n c, .int .i64 k0] w fun e w' => e = .returned (.int .i64 (k0 + 7 * (n : Int))) ∧ w' = w := by
  rcases h with ⟨rfl, rfl, rfl⟩ | ⟨g, rfl, hnc, hB⟩
  · refine (heldNilJ_any k0 w).mono ?_
    rintro e w' ⟨rfl, rfl⟩
    exact ⟨by simp, rfl⟩
  · exact heldJC_any g n c k0 w hB hnc hn h0 h1

end Go.Proofs.YtdgfkcobhhlfbaaGreat
