/- Hodgson of the program; marks in a row with room. -/
import Derived.Test.YtnbeaeekfahijaaHodI
namespace Go.Proofs.Ytnbeaeekfahijaa
open Go.RowKit Go.Sort

set_option maxHeartbeats 1000000 in
theorem markC_any (B n c : Nat) (k0 : Int) (ls : List Jb) (w : World) (h : JobB w B c n ls) (hnc : n ≤ c) (hn : n ≤ 1048576) (h0 : 0 ≤ k0) (h1 : k0 ≤ 1073741824) :
    Calls Try.prog 36 #[.slice (some ⟨B, 0, none⟩) n c, .int .i64 k0] w fun e w' => e = .returned (.int .i64 (k0 + 7 * n)) ∧ JobB w' B c n (jmarks k0 n) ∧ Only B w w' := by
  go_enter Try.func36, Try.ntmps36
  go_wp2
  go_loopw [1, 5] (fun m i wr => ∃ k : Nat, k ≤ n ∧ i = .int .i64 k ∧ m = .int .i64 (k0 + 7 * k) ∧ JobB wr B c k (jmarks k0 n) ∧ Only B w wr) (fun _ i _ => n - (intOf i).toNat)
  case atStart =>
    obtain ⟨cur, hcur, hcs, _⟩ := h
    exact ⟨0, by omega, rfl, by go_num, ⟨cur, hcur, hcs, fun i hi => by omega⟩, Only.refl _ _⟩
  case round =>
    obtain ⟨k, hk, rfl, rfl, ⟨cur, hcur, hcs, hck⟩, hw⟩ := hrel
    by_cases hlt : k < n
    · have HG := jmarks_g k0 n k hlt
      have g0 := cell_of_blk (k * 7) hcur (by omega)
      have f0 := free_of_blk (k * 7) hcur
      have g1 := cell_of_blk (k * 7 + 1) hcur (by omega)
      have f1 := free_of_blk (k * 7 + 1) hcur
      have g2 := cell_of_blk (k * 7 + 2) hcur (by omega)
      have f2 := free_of_blk (k * 7 + 2) hcur
      have g3 := cell_of_blk (k * 7 + 3) hcur (by omega)
      have f3 := free_of_blk (k * 7 + 3) hcur
      have g4 := cell_of_blk (k * 7 + 4) hcur (by omega)
      have f4 := free_of_blk (k * 7 + 4) hcur
      have g5 := cell_of_blk (k * 7 + 5) hcur (by omega)
      have f5 := free_of_blk (k * 7 + 5) hcur
      have g6 := cell_of_blk (k * 7 + 6) hcur (by omega)
      have f6 := free_of_blk (k * 7 + 6) hcur
      go_wp2
      go_roundw
      case rel => exact ⟨k + 1, by omega, by go_num, by go_num, JobB.step hcur hcs (Nat.lt_of_lt_of_le hlt hnc) hck (by rw [HG]; unfold jmark; congr 1 <;> omega), ((((((hw.setCell _ _).setCell _ _).setCell _ _).setCell _ _).setCell _ _).setCell _ _).setCell _ _⟩
      case measure => simp [intOf]; omega
    · have e : k = n := by omega
      subst e
      go_wp2
      go_ret
      exact ⟨rfl, ⟨cur, hcur, hcs, hck⟩, hw⟩

set_option maxHeartbeats 1000000 in
theorem heldC_any (B n c : Nat) (k0 : Int) (w : World) (h : JobB w B c n (jmarks k0 n)) (hnc : n ≤ c) (hn : n ≤ 1048576) (h0 : 0 ≤ k0) (h1 : k0 ≤ 1073741824) :
    Calls Try.prog 37 #[.slice (some ⟨B, 0, none⟩) n c, .int .i64 k0] w fun e w' => e = .returned (.int .i64 (k0 + 7 * n)) ∧ w' = w := by
  obtain ⟨cur, hcur, hcs, hck⟩ := h
  go_enter Try.func37, Try.ntmps37
  go_wp2
  go_loop [1, 5] (fun m i => ∃ k : Nat, k ≤ n ∧ i = .int .i64 k ∧ m = .int .i64 (k0 + 7 * k)) (fun _ i => n - (intOf i).toNat)
  case atStart => exact ⟨0, by omega, rfl, by go_num⟩
  case round =>
    obtain ⟨k, hk, rfl, rfl⟩ := hrel
    by_cases hlt : k < n
    · skip
      have g0 : w.cell? ⟨B, k * 7, none⟩ = some (.int .i64 (k0 + 7 * k)) := by have := hck k hlt 0 (by omega); rw [jmarks_g k0 n k hlt] at this; simp only [jc, jmark, Nat.add_zero] at this; rw [← this]; simp [World.cell?, hcur]
      have g1 : w.cell? ⟨B, k * 7 + 1, none⟩ = some (.int .i64 (k0 + 7 * k + 1)) := by have := hck k hlt 1 (by omega); rw [jmarks_g k0 n k hlt] at this; simp only [jc, jmark] at this; rw [← this]; simp [World.cell?, hcur]
      have g2 : w.cell? ⟨B, k * 7 + 2, none⟩ = some (.int .i64 (k0 + 7 * k + 2)) := by have := hck k hlt 2 (by omega); rw [jmarks_g k0 n k hlt] at this; simp only [jc, jmark] at this; rw [← this]; simp [World.cell?, hcur]
      have g3 : w.cell? ⟨B, k * 7 + 3, none⟩ = some (.int .i64 (k0 + 7 * k + 3)) := by have := hck k hlt 3 (by omega); rw [jmarks_g k0 n k hlt] at this; simp only [jc, jmark] at this; rw [← this]; simp [World.cell?, hcur]
      have g4 : w.cell? ⟨B, k * 7 + 4, none⟩ = some (.int .i64 (k0 + 7 * k + 4)) := by have := hck k hlt 4 (by omega); rw [jmarks_g k0 n k hlt] at this; simp only [jc, jmark] at this; rw [← this]; simp [World.cell?, hcur]
      have g5 : w.cell? ⟨B, k * 7 + 5, none⟩ = some (.int .i64 (k0 + 7 * k + 5)) := by have := hck k hlt 5 (by omega); rw [jmarks_g k0 n k hlt] at this; simp only [jc, jmark] at this; rw [← this]; simp [World.cell?, hcur]
      have g6 : w.cell? ⟨B, k * 7 + 6, none⟩ = some (.int .i64 (k0 + 7 * k + 6)) := by have := hck k hlt 6 (by omega); rw [jmarks_g k0 n k hlt] at this; simp only [jc, jmark] at this; rw [← this]; simp [World.cell?, hcur]
      clear hck
      go_wp2
      go_round
      case rel => exact ⟨k + 1, by omega, by go_num, by go_num⟩
      case measure => simp [intOf]; omega
    · have e : k = n := by omega
      subst e
      go_wp2
      go_ret
      exact ⟨rfl, rfl⟩

theorem OwnJ.toB {w : World} {base g cap : Nat} {ys : List Jb} (h : OwnJ w base g cap ys) : JobB w g cap ys.length ys := by
  have hcell : ∀ i, i < ys.length → ∀ c, c < 7 → w.cell? ⟨g, i * 7 + c, none⟩ = some (.int .i64 (jc (jg ys i) c)) := fun i hi c hc => (h.cell hi hc).1
  rcases h.own.2 with ⟨e, _⟩ | ⟨g', cap', cur, e, hg, hgg, h1, h2, h3, h4⟩
  · cases e
  · injection e with e1 _ e3
    injection e1 with e1
    injection e1 with e1 _ _
    subst e1 e3
    refine ⟨cur, hgg, h3, fun i hi c hc => ?_⟩
    have := hcell i hi c hc
    simpa [World.cell?, hgg] using this

theorem JobB.cells {w : World} {B n : Nat} {ys : List Jb} (h : JobB w B n n ys) (hl : ys.length = n) : ∀ j u, (jcells ys)[j]? = some u → w.cell? ((⟨B, 0, none⟩ : Addr).add j) = some u := by
  intro j u hj
  obtain ⟨cur, h1, h2, h3⟩ := h
  obtain ⟨k1, rfl⟩ := jcells_get hj
  have hadd : (⟨B, 0, none⟩ : Addr).add j = ⟨B, j, none⟩ := by unfold Addr.add; split <;> simp_all
  rw [hadd]
  have := h3 (j / 7) (by omega) (j % 7) (by omega)
  rw [show j / 7 * 7 + j % 7 = j by omega] at this
  simp [World.cell?, h1, this]

/-- a list of jobs of the call's own: none, or a row -/
def LJ (w : World) (base : Nat) (v : Option Addr) (n c : Nat) (ys : List Jb) : Prop := n = ys.length ∧ ((v = none ∧ c = 0 ∧ ys = []) ∨ ∃ g, v = some ⟨g, 0, none⟩ ∧ OwnJ w base g c ys)
theorem LJ.of {w : World} {base : Nat} {v : Value} {ys : List Jb} (h : w.ownsRow base 31 7 v ys.length (jcells ys)) : ∃ a c, v = .slice a ys.length c ∧ LJ w base a ys.length c ys := by
  by_cases hv : v = .slice none 0 0
  · subst hv
    have h0 : ys.length = 0 := by
      rcases h.2 with ⟨_, h0⟩ | ⟨g, cap, cur, e, _⟩
      · exact h0
      · cases e
    have hy := List.length_eq_zero_iff.1 h0
    subst hy
    exact ⟨none, 0, rfl, rfl, Or.inl ⟨rfl, rfl, rfl⟩⟩
  · obtain ⟨g, cap, e, O⟩ := ownJ_of h rfl rfl hv
    exact ⟨_, cap, e, rfl, Or.inr ⟨g, rfl, O⟩⟩
theorem LJ.toS {w : World} {base : Nat} {v : Option Addr} {n c : Nat} {ys : List Jb} (h : LJ w base v n c ys) (wf : ∀ i, i < ys.length → jwf (jg ys i)) : JobS w v n c ys := by
  obtain ⟨rfl, ⟨rfl, rfl, rfl⟩ | ⟨g, rfl, O⟩⟩ := h
  · exact JobS.nil_ w
  · exact O.toS wf
theorem LJ.below {w w' : World} {base : Nat} {v : Option Addr} {n c : Nat} {ys : List Jb} (h : LJ w base v n c ys) (hb : Below w.heap.size w w') : LJ w' base v n c ys := by
  obtain ⟨e, h⟩ := h
  refine ⟨e, h.imp id ?_⟩
  rintro ⟨g, e, O⟩
  exact ⟨g, e, O.below hb⟩
theorem LJ.low {w : World} {base base' : Nat} {v : Option Addr} {n c : Nat} {ys : List Jb} (h : LJ w base v n c ys) (hb : base' ≤ base) : LJ w base' v n c ys := by
  obtain ⟨e, h⟩ := h
  refine ⟨e, h.imp id ?_⟩
  rintro ⟨g, e, O⟩
  exact ⟨g, e, O.low hb⟩

theorem wf_sub {ls ys : List Jb} (h : ∀ x ∈ ys, x ∈ ls) (wf : ∀ i, i < ls.length → jwf (jg ls i)) : ∀ i, i < ys.length → jwf (jg ys i) := by
  intro i hi
  obtain ⟨q, hq, e⟩ := List.getElem_of_mem (h _ (show jg ys i ∈ ys by rw [jg_get hi]; exact List.getElem_mem hi))
  rw [← e, ← jg_get hq]; exact wf q hq

set_option maxRecDepth 8000 in
set_option maxHeartbeats 4000000 in
theorem implHodgson_yes (a : Option Addr) (n cap : Nat) (ls : List Jb) (w : World) (h : JobS w a n cap ls) (hq : jsB ls = true) :
    Calls Try.prog 25 #[.slice a n cap] w fun e w' => ∃ v c ys, e = .returned (.slice v ys.length c) ∧ LJ w' w.heap.size v ys.length c ys ∧ IsHod ls ys ∧ Below w.heap.size w w' := by
  obtain ⟨i1, hji, hj0, hj1, hj2⟩ := info_parts infoJ
  have hlen := h.len
  go_enter Try.func25, Try.ntmps25
  go_wp2_with fail
  refine (implJackson_yes a n cap ls _ h hq).mono ?_
  rintro e w1 ⟨B, E, rfl, hB, hJ, hEl, hE, hb1⟩
  have hn40 : n ≤ 40 := by have := (jsB_t hq).n; omega
  have hEp := (hE.perm hq).1
  have hj := (jsB_t hq).perm hEp
  have wfE : ∀ i, i < E.length → jwf (jg E i) := wf_sub (fun x hx => hEp.subset hx) (fun i hi => h.wf i (by omega))
  have hS : JobS w1 (some ⟨B, 0, none⟩) n n E := hJ.toS hEl (by omega) (fun i hi => wfE i (by omega))
  have hfin : ∀ K R R', HSt E E.length K R → IsBy ltDue R R' → IsHod ls (K ++ R') := fun K R R' h1 h2 => Or.inr ⟨hq, E, K, R, R', hE, h1, h2, rfl⟩
  go_wp2_with fail
  refine (parted_any _ n n E _ hS hj).mono ?_
  rintro e w2 ⟨l, r, K, R, rfl, hst, OL, OR, hD, hb2⟩
  have hjR := (hst.jsK hj (Nat.le_refl _)).2.1
  have hkl := hst.len (Nat.le_refl _)
  have hE40 := hj.n
  have hRE : ∀ x ∈ R, x ∈ E := fun x hx => by
    have := (hst.perm (Nat.le_refl _)).subset (List.mem_append_right _ hx)
    rwa [List.take_length] at this
  obtain ⟨ar, cr, rfl, LR⟩ := LJ.of OR
  have SR := LR.toS (wf_sub hRE wfE)
  have hb12 := hb1.then hb2 hb1.size
  go_wp2_with fail
  refine (implJackson_yes ar R.length cr R _ SR (jsB_mk hjR)).mono ?_
  rintro e w3 ⟨B3, R', rfl, hB3, hJ3, hRl, hR', hb3⟩
  have OL3 := ownR_below OL hb3
  have z1 := hb1.size
  have z2 := hb2.size
  have z3 := hb3.size
  have hcl := hJ3.cells hRl
  have hjl : (jcells R').length = R.length * 7 := by rw [jcells_len, hRl]
  have hKR : K.length + R.length ≤ 40 := by omega
  clear hkl
  go_wp2_with (at_builtin; refine wpList_append_own_at _ rfl (.tmp 11) (.tmp 13) 24 rfl w1.heap.size 31 i1 (.agg #[.int .i64 0, .int .i64 0, .int .i64 0, .int .i64 0, .int .i64 0, .int .i64 0, .int .i64 0]) 7 56 Try.underlying24 hji hj0 hj1 hj2 rfl (by decide) _ _ _ rfl OL3 ⟨B3, 0, none⟩ R.length R.length (jcells R') rfl hjl hcl (jcells_one _) (by unfold maxLen; omega) (by omega) (by omega) ?_)
  intro v4 w4 own4 grow4 nil4 at4
  have hkr : K.length + R.length = (K ++ R').length := by simp [hRl]
  obtain ⟨ys, hys⟩ : ∃ ys, ys = K ++ R' := ⟨_, rfl⟩
  have own5 : w4.ownsRow w1.heap.size 31 7 v4 ys.length (jcells ys) := by rw [hys, ← hkr, jcells_app]; exact own4
  have hH : IsHod ls ys := by rw [hys]; exact hfin K R R' hst hR'
  obtain ⟨v, c, rfl, L5⟩ := LJ.of own5
  have B4 : Below w.heap.size w w4 := (hb12.trans (hb3.mono (by omega))).grown grow4 (by omega) (fun g hg => by have := (ownR_lt OL hg).1; omega)
  have HL5 : Hid _ := L5.low z1
  have HL6 : Hid (LJ w4 w.heap.size v ys.length c ys) := HL5.out
  clear own4 own5 grow4 nil4 at4 hkr L5 hys HL5 hfin
  go_wp2
  go_ret
  exact ⟨v, c, ys, rfl, HL6.out, hH, B4⟩

set_option maxRecDepth 8000 in
set_option maxHeartbeats 4000000 in
theorem implHodgson_no (a : Option Addr) (n cap : Nat) (ls : List Jb) (w : World) (h : JobS w a n cap ls) (hq : jsB ls = false) :
    Calls Try.prog 25 #[.slice a n cap] w fun e w' => ∃ v c ys, e = .returned (.slice v ys.length c) ∧ LJ w' w.heap.size v ys.length c ys ∧ IsHod ls ys ∧ Below w.heap.size w w' := by
  obtain ⟨i1, hji, hj0, hj1, hj2⟩ := info_parts infoJ
  have hlen := h.len
  go_enter Try.func25, Try.ntmps25
  go_wp2_with fail
  refine (implJackson_no a n cap ls _ h hq).mono ?_
  rintro e w1 ⟨rfl, hb1⟩
  obtain ⟨E, hE0⟩ : ∃ E : List Jb, E = [] := ⟨_, rfl⟩
  have hj : JsOk E := by subst hE0; exact jsB_t js_nil
  have wfE : ∀ i, i < E.length → jwf (jg E i) := by subst hE0; intro i hi; simp at hi
  have hS : JobS w1 none 0 0 E := by subst hE0; exact JobS.nil_ w1
  have hfin : ∀ K R R', HSt E E.length K R → IsBy ltDue R R' → IsHod ls (K ++ R') := fun K R R' h1 h2 => by
    subst hE0
    obtain ⟨rfl, rfl⟩ := h1
    have := (h2.perm js_nil).1.length_eq
    exact Or.inl ⟨hq, List.length_eq_zero_iff.1 (by simpa using this)⟩
  clear hE0
  go_wp2_with fail
  refine (parted_any _ 0 0 E _ hS hj).mono ?_
  rintro e w2 ⟨l, r, K, R, rfl, hst, OL, OR, hD, hb2⟩
  have hjR := (hst.jsK hj (Nat.le_refl _)).2.1
  have hkl := hst.len (Nat.le_refl _)
  have hE40 := hj.n
  have hRE : ∀ x ∈ R, x ∈ E := fun x hx => by
    have := (hst.perm (Nat.le_refl _)).subset (List.mem_append_right _ hx)
    rwa [List.take_length] at this
  obtain ⟨ar, cr, rfl, LR⟩ := LJ.of OR
  have SR := LR.toS (wf_sub hRE wfE)
  have hb12 := hb1.then hb2 hb1.size
  go_wp2_with fail
  refine (implJackson_yes ar R.length cr R _ SR (jsB_mk hjR)).mono ?_
  rintro e w3 ⟨B3, R', rfl, hB3, hJ3, hRl, hR', hb3⟩
  have OL3 := ownR_below OL hb3
  have z1 := hb1.size
  have z2 := hb2.size
  have z3 := hb3.size
  have hcl := hJ3.cells hRl
  have hjl : (jcells R').length = R.length * 7 := by rw [jcells_len, hRl]
  have hKR : K.length + R.length ≤ 40 := by omega
  clear hkl
  go_wp2_with (at_builtin; refine wpList_append_own_at _ rfl (.tmp 11) (.tmp 13) 24 rfl w1.heap.size 31 i1 (.agg #[.int .i64 0, .int .i64 0, .int .i64 0, .int .i64 0, .int .i64 0, .int .i64 0, .int .i64 0]) 7 56 Try.underlying24 hji hj0 hj1 hj2 rfl (by decide) _ _ _ rfl OL3 ⟨B3, 0, none⟩ R.length R.length (jcells R') rfl hjl hcl (jcells_one _) (by unfold maxLen; omega) (by omega) (by omega) ?_)
  intro v4 w4 own4 grow4 nil4 at4
  have hkr : K.length + R.length = (K ++ R').length := by simp [hRl]
  obtain ⟨ys, hys⟩ : ∃ ys, ys = K ++ R' := ⟨_, rfl⟩
  have own5 : w4.ownsRow w1.heap.size 31 7 v4 ys.length (jcells ys) := by rw [hys, ← hkr, jcells_app]; exact own4
  have hH : IsHod ls ys := by rw [hys]; exact hfin K R R' hst hR'
  obtain ⟨v, c, rfl, L5⟩ := LJ.of own5
  have B4 : Below w.heap.size w w4 := (hb12.trans (hb3.mono (by omega))).grown grow4 (by omega) (fun g hg => by have := (ownR_lt OL hg).1; omega)
  have HL5 : Hid _ := L5.low z1
  have HL6 : Hid (LJ w4 w.heap.size v ys.length c ys) := HL5.out
  clear own4 own5 grow4 nil4 at4 hkr L5 hys HL5 hfin
  go_wp2
  go_ret
  exact ⟨v, c, ys, rfl, HL6.out, hH, B4⟩

end Go.Proofs.Ytnbeaeekfahijaa
