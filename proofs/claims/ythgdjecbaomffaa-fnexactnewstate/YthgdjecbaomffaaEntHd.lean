/- A call's own entries, held. -/
import Derived.Test.YthgdjecbaomffaaEntMk
namespace Go.Proofs.Ythgdjecbaomffaa
open Go.RowKit Go.Sort

set_option maxHeartbeats 1000000 in
theorem heldPartK_any (B n c : Nat) (k0 : Int) (w : World) (h : PartB w B c n (ptmarks k0 n)) (hnc : n ≤ c) (hn : n ≤ 1048576) (h0 : 0 ≤ k0) (h1 : k0 ≤ 4503599627370496) :
    Calls Try.prog 72 #[.slice (some ⟨B, 0, none⟩) n c, .int .i64 k0] w fun e w' => e = .returned (.int .i64 (k0 + 2 * n)) ∧ w' = w := by
  obtain ⟨cur, hcur, hcs, hck⟩ := h
  go_enter Try.func72, Try.ntmps72
  go_wp2
  go_loop [1, 5] (fun m i => ∃ k : Nat, k ≤ n ∧ i = .int .i64 k ∧ m = .int .i64 (k0 + 2 * k)) (fun _ i => n - (intOf i).toNat)
  case atStart => exact ⟨0, by omega, rfl, by go_num⟩
  case round =>
    obtain ⟨k, hk, rfl, rfl⟩ := hrel
    by_cases hlt : k < n
    · skip
      have g0 : w.cell? ⟨B, k * 2, none⟩ = some (.int .i64 (k0 + 2 * k)) := by have := hck k hlt 0 (by omega); rw [ptmarks_g k0 n k hlt] at this; simp only [ptc, ptmark, Nat.add_zero] at this; rw [← this]; simp [World.cell?, hcur]
      have g1 : w.cell? ⟨B, k * 2 + 1, none⟩ = some (.int .i64 (k0 + 2 * k + 1)) := by have := hck k hlt 1 (by omega); rw [ptmarks_g k0 n k hlt] at this; simp only [ptc, ptmark] at this; rw [← this]; simp [World.cell?, hcur]
      clear hck
      go_wp2
      go_round
      case rel => exact ⟨k + 1, by omega, by go_num, by go_num⟩
      case measure => simp [intOf]; omega
    · have e : k = n := by omega
      subst e
      go_wp2
      go_ret
      exact ⟨rfl, rfl⟩


set_option maxRecDepth 8000 in
set_option maxHeartbeats 4000000 in
theorem heldEntryS_any (base hi B n : Nat) (k0 : Int) (ls : List En) (H : Nat → Option Nat × Nat) (w : World) (h : EntO w base hi B n n (mkE ls k0 n) H) (hl : ls.length = n) (hn : n ≤ 1048576) (hp : ∀ i, i < n → (eng ls i).ps.length ≤ 1048576) (h0 : 0 ≤ k0) (h1 : k0 ≤ 1073741824) :
    Calls Try.prog 48 #[.slice (some ⟨B, 0, none⟩) n n, .int .i64 k0] w fun e w' => e = .returned (.int .i64 (mkTo ls k0 n)) ∧ w' = w := by
  have HBD : Hid (∀ j, j ≤ n → k0 ≤ mkTo ls k0 j ∧ mkTo ls k0 j ≤ k0 + 2097162 * (j : Int)) := fun j hj => mkTo_bd h0 (by rw [hl]; exact hp) j (by omega)
  have HE : Hid (EntO w base hi B n n (mkE ls k0 n) H) := h
  go_enter Try.func48, Try.ntmps48
  go_wp2
  go_loopw [1, 5] (fun m i wr => ∃ j : Nat, j ≤ n ∧ i = .int .i64 j ∧ m = .int .i64 (mkTo ls k0 j) ∧ wr = w) (fun _ i _ => n - (intOf i).toNat)
  case atStart => exact ⟨0, by omega, rfl, rfl, rfl⟩
  case round =>
    obtain ⟨j, hj, rfl, rfl, rfl⟩ := hrel
    rename World => wr
    by_cases hlt : j < n
    · have bd := HBD.out j hj
      have hpj := hp j hlt
      have eq := mkE_g (ls := ls) (k0 := k0) (j := n) (i := j) (by omega)
      rw [if_pos hlt] at eq
      have HTO : Hid (mkTo ls k0 (j + 1) = mkTo ls k0 j + 10 + 2 * ((eng ls j).ps.length : Int)) := rfl
      obtain ⟨cur, hcur, hcs, hck⟩ := HE.out.blk
      obtain ⟨hci, hh⟩ := hck j hlt
      have hkid := HE.out.kid j hlt
      rw [eq] at hci hh hkid
      generalize mkTo ls k0 j = x at bd HTO hci hh hkid ⊢
      have hx0 : 0 ≤ x := by omega
      have hx1 : x ≤ 4398046511104 := by omega
      have hcl : ∀ c, c < 10 → wr.cell? ⟨B, j * 11 + c, none⟩ = some (.int .i64 (x + (c : Int))) := fun c hc => by
        rw [cell_of_row _ _ _ _ _ _ hcur, hci c hc, mkOne_enc _ _ c hc]
      have ch : wr.cell? ⟨B, j * 11 + 10, none⟩ = some (hdr (H j) (eng ls j).ps.length) := by
        rw [cell_of_row _ _ _ _ _ _ hcur, hh]
        show some (hdr (H j) (ptmarks (x + 10) (eng ls j).ps.length).length) = _
        rw [ptmarks_len]

      have g0 : wr.cell? ⟨B, j * 11, none⟩ = some (.int .i64 (x)) := by have := hcl 0 (by omega); rw [show x + ((0 : Nat) : Int) = x by omega] at this; exact this
      have g1 : wr.cell? ⟨B, j * 11 + 1, none⟩ = some (.int .i64 (x + 1)) := by have := hcl 1 (by omega); rw [show x + ((1 : Nat) : Int) = x + 1 by omega] at this; exact this
      have g2 : wr.cell? ⟨B, j * 11 + 2, none⟩ = some (.int .i64 (x + 1 + 1)) := by have := hcl 2 (by omega); rw [show x + ((2 : Nat) : Int) = x + 1 + 1 by omega] at this; exact this
      have g3 : wr.cell? ⟨B, j * 11 + 3, none⟩ = some (.int .i64 (x + 1 + 1 + 1)) := by have := hcl 3 (by omega); rw [show x + ((3 : Nat) : Int) = x + 1 + 1 + 1 by omega] at this; exact this
      have g4 : wr.cell? ⟨B, j * 11 + 4, none⟩ = some (.int .i64 (x + 1 + 1 + 1 + 1)) := by have := hcl 4 (by omega); rw [show x + ((4 : Nat) : Int) = x + 1 + 1 + 1 + 1 by omega] at this; exact this
      have g5 : wr.cell? ⟨B, j * 11 + 5, none⟩ = some (.int .i64 (x + 1 + 1 + 1 + 1 + 1)) := by have := hcl 5 (by omega); rw [show x + ((5 : Nat) : Int) = x + 1 + 1 + 1 + 1 + 1 by omega] at this; exact this
      have g6 : wr.cell? ⟨B, j * 11 + 6, none⟩ = some (.int .i64 (x + 1 + 1 + 1 + 1 + 1 + 1)) := by have := hcl 6 (by omega); rw [show x + ((6 : Nat) : Int) = x + 1 + 1 + 1 + 1 + 1 + 1 by omega] at this; exact this
      have g7 : wr.cell? ⟨B, j * 11 + 7, none⟩ = some (.int .i64 (x + 1 + 1 + 1 + 1 + 1 + 1 + 1)) := by have := hcl 7 (by omega); rw [show x + ((7 : Nat) : Int) = x + 1 + 1 + 1 + 1 + 1 + 1 + 1 by omega] at this; exact this
      have g8 : wr.cell? ⟨B, j * 11 + 8, none⟩ = some (.int .i64 (x + 1 + 1 + 1 + 1 + 1 + 1 + 1 + 1)) := by have := hcl 8 (by omega); rw [show x + ((8 : Nat) : Int) = x + 1 + 1 + 1 + 1 + 1 + 1 + 1 + 1 by omega] at this; exact this
      have g9 : wr.cell? ⟨B, j * 11 + 9, none⟩ = some (.int .i64 (x + 1 + 1 + 1 + 1 + 1 + 1 + 1 + 1 + 1)) := by have := hcl 9 (by omega); rw [show x + ((9 : Nat) : Int) = x + 1 + 1 + 1 + 1 + 1 + 1 + 1 + 1 + 1 by omega] at this; exact this
      clear hcl hck hci hh hcur hcs
      rcases hkid with ⟨a1, a2, a3⟩ | ⟨g, a1, a2, a3, a4, a5, a6, a7⟩
      · have hz : (eng ls j).ps.length = 0 := by have := congrArg List.length a3; rw [show (mkOne (eng ls j) x).ps = ptmarks (x + 10) (eng ls j).ps.length from rfl, ptmarks_len] at this; exact this
        have hd : hdr (H j) (eng ls j).ps.length = .slice none 0 0 := by unfold hdr; rw [a1, a2, hz]; rfl
        rw [hd] at ch
        have HT2 : Hid (mkTo ls k0 (j + 1) = x + 1 + 1 + 1 + 1 + 1 + 1 + 1 + 1 + 1 + 1) := by unfold Hid; rw [HTO.out, hz]; omega
        clear HTO a1 a2 a3
        go_wp2_with (go_at_call 72; refine (heldNilPart_any (x + 1 + 1 + 1 + 1 + 1 + 1 + 1 + 1 + 1 + 1) _).mono ?_; rintro e w' ⟨rfl, hq⟩; have hq' := hq.symm; clear hq; subst hq')
        go_roundw
        case rel => exact ⟨j + 1, by omega, by go_num, by rw [HT2.out], trivial⟩
        case measure => simp [intOf]; omega
      · have hd : hdr (H j) (eng ls j).ps.length = .slice (some ⟨g, 0, none⟩) (eng ls j).ps.length (H j).2 := by unfold hdr; rw [a1]; rfl
        rw [hd] at ch
        have hps : (mkOne (eng ls j) x).ps = ptmarks (x + 1 + 1 + 1 + 1 + 1 + 1 + 1 + 1 + 1 + 1) (eng ls j).ps.length := by show ptmarks (x + 10) _ = _; rw [show x + 10 = x + 1 + 1 + 1 + 1 + 1 + 1 + 1 + 1 + 1 + 1 by omega]
        rw [hps, ptmarks_len] at a5 a6
        have CM := heldPartK_any g (eng ls j).ps.length (H j).2 (x + 1 + 1 + 1 + 1 + 1 + 1 + 1 + 1 + 1 + 1) wr a5 a6 hpj (by omega) (by omega)
        have HT3 : Hid (mkTo ls k0 (j + 1) = x + 1 + 1 + 1 + 1 + 1 + 1 + 1 + 1 + 1 + 1 + 2 * ((eng ls j).ps.length : Int)) := by unfold Hid; rw [HTO.out]; omega
        clear HTO a1 a2 a3 a4 a5 a6 a7 hps
        generalize (eng ls j).ps.length = m at ch CM HT3 hpj
        have hs0 : 0 ≤ x + 1 + 1 + 1 + 1 + 1 + 1 + 1 + 1 + 1 + 1 + 2 * (m : Int) := by omega
        go_wp2_with (go_at_call 72; refine CM.mono ?_; rintro e w' ⟨rfl, hq⟩; have hq' := hq.symm; clear hq; subst hq')
        go_roundw
        case rel => exact ⟨j + 1, by omega, by go_num, by rw [HT3.out], trivial⟩
        case measure => simp [intOf]; omega
    · obtain rfl : j = n := by omega
      have hnn : ¬ (j : Int) < (j : Int) := by omega
      go_wp2
      go_ret
      exact ⟨rfl, rfl⟩

end Go.Proofs.Ythgdjecbaomffaa
