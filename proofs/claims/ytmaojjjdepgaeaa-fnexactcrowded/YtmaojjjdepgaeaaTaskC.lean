/- Crowded of the model. -/
import Derived.Test.YtmaojjjdepgaeaaTaskS
namespace Go.Proofs.Ytmaojjjdepgaeaa
open Go.RowKit Go.Sort

/-- from a to b, somebody's At and somebody's Due, there is more to do than there is time -/
def Crwd (ls : List Jb) (a b : Int) : Prop := (∃ i, i < ls.length ∧ (jg ls i).at_ = a) ∧ (∃ i, i < ls.length ∧ (jg ls i).due = b) ∧ max 0 (b - a) < demV ls a b
/-- what Crowded tells -/
def IsCrw (ls : List Jb) (x y : Int) (t : Bool) : Prop :=
  (tsB ls = false ∧ x = 0 ∧ y = 0 ∧ t = false) ∨
  (tsB ls = true ∧ ((t = false ∧ x = 0 ∧ y = 0 ∧ ∀ a b, ¬ Crwd ls a b) ∨ (t = true ∧ Crwd ls x y ∧ ∀ a b, Crwd ls a b → x < a ∨ (x = a ∧ y ≤ b))))
theorem IsCrw.uniq {ls : List Jb} {x y x' y' : Int} {t t' : Bool} (h : IsCrw ls x y t) (g : IsCrw ls x' y' t') : x = x' ∧ y = y' ∧ t = t' := by
  rcases h with ⟨h0, rfl, rfl, rfl⟩ | ⟨h0, h⟩
  · rcases g with ⟨_, rfl, rfl, rfl⟩ | ⟨g0, _⟩
    · exact ⟨rfl, rfl, rfl⟩
    · rw [h0] at g0; cases g0
  · rcases g with ⟨g0, _⟩ | ⟨_, g⟩
    · rw [h0] at g0; cases g0
    · rcases h with ⟨rfl, rfl, rfl, h1⟩ | ⟨rfl, h1, h2⟩
      · rcases g with ⟨rfl, rfl, rfl, _⟩ | ⟨rfl, g1, _⟩
        · exact ⟨rfl, rfl, rfl⟩
        · exact absurd g1 (h1 _ _)
      · rcases g with ⟨rfl, rfl, rfl, g1⟩ | ⟨rfl, g1, g2⟩
        · exact absurd h1 (g1 _ _)
        · have e1 := h2 _ _ g1
          have e2 := g2 _ _ h1
          exact ⟨by omega, by omega, rfl⟩

set_option maxRecDepth 8000 in
set_option maxHeartbeats 4000000 in
theorem specCrowded_any (a : Option Addr) (n cap : Nat) (ls : List Jb) (w : World) (h : JobS w a n cap ls) :
    Calls Try.prog 33 #[.slice a n cap] w fun e w' => ∃ (x y : Int) (t : Bool), e = .returned (.tuple #[.int .i64 x, .int .i64 y, .bool t]) ∧ IsCrw ls x y t ∧ Below w.heap.size w w' := by
  have hm := h.mx
  have hle := h.le
  have hlen := h.len
  unfold maxLen at hm
  rcases hq : tsB ls with _ | _
  · go_enter Try.func33, Try.ntmps33
    go_wp2_with (go_at_call 40; refine (specTasksOk_any _ _ _ _ _ h).mono ?_; rw [hq]; rintro e w1 ⟨rfl, hb1⟩)
    exact bodyPost_ret (v := .tuple #[.int .i64 0, .int .i64 0, .bool false]) (by simp [results, Try.results33, go_sem]) rfl ⟨0, 0, false, rfl, Or.inl ⟨hq, rfl, rfl, rfl⟩, hb1⟩
  have ho := tsB_t hq
  have hn := ho.n
  have hbd : Hid (∀ x y, Crwd ls x y → 0 ≤ x ∧ x ≤ 200 ∧ 0 ≤ y ∧ y ≤ 200) := fun x y hc => by
    obtain ⟨⟨i, hi, e⟩, ⟨j, hj, e2⟩, _⟩ := hc
    have := ho.bd hi; have := ho.bd hj
    omega
  go_enter Try.func33, Try.ntmps33
  go_wp2_with (go_at_call 40; refine (specTasksOk_any _ _ _ _ _ h).mono ?_; rw [hq]; rintro e w1 ⟨rfl, hb1⟩)
  have h1 := h.below hb1
  go_loopw [5] (fun i wr => ∃ x : Nat, x ≤ 201 ∧ i = .int .i64 x ∧ Hid (∀ a b, Crwd ls a b → (x : Int) ≤ a) ∧ Below w1.heap.size w1 wr) (fun i _ => 201 - (intOf i).toNat)
  case atStart => exact ⟨0, by omega, rfl, fun a b hc => (hbd.out a b hc).1, Below.refl _ _⟩
  case round =>
    obtain ⟨x, hx, rfl, HX, hw⟩ := hrel
    rename World => wx
    by_cases hx2 : x ≤ 200
    · have hx2' : (x : Int) ≤ 200 := by omega
      go_wp2
      go_loopw [6] (fun i wr => ∃ y : Nat, y ≤ 201 ∧ i = .int .i64 y ∧ Hid (∀ b, Crwd ls x b → (y : Int) ≤ b) ∧ Below wx.heap.size wx wr) (fun i _ => 201 - (intOf i).toNat)
      case atStart => exact ⟨0, by omega, rfl, fun b hc => (hbd.out _ b hc).2.2.1, Below.refl _ _⟩
      case round =>
        obtain ⟨y, hy, rfl, HY, hwy⟩ := hrel
        rename World => wy
        by_cases hy2 : y ≤ 200
        · have hy2' : (y : Int) ≤ 200 := by omega
          go_wp2
          go_loopw [7, 8, 9] (fun p q i wr => ∃ (k : Nat) (t1 t2 : Bool), k ≤ n ∧ i = .int .i64 k ∧ p = .bool t1 ∧ q = .bool t2 ∧ Hid (t1 = true ↔ ∃ i, i < k ∧ (jg ls i).at_ = x) ∧ Hid (t2 = true ↔ ∃ i, i < k ∧ (jg ls i).due = y) ∧ Below wy.heap.size wy wr) (fun _ _ i _ => n - (intOf i).toNat)
          case atStart => exact ⟨0, false, false, by omega, rfl, rfl, rfl, by unfold Hid; simp, by unfold Hid; simp, Below.refl _ _⟩
          case round =>
            obtain ⟨k, t1, t2, hk, rfl, rfl, rfl, H1, H2, hwk⟩ := hrel
            rename World => wk
            have BK : Hid (Below w1.heap.size w1 wk) := (hw.then hwy hw.size).then hwk (hw.then hwy hw.size).size
            by_cases hlt : k < n
            · obtain ⟨b, off, rfl, hbw, hat⟩ := (h1.below BK.out).at_ (by omega)
              obtain ⟨hc0, hc1, hc2, hc3, hc4, hc5, hc6⟩ := hat.job (i := k) (by omega)
              have hlt' : (k : Int) < (n : Int) := by omega
              have N1 : Hid (∀ u : Bool, (u = true ↔ t1 = true ∨ (jg ls k).at_ = x) → (u = true ↔ ∃ i, i < k + 1 ∧ (jg ls i).at_ = x)) := fun u hu => hu.trans ⟨fun h9 => by
                  rcases h9 with h9 | h9
                  · obtain ⟨i, hi, e⟩ := H1.out.1 h9; exact ⟨i, by omega, e⟩
                  · exact ⟨k, by omega, h9⟩, fun ⟨i, hi, e⟩ => by
                  by_cases c : i = k
                  · subst c; exact Or.inr e
                  · exact Or.inl (H1.out.2 ⟨i, by omega, e⟩)⟩
              have N2 : Hid (∀ u : Bool, (u = true ↔ t2 = true ∨ (jg ls k).due = y) → (u = true ↔ ∃ i, i < k + 1 ∧ (jg ls i).due = y)) := fun u hu => hu.trans ⟨fun h9 => by
                  rcases h9 with h9 | h9
                  · obtain ⟨i, hi, e⟩ := H2.out.1 h9; exact ⟨i, by omega, e⟩
                  · exact ⟨k, by omega, h9⟩, fun ⟨i, hi, e⟩ => by
                  by_cases c : i = k
                  · subst c; exact Or.inr e
                  · exact Or.inl (H2.out.2 ⟨i, by omega, e⟩)⟩
              clear hat hc0 hc1 hc2 hc4 hc5 H1 H2
              cases t1 with
              | true =>
                cases t2 with
                | true =>
                  go_wp2
                  go_roundw
                  case rel => exact ⟨k + 1, true, true, by omega, by go_num, rfl, rfl, N1.out _ (by simp), N2.out _ (by simp), hwk⟩
                  case measure => simp [intOf]; omega
                | false =>
                  by_cases e2 : (jg ls k).due = y
                  · have d2 : ((jg ls k).due == (y : Int)) = true := by simpa using e2
                    have E2 : Hid _ := e2
                    clear e2
                    go_wp2
                    go_roundw
                    case rel => exact ⟨k + 1, true, true, by omega, by go_num, rfl, rfl, N1.out _ (by simp), N2.out _ (⟨fun _ => Or.inr E2.out, fun _ => rfl⟩), hwk⟩
                    case measure => simp [intOf]; omega
                  · have d2 : ((jg ls k).due == (y : Int)) = false := by simpa using e2
                    have E2 : Hid _ := e2
                    clear e2
                    go_wp2
                    go_roundw
                    case rel => exact ⟨k + 1, true, false, by omega, by go_num, rfl, rfl, N1.out _ (by simp), N2.out _ (⟨fun h9 => absurd h9 (by simp), fun h9 => h9.elim (fun h => absurd h (by simp)) (fun h => absurd h E2.out)⟩), hwk⟩
                    case measure => simp [intOf]; omega
              | false =>
                by_cases e1 : (jg ls k).at_ = x
                · have d1 : ((jg ls k).at_ == (x : Int)) = true := by simpa using e1
                  have E1 : Hid _ := e1
                  clear e1
                  cases t2 with
                  | true =>
                    go_wp2
                    go_roundw
                    case rel => exact ⟨k + 1, true, true, by omega, by go_num, rfl, rfl, N1.out _ (⟨fun _ => Or.inr E1.out, fun _ => rfl⟩), N2.out _ (by simp), hwk⟩
                    case measure => simp [intOf]; omega
                  | false =>
                    by_cases e2 : (jg ls k).due = y
                    · have d2 : ((jg ls k).due == (y : Int)) = true := by simpa using e2
                      have E2 : Hid _ := e2
                      clear e2
                      go_wp2
                      go_roundw
                      case rel => exact ⟨k + 1, true, true, by omega, by go_num, rfl, rfl, N1.out _ (⟨fun _ => Or.inr E1.out, fun _ => rfl⟩), N2.out _ (⟨fun _ => Or.inr E2.out, fun _ => rfl⟩), hwk⟩
                      case measure => simp [intOf]; omega
                    · have d2 : ((jg ls k).due == (y : Int)) = false := by simpa using e2
                      have E2 : Hid _ := e2
                      clear e2
                      go_wp2
                      go_roundw
                      case rel => exact ⟨k + 1, true, false, by omega, by go_num, rfl, rfl, N1.out _ (⟨fun _ => Or.inr E1.out, fun _ => rfl⟩), N2.out _ (⟨fun h9 => absurd h9 (by simp), fun h9 => h9.elim (fun h => absurd h (by simp)) (fun h => absurd h E2.out)⟩), hwk⟩
                      case measure => simp [intOf]; omega
                · have d1 : ((jg ls k).at_ == (x : Int)) = false := by simpa using e1
                  have E1 : Hid _ := e1
                  clear e1
                  cases t2 with
                  | true =>
                    go_wp2
                    go_roundw
                    case rel => exact ⟨k + 1, false, true, by omega, by go_num, rfl, rfl, N1.out _ (⟨fun h9 => absurd h9 (by simp), fun h9 => h9.elim (fun h => absurd h (by simp)) (fun h => absurd h E1.out)⟩), N2.out _ (by simp), hwk⟩
                    case measure => simp [intOf]; omega
                  | false =>
                    by_cases e2 : (jg ls k).due = y
                    · have d2 : ((jg ls k).due == (y : Int)) = true := by simpa using e2
                      have E2 : Hid _ := e2
                      clear e2
                      go_wp2
                      go_roundw
                      case rel => exact ⟨k + 1, false, true, by omega, by go_num, rfl, rfl, N1.out _ (⟨fun h9 => absurd h9 (by simp), fun h9 => h9.elim (fun h => absurd h (by simp)) (fun h => absurd h E1.out)⟩), N2.out _ (⟨fun _ => Or.inr E2.out, fun _ => rfl⟩), hwk⟩
                      case measure => simp [intOf]; omega
                    · have d2 : ((jg ls k).due == (y : Int)) = false := by simpa using e2
                      have E2 : Hid _ := e2
                      clear e2
                      go_wp2
                      go_roundw
                      case rel => exact ⟨k + 1, false, false, by omega, by go_num, rfl, rfl, N1.out _ (⟨fun h9 => absurd h9 (by simp), fun h9 => h9.elim (fun h => absurd h (by simp)) (fun h => absurd h E1.out)⟩), N2.out _ (⟨fun h9 => absurd h9 (by simp), fun h9 => h9.elim (fun h => absurd h (by simp)) (fun h => absurd h E2.out)⟩), hwk⟩
                      case measure => simp [intOf]; omega
            · obtain rfl : k = n := by omega
              have CM : ∀ W, Below w1.heap.size w1 W → Calls Try.prog 84 #[.slice a k cap, .int .i64 x, .int .i64 y] W fun e w' => e = .returned (.int .i64 (demV ls x y)) ∧ w' = W := fun W hW => l9Demand_any a k cap ls x y W (h1.below hW) ho
              have H1' : Hid (t1 = true ↔ ∃ i, i < ls.length ∧ (jg ls i).at_ = x) := by rw [hlen]; exact H1.out
              have H2' : Hid (t2 = true ↔ ∃ i, i < ls.length ∧ (jg ls i).due = y) := by rw [hlen]; exact H2.out
              have BY : Hid (Below wx.heap.size wx wk) := hwy.then hwk hwy.size
              have db := demK_bd ho x y ls.length (Nat.le_refl _)
              have NY : Hid (¬ Crwd ls x y → ∀ b, Crwd ls x b → ((y + 1 : Nat) : Int) ≤ b) := fun h9 b hb => by
                have := HY.out b hb
                by_cases c : b = y
                · subst c; exact absurd hb h9
                · omega
              obtain ⟨D, hD⟩ : ∃ D, D = demV ls x y := ⟨_, rfl⟩
              have HD : Hid (D = demV ls x y) := hD
              have db' : 0 ≤ D ∧ D ≤ 50 * ls.length := by rw [hD]; exact db
              obtain ⟨db0, db1⟩ := db'
              clear db hD H1 H2
              cases t1 with
              | false =>
                have HN : Hid (∀ b, Crwd ls x b → ((y + 1 : Nat) : Int) ≤ b) := NY.out (fun hc => by have := H1'.out.2 hc.1; cases this)
                go_wp2
                go_roundw
                case rel => exact ⟨y + 1, by omega, by go_num, HN, BY.out⟩
                case measure => simp [intOf]; omega
              | true =>
                cases t2 with
                | false =>
                  have HN : Hid (∀ b, Crwd ls x b → ((y + 1 : Nat) : Int) ≤ b) := NY.out (fun hc => by have := H2'.out.2 hc.2.1; cases this)
                  go_wp2
                  go_roundw
                  case rel => exact ⟨y + 1, by omega, by go_num, HN, BY.out⟩
                  case measure => simp [intOf]; omega
                | true =>
                  by_cases hc : max 0 ((y : Int) - x) < D
                  · have HC : Hid (IsCrw ls x y true) := Or.inr ⟨hq, Or.inr ⟨rfl, ⟨H1'.out.1 rfl, H2'.out.1 rfl, by rw [← HD.out]; exact hc⟩, fun a b hab => by
                      have := HX.out a b hab
                      by_cases c : (x : Int) = a
                      · subst c; exact Or.inr ⟨rfl, HY.out b hab⟩
                      · exact Or.inl (by omega)⟩⟩
                    go_wp2_with (first
                      | (go_at_call 84; refine (CM _ BK.out).mono ?_; rw [← HD.out]; rintro e w5 ⟨rfl, hw5⟩; have hw5' := hw5.symm; clear hw5; subst hw5')
                      | (go_at_call 67; refine (l1Max_any _ _ _).mono ?_; rintro e w6 ⟨rfl, hw6⟩; have hw6' := hw6.symm; clear hw6; subst hw6'))
                    exact bodyPost_ret (v := .tuple #[.int .i64 x, .int .i64 y, .bool true]) (by simp [results, Try.results33, go_sem]) rfl ⟨x, y, true, rfl, HC.out, hb1.then BK.out hb1.size⟩
                  · have HN : Hid (∀ b, Crwd ls x b → ((y + 1 : Nat) : Int) ≤ b) := NY.out (fun h9 => hc (by rw [HD.out]; exact h9.2.2))
                    go_wp2_with (first
                      | (go_at_call 84; refine (CM _ BK.out).mono ?_; rw [← HD.out]; rintro e w5 ⟨rfl, hw5⟩; have hw5' := hw5.symm; clear hw5; subst hw5')
                      | (go_at_call 67; refine (l1Max_any _ _ _).mono ?_; rintro e w6 ⟨rfl, hw6⟩; have hw6' := hw6.symm; clear hw6; subst hw6'))
                    go_roundw
                    case rel => exact ⟨y + 1, by omega, by go_num, HN, BY.out⟩
                    case measure => simp [intOf]; omega
        · have HN : Hid (∀ a b, Crwd ls a b → ((x + 1 : Nat) : Int) ≤ a) := fun a b hab => by
            have h8 := HX.out a b hab
            by_cases c : a = x
            · subst c
              have := HY.out b hab
              have := hbd.out _ b hab
              omega
            · omega
          have BW : Hid (Below w1.heap.size w1 wy) := hw.then hwy hw.size
          go_wp2
          go_roundw
          case rel => exact ⟨x + 1, by omega, by go_num, HN, BW.out⟩
          case measure => simp [intOf]; omega
    · have HC : Hid (IsCrw ls 0 0 false) := Or.inr ⟨hq, Or.inl ⟨rfl, rfl, rfl, fun a b hab => by
        have := HX.out a b hab
        have := hbd.out a b hab
        omega⟩⟩
      go_wp2
      exact bodyPost_ret (v := .tuple #[.int .i64 0, .int .i64 0, .bool false]) (by simp [results, Try.results33, go_sem]) rfl ⟨0, 0, false, rfl, HC.out, hb1.then hw hb1.size⟩

end Go.Proofs.Ytmaojjjdepgaeaa
