/- Several texts in one. -/
import Derived.Test.YtmaojjjdepgaeaaTaskS
import Derived.Test.YtmaojjjdepgaeaaTime
import Derived.Test.YtmaojjjdepgaeaaTaskBy
import Derived.Deep.RegionHeld3
import Derived.WalkMore
/- Crowded of the model. -/
namespace Go.Proofs.Ytmaojjjdepgaeaa
open Go.RowKit Go.Sort

/-- from a to b, somebody's At and somebody's Due, there is more to do than there is time -/
def Crwd (ls : List Jb) (a b : Int) : Prop := (∃ i, i < ls.length ∧ (jg ls i).at_ = a) ∧ (∃ i, i < ls.length ∧ (jg ls i).due = b) ∧ max 0 (b - a) < demV ls a b
/-- what Crowded tells -/
def IsCrw (ls : List Jb) (x y : Int) (t : Bool) : Prop :=
  (tsB ls = false ∧ x = 0 ∧ y = 0 ∧ t = false) ∨
  (tsB ls = true ∧ ((t = false ∧ x = 0 ∧ y = 0 ∧ ∀ a b, ¬ Crwd ls a b) ∨ (t = true ∧ Crwd ls x y ∧ ∀ a b, Crwd ls a b → x < a ∨ (x = a ∧ y ≤ b))))
theorem IsCrw.uniq {ls : List Jb} {x y x' y' : Int} {t t' : Bool} (h : IsCrw ls x y t) (g : IsCrw ls x' y' t') : x = x' ∧ y = y' ∧ t = t' := by
  rcases h with ⟨h0, rfl, rfl, rfl⟩ | ⟨h0, h⟩
  · rcases g with ⟨_, rfl, rfl, rfl⟩ | ⟨g0, _⟩
    · exact ⟨rfl, rfl, rfl⟩
    · rw [h0] at g0; cases g0
  · rcases g with ⟨g0, _⟩ | ⟨_, g⟩
    · rw [h0] at g0; cases g0
    · rcases h with ⟨rfl, rfl, rfl, h1⟩ | ⟨rfl, h1, h2⟩
      · rcases g with ⟨rfl, rfl, rfl, _⟩ | ⟨rfl, g1, _⟩
        · exact ⟨rfl, rfl, rfl⟩
        · exact absurd g1 (h1 _ _)
      · rcases g with ⟨rfl, rfl, rfl, g1⟩ | ⟨rfl, g1, g2⟩
        · exact absurd h1 (g1 _ _)
        · have e1 := h2 _ _ g1
          have e2 := g2 _ _ h1
          exact ⟨by omega, by omega, rfl⟩

set_option maxRecDepth 8000 in
set_option maxHeartbeats 4000000 in
theorem specCrowded_any (a : Option Addr) (n cap : Nat) (ls : List Jb) (w : World) (h : JobS w a n cap ls) :
    Calls Try.prog 33 #[.slice a n cap] w fun e w' => ∃ (x y : Int) (t : Bool), e = .returned (.tuple #[.int .i64 x, .int .i64 y, .bool t]) ∧ IsCrw ls x y t ∧ Below w.heap.size w w' := by
  have hm := h.mx
  have hle := h.le
  have hlen := h.len
  unfold maxLen at hm
  rcases hq : tsB ls with _ | _
  · go_enter Try.func33, Try.ntmps33
    go_wp2_with (go_at_call 40; refine (specTasksOk_any _ _ _ _ _ h).mono ?_; rw [hq]; rintro e w1 ⟨rfl, hb1⟩)
    exact bodyPost_ret (v := .tuple #[.int .i64 0, .int .i64 0, .bool false]) (by simp [results, Try.results33, go_sem]) rfl ⟨0, 0, false, rfl, Or.inl ⟨hq, rfl, rfl, rfl⟩, hb1⟩
  have ho := tsB_t hq
  have hn := ho.n
  have hbd : Hid (∀ x y, Crwd ls x y → 0 ≤ x ∧ x ≤ 200 ∧ 0 ≤ y ∧ y ≤ 200) := fun x y hc => by
    obtain ⟨⟨i, hi, e⟩, ⟨j, hj, e2⟩, _⟩ := hc
    have := ho.bd hi; have := ho.bd hj
    omega
  go_enter Try.func33, Try.ntmps33
  go_wp2_with (go_at_call 40; refine (specTasksOk_any _ _ _ _ _ h).mono ?_; rw [hq]; rintro e w1 ⟨rfl, hb1⟩)
  have h1 := h.below hb1
  go_loopw [5] (fun i wr => ∃ x : Nat, x ≤ 201 ∧ i = .int .i64 x ∧ Hid (∀ a b, Crwd ls a b → (x : Int) ≤ a) ∧ Below w1.heap.size w1 wr) (fun i _ => 201 - (intOf i).toNat)
  case atStart => exact ⟨0, by omega, rfl, fun a b hc => (hbd.out a b hc).1, Below.refl _ _⟩
  case round =>
    obtain ⟨x, hx, rfl, HX, hw⟩ := hrel
    rename World => wx
    by_cases hx2 : x ≤ 200
    · have hx2' : (x : Int) ≤ 200 := by omega
      go_wp2
      go_loopw [6] (fun i wr => ∃ y : Nat, y ≤ 201 ∧ i = .int .i64 y ∧ Hid (∀ b, Crwd ls x b → (y : Int) ≤ b) ∧ Below wx.heap.size wx wr) (fun i _ => 201 - (intOf i).toNat)
      case atStart => exact ⟨0, by omega, rfl, fun b hc => (hbd.out _ b hc).2.2.1, Below.refl _ _⟩
      case round =>
        obtain ⟨y, hy, rfl, HY, hwy⟩ := hrel
        rename World => wy
        by_cases hy2 : y ≤ 200
        · have hy2' : (y : Int) ≤ 200 := by omega
          go_wp2
          go_loopw [7, 8, 9] (fun p q i wr => ∃ (k : Nat) (t1 t2 : Bool), k ≤ n ∧ i = .int .i64 k ∧ p = .bool t1 ∧ q = .bool t2 ∧ Hid (t1 = true ↔ ∃ i, i < k ∧ (jg ls i).at_ = x) ∧ Hid (t2 = true ↔ ∃ i, i < k ∧ (jg ls i).due = y) ∧ Below wy.heap.size wy wr) (fun _ _ i _ => n - (intOf i).toNat)
          case atStart => exact ⟨0, false, false, by omega, rfl, rfl, rfl, by unfold Hid; simp, by unfold Hid; simp, Below.refl _ _⟩
          case round =>
            obtain ⟨k, t1, t2, hk, rfl, rfl, rfl, H1, H2, hwk⟩ := hrel
            rename World => wk
            have BK : Hid (Below w1.heap.size w1 wk) := (hw.then hwy hw.size).then hwk (hw.then hwy hw.size).size
            by_cases hlt : k < n
            · obtain ⟨b, off, rfl, hbw, hat⟩ := (h1.below BK.out).at_ (by omega)
              obtain ⟨hc0, hc1, hc2, hc3, hc4, hc5, hc6⟩ := hat.job (i := k) (by omega)
              have hlt' : (k : Int) < (n : Int) := by omega
              have N1 : Hid (∀ u : Bool, (u = true ↔ t1 = true ∨ (jg ls k).at_ = x) → (u = true ↔ ∃ i, i < k + 1 ∧ (jg ls i).at_ = x)) := fun u hu => hu.trans ⟨fun h9 => by
                  rcases h9 with h9 | h9
                  · obtain ⟨i, hi, e⟩ := H1.out.1 h9; exact ⟨i, by omega, e⟩
                  · exact ⟨k, by omega, h9⟩, fun ⟨i, hi, e⟩ => by
                  by_cases c : i = k
                  · subst c; exact Or.inr e
                  · exact Or.inl (H1.out.2 ⟨i, by omega, e⟩)⟩
              have N2 : Hid (∀ u : Bool, (u = true ↔ t2 = true ∨ (jg ls k).due = y) → (u = true ↔ ∃ i, i < k + 1 ∧ (jg ls i).due = y)) := fun u hu => hu.trans ⟨fun h9 => by
                  rcases h9 with h9 | h9
                  · obtain ⟨i, hi, e⟩ := H2.out.1 h9; exact ⟨i, by omega, e⟩
                  · exact ⟨k, by omega, h9⟩, fun ⟨i, hi, e⟩ => by
                  by_cases c : i = k
                  · subst c; exact Or.inr e
                  · exact Or.inl (H2.out.2 ⟨i, by omega, e⟩)⟩
              clear hat hc0 hc1 hc2 hc4 hc5 H1 H2
              cases t1 with
              | true =>
                cases t2 with
                | true =>
                  go_wp2
                  go_roundw
                  case rel => exact ⟨k + 1, true, true, by omega, by go_num, rfl, rfl, N1.out _ (by simp), N2.out _ (by simp), hwk⟩
                  case measure => simp [intOf]; omega
                | false =>
                  by_cases e2 : (jg ls k).due = y
                  · have d2 : ((jg ls k).due == (y : Int)) = true := by simpa using e2
                    have E2 : Hid _ := e2
                    clear e2
                    go_wp2
                    go_roundw
                    case rel => exact ⟨k + 1, true, true, by omega, by go_num, rfl, rfl, N1.out _ (by simp), N2.out _ (⟨fun _ => Or.inr E2.out, fun _ => rfl⟩), hwk⟩
                    case measure => simp [intOf]; omega
                  · have d2 : ((jg ls k).due == (y : Int)) = false := by simpa using e2
                    have E2 : Hid _ := e2
                    clear e2
                    go_wp2
                    go_roundw
                    case rel => exact ⟨k + 1, true, false, by omega, by go_num, rfl, rfl, N1.out _ (by simp), N2.out _ (⟨fun h9 => absurd h9 (by simp), fun h9 => h9.elim (fun h => absurd h (by simp)) (fun h => absurd h E2.out)⟩), hwk⟩
                    case measure => simp [intOf]; omega
              | false =>
                by_cases e1 : (jg ls k).at_ = x
                · have d1 : ((jg ls k).at_ == (x : Int)) = true := by simpa using e1
                  have E1 : Hid _ := e1
                  clear e1
                  cases t2 with
                  | true =>
                    go_wp2
                    go_roundw
                    case rel => exact ⟨k + 1, true, true, by omega, by go_num, rfl, rfl, N1.out _ (⟨fun _ => Or.inr E1.out, fun _ => rfl⟩), N2.out _ (by simp), hwk⟩
                    case measure => simp [intOf]; omega
                  | false =>
                    by_cases e2 : (jg ls k).due = y
                    · have d2 : ((jg ls k).due == (y : Int)) = true := by simpa using e2
                      have E2 : Hid _ := e2
                      clear e2
                      go_wp2
                      go_roundw
                      case rel => exact ⟨k + 1, true, true, by omega, by go_num, rfl, rfl, N1.out _ (⟨fun _ => Or.inr E1.out, fun _ => rfl⟩), N2.out _ (⟨fun _ => Or.inr E2.out, fun _ => rfl⟩), hwk⟩
                      case measure => simp [intOf]; omega
                    · have d2 : ((jg ls k).due == (y : Int)) = false := by simpa using e2
                      have E2 : Hid _ := e2
                      clear e2
                      go_wp2
                      go_roundw
                      case rel => exact ⟨k + 1, true, false, by omega, by go_num, rfl, rfl, N1.out _ (⟨fun _ => Or.inr E1.out, fun _ => rfl⟩), N2.out _ (⟨fun h9 => absurd h9 (by simp), fun h9 => h9.elim (fun h => absurd h (by simp)) (fun h => absurd h E2.out)⟩), hwk⟩
                      case measure => simp [intOf]; omega
                · have d1 : ((jg ls k).at_ == (x : Int)) = false := by simpa using e1
                  have E1 : Hid _ := e1
                  clear e1
                  cases t2 with
                  | true =>
                    go_wp2
                    go_roundw
                    case rel => exact ⟨k + 1, false, true, by omega, by go_num, rfl, rfl, N1.out _ (⟨fun h9 => absurd h9 (by simp), fun h9 => h9.elim (fun h => absurd h (by simp)) (fun h => absurd h E1.out)⟩), N2.out _ (by simp), hwk⟩
                    case measure => simp [intOf]; omega
                  | false =>
                    by_cases e2 : (jg ls k).due = y
                    · have d2 : ((jg ls k).due == (y : Int)) = true := by simpa using e2
                      have E2 : Hid _ := e2
                      clear e2
                      go_wp2
                      go_roundw
                      case rel => exact ⟨k + 1, false, true, by omega, by go_num, rfl, rfl, N1.out _ (⟨fun h9 => absurd h9 (by simp), fun h9 => h9.elim (fun h => absurd h (by simp)) (fun h => absurd h E1.out)⟩), N2.out _ (⟨fun _ => Or.inr E2.out, fun _ => rfl⟩), hwk⟩
                      case measure => simp [intOf]; omega
                    · have d2 : ((jg ls k).due == (y : Int)) = false := by simpa using e2
                      have E2 : Hid _ := e2
                      clear e2
                      go_wp2
                      go_roundw
                      case rel => exact ⟨k + 1, false, false, by omega, by go_num, rfl, rfl, N1.out _ (⟨fun h9 => absurd h9 (by simp), fun h9 => h9.elim (fun h => absurd h (by simp)) (fun h => absurd h E1.out)⟩), N2.out _ (⟨fun h9 => absurd h9 (by simp), fun h9 => h9.elim (fun h => absurd h (by simp)) (fun h => absurd h E2.out)⟩), hwk⟩
                      case measure => simp [intOf]; omega
            · obtain rfl : k = n := by omega
              have CM : ∀ W, Below w1.heap.size w1 W → Calls Try.prog 84 #[.slice a k cap, .int .i64 x, .int .i64 y] W fun e w' => e = .returned (.int .i64 (demV ls x y)) ∧ w' = W := fun W hW => l9Demand_any a k cap ls x y W (h1.below hW) ho
              have H1' : Hid (t1 = true ↔ ∃ i, i < ls.length ∧ (jg ls i).at_ = x) := by rw [hlen]; exact H1.out
              have H2' : Hid (t2 = true ↔ ∃ i, i < ls.length ∧ (jg ls i).due = y) := by rw [hlen]; exact H2.out
              have BY : Hid (Below wx.heap.size wx wk) := hwy.then hwk hwy.size
              have db := demK_bd ho x y ls.length (Nat.le_refl _)
              have NY : Hid (¬ Crwd ls x y → ∀ b, Crwd ls x b → ((y + 1 : Nat) : Int) ≤ b) := fun h9 b hb => by
                have := HY.out b hb
                by_cases c : b = y
                · subst c; exact absurd hb h9
                · omega
              obtain ⟨D, hD⟩ : ∃ D, D = demV ls x y := ⟨_, rfl⟩
              have HD : Hid (D = demV ls x y) := hD
              have db' : 0 ≤ D ∧ D ≤ 50 * ls.length := by rw [hD]; exact db
              obtain ⟨db0, db1⟩ := db'
              clear db hD H1 H2
              cases t1 with
              | false =>
                have HN : Hid (∀ b, Crwd ls x b → ((y + 1 : Nat) : Int) ≤ b) := NY.out (fun hc => by have := H1'.out.2 hc.1; cases this)
                go_wp2
                go_roundw
                case rel => exact ⟨y + 1, by omega, by go_num, HN, BY.out⟩
                case measure => simp [intOf]; omega
              | true =>
                cases t2 with
                | false =>
                  have HN : Hid (∀ b, Crwd ls x b → ((y + 1 : Nat) : Int) ≤ b) := NY.out (fun hc => by have := H2'.out.2 hc.2.1; cases this)
                  go_wp2
                  go_roundw
                  case rel => exact ⟨y + 1, by omega, by go_num, HN, BY.out⟩
                  case measure => simp [intOf]; omega
                | true =>
                  by_cases hc : max 0 ((y : Int) - x) < D
                  · have HC : Hid (IsCrw ls x y true) := Or.inr ⟨hq, Or.inr ⟨rfl, ⟨H1'.out.1 rfl, H2'.out.1 rfl, by rw [← HD.out]; exact hc⟩, fun a b hab => by
                      have := HX.out a b hab
                      by_cases c : (x : Int) = a
                      · subst c; exact Or.inr ⟨rfl, HY.out b hab⟩
                      · exact Or.inl (by omega)⟩⟩
                    go_wp2_with (first
                      | (go_at_call 84; refine (CM _ BK.out).mono ?_; rw [← HD.out]; rintro e w5 ⟨rfl, hw5⟩; have hw5' := hw5.symm; clear hw5; subst hw5')
                      | (go_at_call 67; refine (l1Max_any _ _ _).mono ?_; rintro e w6 ⟨rfl, hw6⟩; have hw6' := hw6.symm; clear hw6; subst hw6'))
                    exact bodyPost_ret (v := .tuple #[.int .i64 x, .int .i64 y, .bool true]) (by simp [results, Try.results33, go_sem]) rfl ⟨x, y, true, rfl, HC.out, hb1.then BK.out hb1.size⟩
                  · have HN : Hid (∀ b, Crwd ls x b → ((y + 1 : Nat) : Int) ≤ b) := NY.out (fun h9 => hc (by rw [HD.out]; exact h9.2.2))
                    go_wp2_with (first
                      | (go_at_call 84; refine (CM _ BK.out).mono ?_; rw [← HD.out]; rintro e w5 ⟨rfl, hw5⟩; have hw5' := hw5.symm; clear hw5; subst hw5')
                      | (go_at_call 67; refine (l1Max_any _ _ _).mono ?_; rintro e w6 ⟨rfl, hw6⟩; have hw6' := hw6.symm; clear hw6; subst hw6'))
                    go_roundw
                    case rel => exact ⟨y + 1, by omega, by go_num, HN, BY.out⟩
                    case measure => simp [intOf]; omega
        · have HN : Hid (∀ a b, Crwd ls a b → ((x + 1 : Nat) : Int) ≤ a) := fun a b hab => by
            have h8 := HX.out a b hab
            by_cases c : a = x
            · subst c
              have := HY.out b hab
              have := hbd.out _ b hab
              omega
            · omega
          have BW : Hid (Below w1.heap.size w1 wy) := hw.then hwy hw.size
          go_wp2
          go_roundw
          case rel => exact ⟨x + 1, by omega, by go_num, HN, BW.out⟩
          case measure => simp [intOf]; omega
    · have HC : Hid (IsCrw ls 0 0 false) := Or.inr ⟨hq, Or.inl ⟨rfl, rfl, rfl, fun a b hab => by
        have := HX.out a b hab
        have := hbd.out a b hab
        omega⟩⟩
      go_wp2
      exact bodyPost_ret (v := .tuple #[.int .i64 0, .int .i64 0, .bool false]) (by simp [results, Try.results33, go_sem]) rfl ⟨0, 0, false, rfl, HC.out, hb1.then hw hb1.size⟩

end Go.Proofs.Ytmaojjjdepgaeaa

/- The faces Later and Until, of the model and of the program. -/
namespace Go.Proofs.Ytmaojjjdepgaeaa

def faceI (f : Int → Int → Int) (t b : Int) : Int := if okB t = true then if okB b = true then f t b else -1 else -1

theorem face_tt {f : Int → Int → Int} {t b : Int} (h : okB t = true) (h' : okB b = true) : faceI f t b = f t b := by unfold faceI; rw [if_pos h, if_pos h']
theorem face_f {f : Int → Int → Int} {t b : Int} (h : okB t = false) : faceI f t b = -1 := by unfold faceI; rw [if_neg (by rw [h]; simp)]
theorem face_tf {f : Int → Int → Int} {t b : Int} (h : okB t = true) (h' : okB b = false) : faceI f t b = -1 := by unfold faceI; rw [if_pos h, if_neg (by rw [h']; simp)]

theorem implUntil_any (t b : Int) (w : World) :
    Calls Try.prog 75 #[.int .i64 t, .int .i64 b] w fun e w' => e = .returned (.int .i64 (faceI untilI t b)) ∧ w' = w := by
  by_cases c1 : okB t = true
  · by_cases c2 : okB b = true
    · rw [face_tt c1 c2]
      obtain ⟨t0, t1⟩ := okB_t c1
      obtain ⟨b0, b1⟩ := okB_t c2
      go_enter Try.func75, Try.ntmps75
      go_wp2_with (first | (go_at_call 118; refine (implOk_any _ _).mono ?_; rintro e w' ⟨rfl, rfl⟩) | (go_at_call 101; go_in) | (go_at_call 102; refine (mUntil_any _ _ _ (by assumption) (by assumption) (by assumption) (by assumption)).mono ?_; rintro e w' ⟨rfl, rfl⟩))
      go_ret
      exact ⟨rfl, rfl⟩
    · simp only [Bool.not_eq_true] at c2
      rw [face_tf c1 c2]
      go_enter Try.func75, Try.ntmps75
      go_wp2_with (first | (go_at_call 118; refine (implOk_any _ _).mono ?_; rintro e w' ⟨rfl, rfl⟩) | (go_at_call 101; go_in))
      go_ret
      exact ⟨rfl, rfl⟩
  · simp only [Bool.not_eq_true] at c1
    rw [face_f c1]
    go_enter Try.func75, Try.ntmps75
    go_wp2_with (first | (go_at_call 118; refine (implOk_any _ _).mono ?_; rintro e w' ⟨rfl, rfl⟩) | (go_at_call 101; go_in))
    go_ret
    exact ⟨rfl, rfl⟩

theorem reckonUntil_any (t u : Int) (w : World) :
    Calls Try.prog 101 #[.func (.func 102) #[.int .i64 t] #[], .int .i64 t, .int .i64 u] w fun e w' => e = .returned (.int .i64 (faceI untilI t u)) ∧ w' = w := by
  by_cases c1 : okB t = true
  · by_cases c2 : okB u = true
    · rw [face_tt c1 c2]
      obtain ⟨t0, t1⟩ := okB_t c1
      obtain ⟨b0, b1⟩ := okB_t c2
      go_enter Try.func101, Try.ntmps101
      go_wp2_with (first | (go_at_call 118; refine (implOk_any _ _).mono ?_; rintro e w' ⟨rfl, rfl⟩) | (go_at_call 102; refine (mUntil_any _ _ _ (by assumption) (by assumption) (by assumption) (by assumption)).mono ?_; rintro e w' ⟨rfl, rfl⟩))
      go_ret
      exact ⟨rfl, rfl⟩
    · simp only [Bool.not_eq_true] at c2
      rw [face_tf c1 c2]
      go_enter Try.func101, Try.ntmps101
      go_wp2_with (first | (go_at_call 118; refine (implOk_any _ _).mono ?_; rintro e w' ⟨rfl, rfl⟩))
      go_ret
      exact ⟨rfl, rfl⟩
  · simp only [Bool.not_eq_true] at c1
    rw [face_f c1]
    go_enter Try.func101, Try.ntmps101
    go_wp2_with (first | (go_at_call 118; refine (implOk_any _ _).mono ?_; rintro e w' ⟨rfl, rfl⟩))
    go_ret
    exact ⟨rfl, rfl⟩

/-- how long two stretches are together -/
def overI (a b c d : Int) : Int := if okB a = true ∧ okB b = true ∧ okB c = true ∧ okB d = true then untilI (max a c) (min b d) else -1

theorem okB_max {a c : Int} (h : okB a = true) (h' : okB c = true) : okB (max a c) = true := by
  have := okB_t h; have := okB_t h'; unfold okB inB; simp; omega

theorem okB_min {a c : Int} (h : okB a = true) (h' : okB c = true) : okB (min a c) = true := by
  have := okB_t h; have := okB_t h'; unfold okB inB; simp; omega

theorem overI_not {a b c d : Int} (h : ¬ (okB a = true ∧ okB b = true ∧ okB c = true ∧ okB d = true)) : overI a b c d = -1 := by
  unfold overI; rw [if_neg h]

theorem overI_yes {a b c d : Int} (ha : okB a = true) (hb : okB b = true) (hc : okB c = true) (hd : okB d = true) : overI a b c d = untilI (max a c) (min b d) := by
  unfold overI; rw [if_pos ⟨ha, hb, hc, hd⟩]

theorem overI_zero {a b c d : Int} (ha : okB a = true) (hb : okB b = true) (hc : okB c = true) (hd : okB d = true) (h : b ≤ a ∨ d ≤ c) : overI a b c d = 0 := by
  rw [overI_yes ha hb hc hd]
  have := okB_t ha; have := okB_t hb; have := okB_t hc; have := okB_t hd
  unfold untilI; split <;> (try split) <;> omega

theorem okB_neg : okB (-1) = false := by decide

theorem over_faces (a b c d : Int) : faceI untilI (faceI max a c) (faceI min b d) = overI a b c d := by
  by_cases ha : okB a = true
  · by_cases hc : okB c = true
    · rw [face_tt ha hc]
      by_cases hb : okB b = true
      · by_cases hd : okB d = true
        · rw [face_tt hb hd, face_tt (okB_max ha hc) (okB_min hb hd), overI_yes ha hb hc hd]
        · rw [overI_not (by simp [hd]), face_tf hb (by simpa using hd), face_tf (okB_max ha hc) okB_neg]
      · have hb' : okB b = false := by simpa using hb
        rw [overI_not (by simp [hb]), face_f (f := min) hb', face_tf (okB_max ha hc) okB_neg]
    · rw [overI_not (by simp [hc]), face_tf ha (by simpa using hc), face_f okB_neg]
  · have ha' : okB a = false := by simpa using ha
    rw [overI_not (by simp [ha]), face_f (f := max) ha', face_f okB_neg]

end Go.Proofs.Ytmaojjjdepgaeaa

/- Crowded of the program. -/
namespace Go.Proofs.Ytmaojjjdepgaeaa
open Go.RowKit Go.Sort

theorem untilTask {x y : Int} (hx : 0 ≤ x ∧ x ≤ 200) (hy : 0 ≤ y ∧ y ≤ 200) : faceI untilI x y = max 0 (y - x) := by
  have c1 : okB x = true := by unfold okB inB; simp; omega
  have c2 : okB y = true := by unfold okB inB; simp; omega
  rw [face_tt c1 c2]; unfold untilI
  rw [if_neg (by omega)]
  split <;> omega

/-- whoever is crowded is so from an At of ys, till a Due of zs -/
theorem Crwd.at_ {ls ys zs : List Jb} (hp : ys.Perm ls) (hq : zs.Perm ls) {a b : Int} (h : Crwd ls a b) : (∃ p, p < ys.length ∧ (jg ys p).at_ = a) ∧ (∃ q, q < zs.length ∧ (jg zs q).due = b) := by
  obtain ⟨⟨i, hi, e1⟩, ⟨j, hj, e2⟩, _⟩ := h
  obtain ⟨p, hp', f1⟩ := jg_mem hp.symm hi
  obtain ⟨q, hq', f2⟩ := jg_mem hq.symm hj
  exact ⟨⟨p, hp', by rw [f1]; exact e1⟩, ⟨q, hq', by rw [f2]; exact e2⟩⟩

set_option maxRecDepth 8000 in
set_option maxHeartbeats 4000000 in
theorem implCrowded_any (a : Option Addr) (n cap : Nat) (ls : List Jb) (w : World) (h : JobS w a n cap ls) :
    Calls Try.prog 29 #[.slice a n cap] w fun e w' => ∃ x y t, e = .returned (.tuple #[.int .i64 x, .int .i64 y, .bool t]) ∧ IsCrw ls x y t ∧ Below w.heap.size w w' := by
  rcases hq : tsB ls with _ | _
  · go_enter Try.func29, Try.ntmps29
    go_wp2
    refine wp_scope_straight ?_
    go_wp2_with (go_at_call 39; refine (implTasksOk_any _ _ _ _ _ h).mono ?_; rw [hq]; rintro e w1 ⟨rfl, hb1⟩)
    rw [Exit.noGoto_ret]
    exact bodyPost_ret (v := .tuple #[.int .i64 0, .int .i64 0, .bool false]) (by simp [results, Try.results29, go_sem]) rfl ⟨0, 0, false, rfl, Or.inl ⟨hq, rfl, rfl, rfl⟩, hb1⟩
  have ho := tsB_t hq
  have hlen := h.len
  have hn := ho.n
  go_enter Try.func29, Try.ntmps29
  go_wp2
  refine wp_scope_straight ?_
  go_wp2_with (first
    | (go_at_call 39; refine (implTasksOk_any _ _ _ _ _ h).mono ?_; rw [hq]; rintro e w1 ⟨rfl, hb1⟩)
    | (go_at_call 73; (with_reducible change Calls _ _ #[.func (.func 72) _ _, _] _ _); refine (sortedAt_any _ _ _ _ _ (h.below hb1) ho).mono ?_; rintro e w2 ⟨B1, ys, rfl, hB1, hp1, hl1, hs1, hJ1, hb2⟩; have U2 := hb1.then hb2 hb1.size)
    | (go_at_call 73; (with_reducible change Calls _ _ #[.func (.func 74) _ _, _] _ _); refine (sortedDue_any _ _ _ _ _ (h.below U2) ho).mono ?_; rintro e w3 ⟨B2, zs, rfl, hB2, hp2, hl2, hs2, hJ2, hb3⟩))
  have h3 := (h.below U2).below hb3
  have U3 := U2.then hb3 U2.size
  have J1 : JobS w3 (some ⟨B1, 0, none⟩) n n ys := (hJ1.below hb3).toS hl1 (by omega) (fun i hi => by
    obtain ⟨j, hj, e⟩ := jg_mem hp1 (i := i) (by omega)
    rw [← e]; exact h.wf j (by omega))
  have J2 : JobS w3 (some ⟨B2, 0, none⟩) n n zs := hJ2.toS hl2 (by omega) (fun i hi => by
    obtain ⟨j, hj, e⟩ := jg_mem hp2 (i := i) (by omega)
    rw [← e]; exact h.wf j (by omega))
  have HP1 : Hid _ := hp1
  have HP2 : Hid _ := hp2
  have HS1 : Hid _ := hs1
  have HS2 : Hid _ := hs2
  have HQ : Hid _ := hq
  have HU : Hid (∀ W, Below w3.heap.size w3 W → Below w.heap.size w W) := fun W hW => U3.then hW U3.size
  clear hJ1 hJ2 hb2 hb3 U2 U3 hp1 hp2 hs1 hs2 h hq
  go_step3
  go_wp2
  go_loopw [7, 8, 9, 11, 13, 23] (fun p q t _ _ i wr => ∃ k : Nat, k ≤ n ∧ i = .int .i64 k ∧ p = .int .i64 0 ∧ q = .int .i64 0 ∧ t = .bool false ∧ Hid (∀ x, x < k → ∀ b, ¬ Crwd ls (jg ys x).at_ b) ∧ Below w3.heap.size w3 wr) (fun _ _ _ _ _ i _ => n - (intOf i).toNat)
  case atStart => exact ⟨0, by omega, rfl, rfl, rfl, rfl, fun x hx => by omega, Below.refl _ _⟩
  case round =>
    obtain ⟨k, hk, rfl, rfl, rfl, rfl, HK, hw⟩ := hrel
    rename World => wr
    by_cases hlt : k < n
    · have hlt' : (k : Int) < (n : Int) := by omega
      obtain ⟨b, off, hb', hbw, hat⟩ := J1.at_ (by omega)
      injection hb' with hb'; injection hb' with hb' ho' _; subst hb' ho'
      obtain ⟨hc0, hc1, hc2, hc3, hc4, hc5, hc6⟩ := (hat.below hw hbw).job (i := k) (by omega)
      clear hat
      simp only [Nat.zero_add] at hc0 hc1 hc2 hc3 hc4 hc5 hc6
      obtain ⟨wx, hwx⟩ : ∃ wx, wx = (wr.alloc (.cells #[.int .i64 (jg ys k).id, .int .i64 (jg ys k).cores, .int .i64 (jg ys k).long, .int .i64 (jg ys k).due, .int .i64 (jg ys k).wt, .int .i64 (jg ys k).rank, .int .i64 (jg ys k).at_] 49)) := ⟨_, rfl⟩
      have hwx1 : Below w3.heap.size w3 wx := by rw [hwx]; exact hw.alloc hw.size _
      have F6 : wx.cell? ⟨wr.heap.size, 6, none⟩ = some (.int .i64 (jg ys k).at_) := by rw [hwx]; simp
      have F0 : wr.heap.size < wx.heap.size := by rw [hwx]; simp
      have HWX : Hid _ := hwx
      clear hwx
      go_wp2
      rw [← HWX.out]
      clear HWX hc0 hc1 hc2 hc3 hc4 hc5 hc6 hw
      obtain ⟨jx, hjx⟩ : ∃ jx, jx = (jg ys k).at_ := ⟨_, rfl⟩
      rw [← hjx] at F6
      have HJX : Hid _ := hjx
      have hjb : 0 ≤ jx ∧ jx ≤ 200 := by
        rw [hjx]
        obtain ⟨j, hj, e⟩ := jg_mem HP1.out (i := k) (by omega)
        have := ho.bd hj
        rw [e] at this; omega
      clear hjx
      go_loopw [7, 8, 9, 13, 29] (fun p q t _ i wr => ∃ m : Nat, m ≤ n ∧ i = .int .i64 m ∧ p = .int .i64 0 ∧ q = .int .i64 0 ∧ t = .bool false ∧ Hid (∀ x, x < m → ¬ Crwd ls jx (jg zs x).due) ∧ Below wx.heap.size wx wr) (fun _ _ _ _ i _ => n - (intOf i).toNat)
      case atStart => exact ⟨0, by omega, rfl, rfl, rfl, rfl, fun x hx => by omega, Below.refl _ _⟩
      case round =>
        obtain ⟨m, hm, rfl, rfl, rfl, rfl, HM, hwy⟩ := hrel
        rename World => wy
        by_cases hmt : m < n
        · have hmt' : (m : Int) < (n : Int) := by omega
          obtain ⟨b, off, hb', hbw, hat⟩ := J2.at_ (by omega)
          injection hb' with hb'; injection hb' with hb' ho' _; subst hb' ho'
          have hBy := hwx1.then hwy hwx1.size
          obtain ⟨hd0, hd1, hd2, hd3, hd4, hd5, hd6⟩ := (hat.below hBy hbw).job (i := m) (by omega)
          clear hat
          simp only [Nat.zero_add] at hd0 hd1 hd2 hd3 hd4 hd5 hd6
          obtain ⟨W0, hW0⟩ : ∃ W0, W0 = (wy.alloc (.cells #[.int .i64 (jg zs m).id, .int .i64 (jg zs m).cores, .int .i64 (jg zs m).long, .int .i64 (jg zs m).due, .int .i64 (jg zs m).wt, .int .i64 (jg zs m).rank, .int .i64 (jg zs m).at_] 49)) := ⟨_, rfl⟩
          obtain ⟨jy, hjy⟩ : ∃ jy, jy = (jg zs m).due := ⟨_, rfl⟩
          have hyb : 0 ≤ jy ∧ jy ≤ 200 := by
            rw [hjy]
            obtain ⟨j, hj, e⟩ := jg_mem HP2.out (i := m) (by omega)
            have := ho.bd hj
            rw [e] at this; omega
          have HJY : Hid _ := hjy
          have HB0 : Hid (Below wx.heap.size wx W0) := by rw [hW0]; exact hwy.alloc hwy.size _
          have G3 : W0.cell? ⟨wy.heap.size, 3, none⟩ = some (.int .i64 jy) := by rw [hW0, hjy]; simp
          have G6 : W0.cell? ⟨wr.heap.size, 6, none⟩ = some (.int .i64 jx) := (HB0.out.cell (p := ⟨wr.heap.size, 6, none⟩) F0).trans F6
          have hz0 : wy.heap.size < W0.heap.size := by rw [hW0]; simp
          have hz1 : wr.heap.size < W0.heap.size := by have := HB0.out.size; omega
          have HB3 : Hid (Below w3.heap.size w3 W0) := hwx1.then HB0.out hwx1.size
          have HKK : Hid (∀ w', Below W0.heap.size W0 w' → Below W0.heap.size W0 w' ∧ w'.cell? ⟨wr.heap.size, 6, none⟩ = some (.int .i64 jx) ∧ w'.cell? ⟨wy.heap.size, 3, none⟩ = some (.int .i64 jy)) := fun w' hg =>
            ⟨hg, (hg.cell (p := ⟨wr.heap.size, 6, none⟩) hz1).trans G6, (hg.cell (p := ⟨wy.heap.size, 3, none⟩) hz0).trans G3⟩
          have S0 : Below W0.heap.size W0 W0 := Below.refl _ _
          have KB : ∀ w', (Below W0.heap.size W0 w' ∧ w'.cell? ⟨wr.heap.size, 6, none⟩ = some (.int .i64 jx) ∧ w'.cell? ⟨wy.heap.size, 3, none⟩ = some (.int .i64 jy)) → Below W0.heap.size W0 w' := fun _ h => h.1
          obtain ⟨D, hD⟩ : ∃ D, D = demV ls jx jy := ⟨_, rfl⟩
          have CD : ∀ W, Below W0.heap.size W0 W → Calls Try.prog 37 #[.slice a n cap, .int .i64 jx, .int .i64 jy] W fun e w' => e = .returned (.int .i64 D) ∧ Below W.heap.size W w' := fun W hW => by
            have := implDemand_any a n cap ls jx jy W (h3.below (HB3.out.then hW HB3.out.size))
            rwa [demF_t HQ.out, ← hD] at this
          have CU : ∀ W, Calls Try.prog 75 #[.int .i64 jx, .int .i64 jy] W fun e w' => e = .returned (.int .i64 (max 0 (jy - jx))) ∧ w' = W := fun W => by
            have := implUntil_any jx jy W
            rwa [untilTask hjb hyb] at this
          obtain ⟨U, hU⟩ : ∃ U, U = max 0 (jy - jx) := ⟨_, rfl⟩
          rw [← hU] at CU
          have HUD : Hid (U = max 0 (jy - jx) ∧ D = demV ls jx jy) := ⟨hU, hD⟩
          have HW0 : Hid _ := hW0
          clear hW0 hjy hD hU hjb hyb
          by_cases hc : U < D
          · have HC : Hid (IsCrw ls jx jy true) := Or.inr ⟨HQ.out, Or.inr ⟨rfl, ⟨by
                obtain ⟨j, hj, e⟩ := jg_mem HP1.out (i := k) (by omega)
                exact ⟨j, hj, by rw [e]; exact HJX.out.symm⟩, by
                obtain ⟨j, hj, e⟩ := jg_mem HP2.out (i := m) (by omega)
                exact ⟨j, hj, by rw [e]; exact HJY.out.symm⟩, by rw [← HUD.out.1, ← HUD.out.2]; exact hc⟩, fun x y hab => by
              obtain ⟨⟨p, hp, e1⟩, ⟨q, hq, e2⟩⟩ := hab.at_ HP1.out HP2.out
              by_cases hpk : p < k
              · exact absurd hab (by rw [← e1]; exact HK.out p hpk y)
              · have h1 := HS1.out k p (by omega) hp
                rw [e1, ← HJX.out] at h1
                by_cases ex : jx = x
                · subst ex
                  by_cases hqm : q < m
                  · exact absurd hab (by rw [← e2]; exact HM.out q hqm)
                  · have h2 := HS2.out m q (by omega) hq
                    rw [e2, ← HJY.out] at h2
                    exact Or.inr ⟨rfl, h2⟩
                · exact Or.inl (by omega)⟩⟩
            go_wp2_with fail
            rw [← HW0.out]
            clear HW0 hd0 hd1 hd2 hd3 hd4 hd5 hd6 G3 G6 hwy hBy
            have K0 := HKK.out _ S0
            go_region_held3 (fun w' => Below W0.heap.size W0 w' ∧ w'.cell? ⟨wr.heap.size, 6, none⟩ = some (.int .i64 jx) ∧ w'.cell? ⟨wy.heap.size, 3, none⟩ = some (.int .i64 jy)) ((refine HKK.out _ ?_; first | with_reducible exact SB | with_reducible exact SB.drew | with_reducible exact S0.drew | with_reducible exact S0)) (first
              | (go_at_call 37; refine (CD _ (KB _ (by assumption))).mono ?_; rintro e w1 ⟨rfl, hb1⟩; have SB : Below W0.heap.size W0 w1 := (KB _ (by assumption)).then hb1 (KB _ (by assumption)).size)
              | (go_at_call 75; refine (CU _).mono ?_; rintro e w2 ⟨rfl, hq2⟩; have SB : Below W0.heap.size W0 w2 := (by rw [hq2]; exact KB _ (by assumption)); clear hq2))
            all_goals
              have K1 := HKK.out _ SB
              obtain ⟨_, k6, k3⟩ := K1
              go_wp2_with fail
              go_region
              go_wp2
              try rw [Exit.noGoto_ret]
              exact bodyPost_ret (v := .tuple #[.int .i64 jx, .int .i64 jy, .bool true]) (by simp [results, Try.results29, go_sem]) rfl ⟨jx, jy, true, rfl, HC.out, HU.out _ (HB3.out.then (by first | exact SB | exact SB.drew | exact SB.drew.drew) HB3.out.size)⟩
          · have HN : Hid (∀ x, x < m + 1 → ¬ Crwd ls jx (jg zs x).due) := fun x hx => by
              by_cases e : x = m
              · subst e
                intro hab
                have := hab.2.2
                rw [← HJY.out, ← HUD.out.1, ← HUD.out.2] at this
                exact hc this
              · exact HM.out x (by omega)
            go_wp2_with fail
            rw [← HW0.out]
            clear HW0 hd0 hd1 hd2 hd3 hd4 hd5 hd6 G3 G6 hwy hBy
            have K0 := HKK.out _ S0
            go_region_held3 (fun w' => Below W0.heap.size W0 w' ∧ w'.cell? ⟨wr.heap.size, 6, none⟩ = some (.int .i64 jx) ∧ w'.cell? ⟨wy.heap.size, 3, none⟩ = some (.int .i64 jy)) ((refine HKK.out _ ?_; first | with_reducible exact SB | with_reducible exact SB.drew | with_reducible exact S0.drew | with_reducible exact S0)) (first
              | (go_at_call 37; refine (CD _ (KB _ (by assumption))).mono ?_; rintro e w1 ⟨rfl, hb1⟩; have SB : Below W0.heap.size W0 w1 := (KB _ (by assumption)).then hb1 (KB _ (by assumption)).size)
              | (go_at_call 75; refine (CU _).mono ?_; rintro e w2 ⟨rfl, hq2⟩; have SB : Below W0.heap.size W0 w2 := (by rw [hq2]; exact KB _ (by assumption)); clear hq2))
            all_goals
              go_wp2
              go_roundw
              case rel => exact ⟨m + 1, by omega, by go_num, rfl, rfl, rfl, HN, HB0.out.then (by first | exact SB | exact SB.drew | exact SB.drew.drew) HB0.out.size⟩
              case measure => simp [intOf]; omega
        · obtain rfl : m = n := by omega
          have HN : Hid (∀ x, x < k + 1 → ∀ b, ¬ Crwd ls (jg ys x).at_ b) := fun x hx b hab => by
            by_cases e : x = k
            · subst e
              obtain ⟨_, q, hq, e2⟩ := hab.at_ HP1.out HP2.out
              exact HM.out q (by omega) (by rw [HJX.out, e2]; exact hab)
            · exact HK.out x (by omega) b hab
          have HB : Hid (Below w3.heap.size w3 wy) := hwx1.then hwy hwx1.size
          go_wp2
          go_roundw
          case rel => exact ⟨k + 1, by omega, by go_num, rfl, rfl, rfl, HN, HB.out⟩
          case measure => simp [intOf]; omega
    · obtain rfl : k = n := by omega
      have HC : Hid (IsCrw ls 0 0 false) := Or.inr ⟨HQ.out, Or.inl ⟨rfl, rfl, rfl, fun a b hab => by
        obtain ⟨⟨p, hp, e⟩, _⟩ := hab.at_ HP1.out HP2.out
        exact HK.out p (by omega) b (by rw [e]; exact hab)⟩⟩
      go_wp2
      rw [Exit.noGoto_ret]
      exact bodyPost_ret (v := .tuple #[.int .i64 0, .int .i64 0, .bool false]) (by simp [results, Try.results29, go_sem]) rfl ⟨0, 0, false, rfl, HC.out, HU.out _ hw⟩

end Go.Proofs.Ytmaojjjdepgaeaa
