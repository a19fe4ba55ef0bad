/- The faces Later and Until, of the model and of the program. -/
import Derived.Test.YtebbjmdfjmnbbaaDoorTime
namespace Go.Proofs.YtebbjmdfjmnbbaaDoor

def faceI (f : Int → Int → Int) (t b : Int) : Int := if okB t = true then if okB b = true then f t b else -1 else -1

theorem face_tt {f : Int → Int → Int} {t b : Int} (h : okB t = true) (h' : okB b = true) : faceI f t b = f t b := by unfold faceI; rw [if_pos h, if_pos h']
theorem face_f {f : Int → Int → Int} {t b : Int} (h : okB t = false) : faceI f t b = -1 := by unfold faceI; rw [if_neg (by rw [h]; simp)]
theorem face_tf {f : Int → Int → Int} {t b : Int} (h : okB t = true) (h' : okB b = false) : faceI f t b = -1 := by unfold faceI; rw [if_pos h, if_neg (by rw [h']; simp)]

theorem specLater_any (t b : Int) (w : World) :
    Calls Tryd.prog 11 #[.int .i64 t, .int .i64 b] w fun e w' => e = .returned (.int .i64 (faceI laterI t b)) ∧ w' = w := by
  by_cases c1 : okB t = true
  · by_cases c2 : okB b = true
    · rw [face_tt c1 c2]
      obtain ⟨t0, t1⟩ := okB_t c1
      obtain ⟨b0, b1⟩ := okB_t c2
      go_enter Tryd.func11, Tryd.ntmps11
      go_wp2_with (first | (go_at_call 17; refine (specOk_any _ _).mono ?_; rintro e w' ⟨rfl, rfl⟩) | (go_at_call 27; refine (l1Later_any _ _ _ (by assumption) (by assumption) (by assumption) (by assumption)).mono ?_; rintro e w' ⟨rfl, rfl⟩))
      go_ret
      exact ⟨rfl, rfl⟩
    · simp only [Bool.not_eq_true] at c2
      rw [face_tf c1 c2]
      go_enter Tryd.func11, Tryd.ntmps11
      go_wp2_with (first | (go_at_call 17; refine (specOk_any _ _).mono ?_; rintro e w' ⟨rfl, rfl⟩))
      go_ret
      exact ⟨rfl, rfl⟩
  · simp only [Bool.not_eq_true] at c1
    rw [face_f c1]
    go_enter Tryd.func11, Tryd.ntmps11
    go_wp2_with (first | (go_at_call 17; refine (specOk_any _ _).mono ?_; rintro e w' ⟨rfl, rfl⟩))
    go_ret
    exact ⟨rfl, rfl⟩

theorem implLater_any (t b : Int) (w : World) :
    Calls Tryd.prog 6 #[.int .i64 t, .int .i64 b] w fun e w' => e = .returned (.int .i64 (faceI laterI t b)) ∧ w' = w := by
  by_cases c1 : okB t = true
  · by_cases c2 : okB b = true
    · rw [face_tt c1 c2]
      obtain ⟨t0, t1⟩ := okB_t c1
      obtain ⟨b0, b1⟩ := okB_t c2
      go_enter Tryd.func6, Tryd.ntmps6
      go_wp2_with (first | (go_at_call 16; refine (implOk_any _ _).mono ?_; rintro e w' ⟨rfl, rfl⟩) | (go_at_call 21; go_in) | (go_at_call 22; refine (mLater_any _ _ _ (by assumption) (by assumption) (by assumption) (by assumption)).mono ?_; rintro e w' ⟨rfl, rfl⟩))
      go_ret
      exact ⟨rfl, rfl⟩
    · simp only [Bool.not_eq_true] at c2
      rw [face_tf c1 c2]
      go_enter Tryd.func6, Tryd.ntmps6
      go_wp2_with (first | (go_at_call 16; refine (implOk_any _ _).mono ?_; rintro e w' ⟨rfl, rfl⟩) | (go_at_call 21; go_in))
      go_ret
      exact ⟨rfl, rfl⟩
  · simp only [Bool.not_eq_true] at c1
    rw [face_f c1]
    go_enter Tryd.func6, Tryd.ntmps6
    go_wp2_with (first | (go_at_call 16; refine (implOk_any _ _).mono ?_; rintro e w' ⟨rfl, rfl⟩) | (go_at_call 21; go_in))
    go_ret
    exact ⟨rfl, rfl⟩

theorem specUntil_any (t b : Int) (w : World) :
    Calls Tryd.prog 12 #[.int .i64 t, .int .i64 b] w fun e w' => e = .returned (.int .i64 (faceI untilI t b)) ∧ w' = w := by
  by_cases c1 : okB t = true
  · by_cases c2 : okB b = true
    · rw [face_tt c1 c2]
      obtain ⟨t0, t1⟩ := okB_t c1
      obtain ⟨b0, b1⟩ := okB_t c2
      go_enter Tryd.func12, Tryd.ntmps12
      go_wp2_with (first | (go_at_call 17; refine (specOk_any _ _).mono ?_; rintro e w' ⟨rfl, rfl⟩) | (go_at_call 28; refine (l1Until_any _ _ _ (by assumption) (by assumption) (by assumption) (by assumption)).mono ?_; rintro e w' ⟨rfl, rfl⟩))
      go_ret
      exact ⟨rfl, rfl⟩
    · simp only [Bool.not_eq_true] at c2
      rw [face_tf c1 c2]
      go_enter Tryd.func12, Tryd.ntmps12
      go_wp2_with (first | (go_at_call 17; refine (specOk_any _ _).mono ?_; rintro e w' ⟨rfl, rfl⟩))
      go_ret
      exact ⟨rfl, rfl⟩
  · simp only [Bool.not_eq_true] at c1
    rw [face_f c1]
    go_enter Tryd.func12, Tryd.ntmps12
    go_wp2_with (first | (go_at_call 17; refine (specOk_any _ _).mono ?_; rintro e w' ⟨rfl, rfl⟩))
    go_ret
    exact ⟨rfl, rfl⟩

theorem implUntil_any (t b : Int) (w : World) :
    Calls Tryd.prog 7 #[.int .i64 t, .int .i64 b] w fun e w' => e = .returned (.int .i64 (faceI untilI t b)) ∧ w' = w := by
  by_cases c1 : okB t = true
  · by_cases c2 : okB b = true
    · rw [face_tt c1 c2]
      obtain ⟨t0, t1⟩ := okB_t c1
      obtain ⟨b0, b1⟩ := okB_t c2
      go_enter Tryd.func7, Tryd.ntmps7
      go_wp2_with (first | (go_at_call 16; refine (implOk_any _ _).mono ?_; rintro e w' ⟨rfl, rfl⟩) | (go_at_call 21; go_in) | (go_at_call 23; refine (mUntil_any _ _ _ (by assumption) (by assumption) (by assumption) (by assumption)).mono ?_; rintro e w' ⟨rfl, rfl⟩))
      go_ret
      exact ⟨rfl, rfl⟩
    · simp only [Bool.not_eq_true] at c2
      rw [face_tf c1 c2]
      go_enter Tryd.func7, Tryd.ntmps7
      go_wp2_with (first | (go_at_call 16; refine (implOk_any _ _).mono ?_; rintro e w' ⟨rfl, rfl⟩) | (go_at_call 21; go_in))
      go_ret
      exact ⟨rfl, rfl⟩
  · simp only [Bool.not_eq_true] at c1
    rw [face_f c1]
    go_enter Tryd.func7, Tryd.ntmps7
    go_wp2_with (first | (go_at_call 16; refine (implOk_any _ _).mono ?_; rintro e w' ⟨rfl, rfl⟩) | (go_at_call 21; go_in))
    go_ret
    exact ⟨rfl, rfl⟩

theorem reckonLaterOf_any (t u : Int) (w : World) :
    Calls Tryd.prog 21 #[.func (.func 24) #[.int .i64 t] #[], .int .i64 t, .int .i64 u] w fun e w' => e = .returned (.int .i64 (faceI max t u)) ∧ w' = w := by
  by_cases c1 : okB t = true
  · by_cases c2 : okB u = true
    · rw [face_tt c1 c2]
      obtain ⟨t0, t1⟩ := okB_t c1
      obtain ⟨b0, b1⟩ := okB_t c2
      go_enter Tryd.func21, Tryd.ntmps21
      go_wp2_with (first | (go_at_call 16; refine (implOk_any _ _).mono ?_; rintro e w' ⟨rfl, rfl⟩) | (go_at_call 24; refine (mLaterOf_any _ _ _).mono ?_; rintro e w' ⟨rfl, rfl⟩))
      go_ret
      exact ⟨rfl, rfl⟩
    · simp only [Bool.not_eq_true] at c2
      rw [face_tf c1 c2]
      go_enter Tryd.func21, Tryd.ntmps21
      go_wp2_with (first | (go_at_call 16; refine (implOk_any _ _).mono ?_; rintro e w' ⟨rfl, rfl⟩))
      go_ret
      exact ⟨rfl, rfl⟩
  · simp only [Bool.not_eq_true] at c1
    rw [face_f c1]
    go_enter Tryd.func21, Tryd.ntmps21
    go_wp2_with (first | (go_at_call 16; refine (implOk_any _ _).mono ?_; rintro e w' ⟨rfl, rfl⟩))
    go_ret
    exact ⟨rfl, rfl⟩

theorem reckonEarlierOf_any (t u : Int) (w : World) :
    Calls Tryd.prog 21 #[.func (.func 25) #[.int .i64 t] #[], .int .i64 t, .int .i64 u] w fun e w' => e = .returned (.int .i64 (faceI min t u)) ∧ w' = w := by
  by_cases c1 : okB t = true
  · by_cases c2 : okB u = true
    · rw [face_tt c1 c2]
      obtain ⟨t0, t1⟩ := okB_t c1
      obtain ⟨b0, b1⟩ := okB_t c2
      go_enter Tryd.func21, Tryd.ntmps21
      go_wp2_with (first | (go_at_call 16; refine (implOk_any _ _).mono ?_; rintro e w' ⟨rfl, rfl⟩) | (go_at_call 25; refine (mEarlierOf_any _ _ _).mono ?_; rintro e w' ⟨rfl, rfl⟩))
      go_ret
      exact ⟨rfl, rfl⟩
    · simp only [Bool.not_eq_true] at c2
      rw [face_tf c1 c2]
      go_enter Tryd.func21, Tryd.ntmps21
      go_wp2_with (first | (go_at_call 16; refine (implOk_any _ _).mono ?_; rintro e w' ⟨rfl, rfl⟩))
      go_ret
      exact ⟨rfl, rfl⟩
  · simp only [Bool.not_eq_true] at c1
    rw [face_f c1]
    go_enter Tryd.func21, Tryd.ntmps21
    go_wp2_with (first | (go_at_call 16; refine (implOk_any _ _).mono ?_; rintro e w' ⟨rfl, rfl⟩))
    go_ret
    exact ⟨rfl, rfl⟩

theorem reckonUntil_any (t u : Int) (w : World) :
    Calls Tryd.prog 21 #[.func (.func 23) #[.int .i64 t] #[], .int .i64 t, .int .i64 u] w fun e w' => e = .returned (.int .i64 (faceI untilI t u)) ∧ w' = w := by
  by_cases c1 : okB t = true
  · by_cases c2 : okB u = true
    · rw [face_tt c1 c2]
      obtain ⟨t0, t1⟩ := okB_t c1
      obtain ⟨b0, b1⟩ := okB_t c2
      go_enter Tryd.func21, Tryd.ntmps21
      go_wp2_with (first | (go_at_call 16; refine (implOk_any _ _).mono ?_; rintro e w' ⟨rfl, rfl⟩) | (go_at_call 23; refine (mUntil_any _ _ _ (by assumption) (by assumption) (by assumption) (by assumption)).mono ?_; rintro e w' ⟨rfl, rfl⟩))
      go_ret
      exact ⟨rfl, rfl⟩
    · simp only [Bool.not_eq_true] at c2
      rw [face_tf c1 c2]
      go_enter Tryd.func21, Tryd.ntmps21
      go_wp2_with (first | (go_at_call 16; refine (implOk_any _ _).mono ?_; rintro e w' ⟨rfl, rfl⟩))
      go_ret
      exact ⟨rfl, rfl⟩
  · simp only [Bool.not_eq_true] at c1
    rw [face_f c1]
    go_enter Tryd.func21, Tryd.ntmps21
    go_wp2_with (first | (go_at_call 16; refine (implOk_any _ _).mono ?_; rintro e w' ⟨rfl, rfl⟩))
    go_ret
    exact ⟨rfl, rfl⟩

/-- how long two stretches are together -/
def overI (a b c d : Int) : Int := if okB a = true ∧ okB b = true ∧ okB c = true ∧ okB d = true then untilI (max a c) (min b d) else -1

theorem okB_max {a c : Int} (h : okB a = true) (h' : okB c = true) : okB (max a c) = true := by
  have := okB_t h; have := okB_t h'; unfold okB inB; simp; omega

theorem okB_min {a c : Int} (h : okB a = true) (h' : okB c = true) : okB (min a c) = true := by
  have := okB_t h; have := okB_t h'; unfold okB inB; simp; omega

theorem overI_not {a b c d : Int} (h : ¬ (okB a = true ∧ okB b = true ∧ okB c = true ∧ okB d = true)) : overI a b c d = -1 := by
  unfold overI; rw [if_neg h]

theorem overI_yes {a b c d : Int} (ha : okB a = true) (hb : okB b = true) (hc : okB c = true) (hd : okB d = true) : overI a b c d = untilI (max a c) (min b d) := by
  unfold overI; rw [if_pos ⟨ha, hb, hc, hd⟩]

theorem overI_zero {a b c d : Int} (ha : okB a = true) (hb : okB b = true) (hc : okB c = true) (hd : okB d = true) (h : b ≤ a ∨ d ≤ c) : overI a b c d = 0 := by
  rw [overI_yes ha hb hc hd]
  have := okB_t ha; have := okB_t hb; have := okB_t hc; have := okB_t hd
  unfold untilI; split <;> (try split) <;> omega

theorem okB_neg : okB (-1) = false := by decide

theorem over_faces (a b c d : Int) : faceI untilI (faceI max a c) (faceI min b d) = overI a b c d := by
  by_cases ha : okB a = true
  · by_cases hc : okB c = true
    · rw [face_tt ha hc]
      by_cases hb : okB b = true
      · by_cases hd : okB d = true
        · rw [face_tt hb hd, face_tt (okB_max ha hc) (okB_min hb hd), overI_yes ha hb hc hd]
        · rw [overI_not (by simp [hd]), face_tf hb (by simpa using hd), face_tf (okB_max ha hc) okB_neg]
      · have hb' : okB b = false := by simpa using hb
        rw [overI_not (by simp [hb]), face_f (f := min) hb', face_tf (okB_max ha hc) okB_neg]
    · rw [overI_not (by simp [hc]), face_tf ha (by simpa using hc), face_f okB_neg]
  · have ha' : okB a = false := by simpa using ha
    rw [overI_not (by simp [ha]), face_f (f := max) ha', face_f okB_neg]

theorem implOverlap_any (a b c d : Int) (w : World) :
    Calls Tryd.prog 9 #[.int .i64 a, .int .i64 b, .int .i64 c, .int .i64 d] w fun e w' => e = .returned (.int .i64 (overI a b c d)) ∧ w' = w := by
  rw [← over_faces]
  go_enter Tryd.func9, Tryd.ntmps9
  go_wp2_with fail
  refine (reckonLaterOf_any _ _ _).mono ?_
  rintro e w' ⟨rfl, rfl⟩
  go_wp2_with fail
  refine (reckonEarlierOf_any _ _ _).mono ?_
  rintro e w' ⟨rfl, rfl⟩
  go_wp2_with fail
  refine (reckonUntil_any _ _ _).mono ?_
  rintro e w' ⟨rfl, rfl⟩
  go_wp2_with fail
  go_ret
  exact ⟨rfl, rfl⟩

theorem specOverlap_any (a b c d : Int) (w : World) :
    Calls Tryd.prog 13 #[.int .i64 a, .int .i64 b, .int .i64 c, .int .i64 d] w fun e w' => e = .returned (.int .i64 (overI a b c d)) ∧ w' = w := by
  by_cases ha : okB a = true
  · by_cases hb : okB b = true
    · by_cases hc : okB c = true
      · by_cases hd : okB d = true
        · have h0 := okB_t ha
          have h1 := okB_t hb
          have h2 := okB_t hc
          have h3 := okB_t hd
          by_cases k : b ≤ a
          · rw [overI_zero ha hb hc hd (Or.inl k)]
            go_enter Tryd.func13, Tryd.ntmps13
            go_wp2_with (go_at_call 17; refine (specOk_any _ _).mono ?_; rintro e w' ⟨rfl, rfl⟩)
            go_ret
            exact ⟨rfl, rfl⟩
          · by_cases k' : d ≤ c
            · rw [overI_zero ha hb hc hd (Or.inr k')]
              go_enter Tryd.func13, Tryd.ntmps13
              go_wp2_with (go_at_call 17; refine (specOk_any _ _).mono ?_; rintro e w' ⟨rfl, rfl⟩)
              go_ret
              exact ⟨rfl, rfl⟩
            · rw [overI_yes ha hb hc hd]
              go_enter Tryd.func13, Tryd.ntmps13
              go_wp2_with (first | (go_at_call 17; refine (specOk_any _ _).mono ?_; rintro e w' ⟨rfl, rfl⟩) | (go_at_call 29; refine (l1Max_any _ _ _).mono ?_; rintro e w' ⟨rfl, rfl⟩) | (go_at_call 30; refine (l1Min_any _ _ _).mono ?_; rintro e w' ⟨rfl, rfl⟩) | (go_at_call 28; refine (l1Until_any _ _ _ (by omega) (by omega) (by omega) (by omega)).mono ?_; rintro e w' ⟨rfl, rfl⟩))
              go_ret
              exact ⟨rfl, rfl⟩
        · rw [overI_not (by simp [hd])]
          simp only [Bool.not_eq_true] at hd
          go_enter Tryd.func13, Tryd.ntmps13
          go_wp2_with (go_at_call 17; refine (specOk_any _ _).mono ?_; rintro e w' ⟨rfl, rfl⟩)
          go_ret
          exact ⟨rfl, rfl⟩
      · rw [overI_not (by simp [hc])]
        simp only [Bool.not_eq_true] at hc
        go_enter Tryd.func13, Tryd.ntmps13
        go_wp2_with (go_at_call 17; refine (specOk_any _ _).mono ?_; rintro e w' ⟨rfl, rfl⟩)
        go_ret
        exact ⟨rfl, rfl⟩
    · rw [overI_not (by simp [hb])]
      simp only [Bool.not_eq_true] at hb
      go_enter Tryd.func13, Tryd.ntmps13
      go_wp2_with (go_at_call 17; refine (specOk_any _ _).mono ?_; rintro e w' ⟨rfl, rfl⟩)
      go_ret
      exact ⟨rfl, rfl⟩
  · rw [overI_not (by simp [ha])]
    simp only [Bool.not_eq_true] at ha
    go_enter Tryd.func13, Tryd.ntmps13
    go_wp2_with (go_at_call 17; refine (specOk_any _ _).mono ?_; rintro e w' ⟨rfl, rfl⟩)
    go_ret
    exact ⟨rfl, rfl⟩

end Go.Proofs.YtebbjmdfjmnbbaaDoor
