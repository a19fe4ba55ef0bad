/- The faces Later and Until, of the model and of the program. -/
import Derived.Test.YtplcpiglciplkaaTime
namespace Go.Proofs.Ytplcpiglciplkaa

def faceI (f : Int → Int → Int) (t b : Int) : Int := if okB t = true then if okB b = true then f t b else -1 else -1

theorem face_tt {f : Int → Int → Int} {t b : Int} (h : okB t = true) (h' : okB b = true) : faceI f t b = f t b := by unfold faceI; rw [if_pos h, if_pos h']
theorem face_f {f : Int → Int → Int} {t b : Int} (h : okB t = false) : faceI f t b = -1 := by unfold faceI; rw [if_neg (by rw [h]; simp)]
theorem face_tf {f : Int → Int → Int} {t b : Int} (h : okB t = true) (h' : okB b = false) : faceI f t b = -1 := by unfold faceI; rw [if_pos h, if_neg (by rw [h']; simp)]

theorem specLater_any (t b : Int) (w : World) :
    Calls Try.prog 29 #[.int .i64 t, .int .i64 b] w fun e w' => e = .returned (.int .i64 (faceI laterI t b)) ∧ w' = w := by
  by_cases c1 : okB t = true
  · by_cases c2 : okB b = true
    · rw [face_tt c1 c2]
      obtain ⟨t0, t1⟩ := okB_t c1
      obtain ⟨b0, b1⟩ := okB_t c2
      go_enter Try.func29, Try.ntmps29
      go_wp2_with (first | (go_at_call 58; refine (specOk_any _ _).mono ?_; rintro e w' ⟨rfl, rfl⟩) | (go_at_call 64; refine (l1Later_any _ _ _ (by assumption) (by assumption) (by assumption) (by assumption)).mono ?_; rintro e w' ⟨rfl, rfl⟩))
      go_ret
      exact ⟨rfl, rfl⟩
    · simp only [Bool.not_eq_true] at c2
      rw [face_tf c1 c2]
      go_enter Try.func29, Try.ntmps29
      go_wp2_with (first | (go_at_call 58; refine (specOk_any _ _).mono ?_; rintro e w' ⟨rfl, rfl⟩))
      go_ret
      exact ⟨rfl, rfl⟩
  · simp only [Bool.not_eq_true] at c1
    rw [face_f c1]
    go_enter Try.func29, Try.ntmps29
    go_wp2_with (first | (go_at_call 58; refine (specOk_any _ _).mono ?_; rintro e w' ⟨rfl, rfl⟩))
    go_ret
    exact ⟨rfl, rfl⟩

theorem implLater_any (t b : Int) (w : World) :
    Calls Try.prog 61 #[.int .i64 t, .int .i64 b] w fun e w' => e = .returned (.int .i64 (faceI laterI t b)) ∧ w' = w := by
  by_cases c1 : okB t = true
  · by_cases c2 : okB b = true
    · rw [face_tt c1 c2]
      obtain ⟨t0, t1⟩ := okB_t c1
      obtain ⟨b0, b1⟩ := okB_t c2
      go_enter Try.func61, Try.ntmps61
      go_wp2_with (first | (go_at_call 86; refine (implOk_any _ _).mono ?_; rintro e w' ⟨rfl, rfl⟩) | (go_at_call 91; go_in) | (go_at_call 92; refine (mLater_any _ _ _ (by assumption) (by assumption) (by assumption) (by assumption)).mono ?_; rintro e w' ⟨rfl, rfl⟩))
      go_ret
      exact ⟨rfl, rfl⟩
    · simp only [Bool.not_eq_true] at c2
      rw [face_tf c1 c2]
      go_enter Try.func61, Try.ntmps61
      go_wp2_with (first | (go_at_call 86; refine (implOk_any _ _).mono ?_; rintro e w' ⟨rfl, rfl⟩) | (go_at_call 91; go_in))
      go_ret
      exact ⟨rfl, rfl⟩
  · simp only [Bool.not_eq_true] at c1
    rw [face_f c1]
    go_enter Try.func61, Try.ntmps61
    go_wp2_with (first | (go_at_call 86; refine (implOk_any _ _).mono ?_; rintro e w' ⟨rfl, rfl⟩) | (go_at_call 91; go_in))
    go_ret
    exact ⟨rfl, rfl⟩

/-- how long two stretches are together -/
def overI (a b c d : Int) : Int := if okB a = true ∧ okB b = true ∧ okB c = true ∧ okB d = true then untilI (max a c) (min b d) else -1

theorem okB_max {a c : Int} (h : okB a = true) (h' : okB c = true) : okB (max a c) = true := by
  have := okB_t h; have := okB_t h'; unfold okB inB; simp; omega

theorem okB_min {a c : Int} (h : okB a = true) (h' : okB c = true) : okB (min a c) = true := by
  have := okB_t h; have := okB_t h'; unfold okB inB; simp; omega

theorem overI_not {a b c d : Int} (h : ¬ (okB a = true ∧ okB b = true ∧ okB c = true ∧ okB d = true)) : overI a b c d = -1 := by
  unfold overI; rw [if_neg h]

theorem overI_yes {a b c d : Int} (ha : okB a = true) (hb : okB b = true) (hc : okB c = true) (hd : okB d = true) : overI a b c d = untilI (max a c) (min b d) := by
  unfold overI; rw [if_pos ⟨ha, hb, hc, hd⟩]

theorem overI_zero {a b c d : Int} (ha : okB a = true) (hb : okB b = true) (hc : okB c = true) (hd : okB d = true) (h : b ≤ a ∨ d ≤ c) : overI a b c d = 0 := by
  rw [overI_yes ha hb hc hd]
  have := okB_t ha; have := okB_t hb; have := okB_t hc; have := okB_t hd
  unfold untilI; split <;> (try split) <;> omega

theorem okB_neg : okB (-1) = false := by decide

theorem over_faces (a b c d : Int) : faceI untilI (faceI max a c) (faceI min b d) = overI a b c d := by
  by_cases ha : okB a = true
  · by_cases hc : okB c = true
    · rw [face_tt ha hc]
      by_cases hb : okB b = true
      · by_cases hd : okB d = true
        · rw [face_tt hb hd, face_tt (okB_max ha hc) (okB_min hb hd), overI_yes ha hb hc hd]
        · rw [overI_not (by simp [hd]), face_tf hb (by simpa using hd), face_tf (okB_max ha hc) okB_neg]
      · have hb' : okB b = false := by simpa using hb
        rw [overI_not (by simp [hb]), face_f (f := min) hb', face_tf (okB_max ha hc) okB_neg]
    · rw [overI_not (by simp [hc]), face_tf ha (by simpa using hc), face_f okB_neg]
  · have ha' : okB a = false := by simpa using ha
    rw [overI_not (by simp [ha]), face_f (f := max) ha', face_f okB_neg]

end Go.Proofs.Ytplcpiglciplkaa
