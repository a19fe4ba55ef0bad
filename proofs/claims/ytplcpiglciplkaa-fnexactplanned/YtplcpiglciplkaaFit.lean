/- Fit, of the model and of the program. -/
import Derived.Test.YtplcpiglciplkaaLev4
import Derived.Test.YtplcpiglciplkaaTimeFaces
namespace Go.Proofs.Ytplcpiglciplkaa
open Go.RowKit

theorem laterI_bd {t b : Int} (h : 0 ≤ t) (hb : 0 ≤ b) (h1 : t ≤ 1000000000) : t ≤ laterI t b ∧ laterI t b ≤ 1000000000 := by unfold laterI; split <;> omega

set_option maxHeartbeats 1000000 in
theorem firstFit_any (T x long n : Int) (B m : Nat) (ls : List Lev) (w : World) (po : PO T ls) (hx : okB x = true) (hl : okB long = true)
    (hL : LevS w (some ⟨B, 0, none⟩) m m (cpd ls x 1000000000)) (hm : m ≤ 200) :
    Calls Try.prog 110 #[.slice (some ⟨B, 0, none⟩) m m, .int .i64 long, .int .i64 n] w fun e w' => e = .returned (.int .i64 (fitI ls x long n)) ∧ Below w.heap.size w w' := by
  obtain ⟨x0, x1⟩ := okB_t hx
  obtain ⟨l0, l1⟩ := okB_t hl
  have hlen := hL.len
  have HS : Hid (LevS w (some ⟨B, 0, none⟩) m m (cpd ls x 1000000000)) := hL
  have HPO : Hid (PO T ls) := po
  clear hL po
  go_enter Try.func110, Try.ntmps110
  go_wp2
  go_step3
  go_wp2
  go_step3
  go_wp2
  go_loopg [7] (m + 1) (fun g s7 wx => ∃ F : Nat, F + g = m + 1 ∧ F ≤ m ∧ s7 = .int .i64 F ∧ Hid (∀ j, j < F → ¬ okFit (cpd ls x 1000000000) long n j) ∧ Below w.heap.size w wx)
  case atStart => exact ⟨0, by omega, by omega, rfl, fun j hj => by omega, Below.refl _ _⟩
  case round =>
    obtain ⟨F, hFg, hFm, rfl, HF, hw⟩ := hrel
    by_cases hlt : F < m
    · have hx2 : x < 1000000000 := by
        by_cases c : x < 1000000000
        · exact c
        · exfalso
          rw [cpd_len, dur_nil (by omega)] at hlen
          simp at hlen; omega
      obtain ⟨k1, k2, k3, k4⟩ := HPO.out.cpd_lvl x0 hx2 (j := F) (by omega)
      obtain ⟨b, off, hbo, hbw, hat⟩ := HS.out.at_ (by omega)
      cases hbo
      obtain ⟨q0, q1⟩ := cells_below (k := F) hat hw hbw (by omega)
      simp only [Nat.zero_add] at q0 q1
      have OK : okB (fr (cpd ls x 1000000000) F) = true := by unfold okB; exact inB_mk ⟨by omega, by omega⟩
      obtain ⟨z0, z1⟩ := laterI_bd (t := fr (cpd ls x 1000000000) F) (b := long) (by omega) l0 (by omega)
      have HLA : Hid (LevAt w B 0 (cpd ls x 1000000000)) := hat
      clear k1 k4 hat
      go_wp2_with (go_at_call 61; refine (implLater_any _ _ _).mono ?_; rw [face_tt OK hl]; rintro e w' ⟨rfl, hq⟩; have hq' := hq.symm; clear hq; subst hq')
      go_loopg [7, 28] (m - F + 1) (fun g s7 s28 wx => ∃ i : Nat, i + g = m - F + 1 ∧ i ≤ m - F ∧ s7 = .int .i64 F ∧ s28 = .int .i64 i ∧ Hid (∀ q, F ≤ q → q < F + i → n ≤ fe (cpd ls x 1000000000) q) ∧ Below w.heap.size w wx)
      case atStart => exact ⟨0, by omega, by omega, rfl, rfl, fun q h1 h2 => by omega, hw⟩
      case round =>
        obtain ⟨i, hig, him, rfl, rfl, HI, hw2⟩ := hrel
        obtain ⟨t0, t1⟩ := cells_below (k := F) HLA.out hw2 hbw (by omega)
        simp only [Nat.zero_add] at t0 t1
        have hz := hw2.size
        have hBr : B < wr.heap.size := by omega
        by_cases hi : i < m - F
        · obtain ⟨r0, r1⟩ := cells_below (k := F + i) HLA.out hw2 hbw (by omega)
          rw [show 0 + (F + i) * 2 = F * 2 + i * 2 from by omega] at r0 r1
          by_cases d1 : laterI (fr (cpd ls x 1000000000) F) long ≤ fr (cpd ls x 1000000000) (F + i)
          · have R : Hid (fitI ls x long n = fr (cpd ls x 1000000000) F) := fitI_at (by omega) (HPO.out.okFit_mk x0 hx2 (p := F + i) (fun _ => d1) HI.out) HF.out
            go_wp2
            try rw [Exit.noGoto_ret]
            go_ret
            exact ⟨by rw [R.out]; rfl, hw2.alloc hw2.size _⟩
          · by_cases d2 : fe (cpd ls x 1000000000) (F + i) < n
            · have N : Hid (∀ j, j < F + i + 1 → ¬ okFit (cpd ls x 1000000000) long n j) := by
                intro j hj
                by_cases hjF : j < F
                · exact HF.out j hjF
                · exact HPO.out.okFit_skip x0 hx2 (j := F) (p := F + i) (by omega) (by omega) d2 j (by omega) (by omega)
              go_wp2
              go_roundg (m - (F + i))
              case measure => omega
              case rel => exact ⟨F + i + 1, by omega, by omega, by go_num, N.out, hw2.alloc hw2.size _⟩
            · have N : Hid (∀ q, F ≤ q → q < F + (i + 1) → n ≤ fe (cpd ls x 1000000000) q) := by
                intro q h1 h2
                by_cases e : q = F + i
                · subst e; omega
                · exact HI.out q h1 (by omega)
              go_wp2
              go_roundg (m - F - i)
              case measure => omega
              case rel => exact ⟨i + 1, by omega, by omega, rfl, by go_num, N.out, hw2.alloc hw2.size _⟩
        · have R : Hid (fitI ls x long n = fr (cpd ls x 1000000000) F) := fitI_at (by omega) (HPO.out.okFit_mk x0 hx2 (p := F + i) (fun h => by omega) HI.out) HF.out
          go_wp2
          try rw [Exit.noGoto_ret]
          go_ret
          exact ⟨by rw [R.out]; rfl, hw2⟩
    · have e : F = m := by omega
      subst e
      have R : Hid (fitI ls x long n = 1000000000) := fitI_no (fun j hj => HF.out j (by omega))
      go_wp2
      try rw [Exit.noGoto_ret]
      go_ret
      exact ⟨by rw [R.out]; rfl, hw⟩

/-- what Fit tells -/
noncomputable def fitF (T : Int) (ls : List Lev) (x long n : Int) : Int := if (poB T ls && (okB x && (okB long && inB n 0 T))) = true then fitI ls x long n else -1
theorem fitF_t {T : Int} {ls : List Lev} {x long n : Int} (h : (poB T ls && (okB x && (okB long && inB n 0 T))) = true) : fitF T ls x long n = fitI ls x long n := by unfold fitF; rw [if_pos h]
theorem fitF_f {T : Int} {ls : List Lev} {x long n : Int} (h : (poB T ls && (okB x && (okB long && inB n 0 T))) = false) : fitF T ls x long n = -1 := by unfold fitF; rw [if_neg (by rw [h]; simp)]

theorem cpd_wf {T : Int} {ls : List Lev} (po : PO T ls) {x : Int} (hx : okB x = true) : ∀ i, i < (cpd ls x 1000000000).length → (-9223372036854775808 ≤ fr (cpd ls x 1000000000) i ∧ fr (cpd ls x 1000000000) i ≤ 9223372036854775807) ∧ (-9223372036854775808 ≤ fe (cpd ls x 1000000000) i ∧ fe (cpd ls x 1000000000) i ≤ 9223372036854775807) := by
  intro i hi
  have := areaTo_bd po (okB_t hx).1 (y := 1000000000) (by omega) hi
  omega

set_option maxHeartbeats 1000000 in
theorem implFit_any (T x long n' : Int) (a : Option Addr) (n cap : Nat) (ls : List Lev) (w : World) (h : LevS w a n cap ls) :
    Calls Try.prog 102 #[.agg #[.int .i64 T, .slice a n cap], .int .i64 x, .int .i64 long, .int .i64 n'] w fun e w' => e = .returned (.int .i64 (fitF T ls x long n')) ∧ Below w.heap.size w w' := by
  have w0 : Below w.heap.size w (w.alloc (.cells #[.int .i64 T, .slice a n cap] 26)) := box_below
  by_cases c : (poB T ls && (okB x && okB x)) = true
  · obtain ⟨c1, c2⟩ : poB T ls = true ∧ okB x = true := by simpa using c
    by_cases c3 : okB long = true
    · by_cases c4 : n' < 0
      · have e1 : fitF T ls x long n' = -1 := fitF_f (by rw [c1, c2, c3, inB_no (by omega)]; rfl)
        rw [e1]
        clear e1
        go_enter Try.func102, Try.ntmps102
        go_wp2_with fail
        refine (stretchOk_any T x x a n cap ls _ (h.below w0)).mono ?_
        rw [c]
        rintro e w1 ⟨rfl, U1⟩
        go_wp2_with (go_at_call 86; refine (implOk_any _ _).mono ?_; rintro e w' ⟨rfl, rfl⟩)
        go_ret
        exact ⟨rfl, w0.then U1 (by simp)⟩
      · by_cases c5 : T < n'
        · have e1 : fitF T ls x long n' = -1 := fitF_f (by rw [c1, c2, c3, inB_no (by omega)]; rfl)
          rw [e1]
          clear e1
          go_enter Try.func102, Try.ntmps102
          go_wp2_with fail
          refine (stretchOk_any T x x a n cap ls _ (h.below w0)).mono ?_
          rw [c]
          rintro e w1 ⟨rfl, U1⟩
          obtain ⟨p0, p1, hz1⟩ := box_cells U1
          go_wp2_with (go_at_call 86; refine (implOk_any _ _).mono ?_; rintro e w' ⟨rfl, rfl⟩)
          go_ret
          exact ⟨rfl, w0.then U1 (by simp)⟩
        · rw [fitF_t (by rw [c1, c2, c3, inB_mk ⟨by omega, by omega⟩]; rfl)]
          have po := poB_t c1
          go_enter Try.func102, Try.ntmps102
          go_wp2_with fail
          refine (stretchOk_any T x x a n cap ls _ (h.below w0)).mono ?_
          rw [c]
          rintro e w1 ⟨rfl, U1⟩
          obtain ⟨p0, p1, hz1⟩ := box_cells U1
          go_wp2_with (go_at_call 86; refine (implOk_any _ _).mono ?_; rintro e w' ⟨rfl, hq⟩; have hq' := hq.symm; clear hq; subst hq')
          refine (copied_any T x 1000000000 a n cap ls _ (h.below (w0.then U1 (by simp))) po c2 (by decide)).mono ?_
          rintro e w2 ⟨B, m, rfl, hB, hL, hm, hm2, hb2⟩
          have V2 := (w0.then U1 (by simp)).then hb2 (w0.then U1 (by simp)).size
          have hS := hL.toS hm (by omega) (by rw [← hm]; exact cpd_wf po c2)
          clear p0 p1
          go_wp2_with fail
          refine (firstFit_any T x long n' B m ls _ po c2 c3 hS hm2).mono ?_
          rintro e w3 ⟨rfl, hb3⟩
          go_wp2
          go_ret
          exact ⟨rfl, V2.then hb3 V2.size⟩
    · simp only [Bool.not_eq_true] at c3
      have e1 : fitF T ls x long n' = -1 := fitF_f (by rw [c1, c2, c3]; rfl)
      rw [e1]
      clear e1
      go_enter Try.func102, Try.ntmps102
      go_wp2_with fail
      refine (stretchOk_any T x x a n cap ls _ (h.below w0)).mono ?_
      rw [c]
      rintro e w1 ⟨rfl, U1⟩
      go_wp2_with (go_at_call 86; refine (implOk_any _ _).mono ?_; rintro e w' ⟨rfl, rfl⟩)
      go_ret
      exact ⟨rfl, w0.then U1 (by simp)⟩
  · simp only [Bool.not_eq_true] at c
    have e1 : fitF T ls x long n' = -1 := by
      by_cases c1 : poB T ls = true
      · exact fitF_f (by rw [c1, show okB x = false from by simpa [c1] using c]; rfl)
      · exact fitF_f (by rw [show poB T ls = false from by simpa using c1]; rfl)
    rw [e1]
    clear e1
    go_enter Try.func102, Try.ntmps102
    go_wp2_with fail
    refine (stretchOk_any T x x a n cap ls _ (h.below w0)).mono ?_
    rw [c]
    rintro e w1 ⟨rfl, U1⟩
    go_wp2
    go_ret
    exact ⟨rfl, w0.then U1 (by simp)⟩

set_option maxHeartbeats 1000000 in
theorem l2Fit_any (T x long n' : Int) (a : Option Addr) (n cap : Nat) (ls : List Lev) (w : World) (h : LevS w a n cap ls) (po : PO T ls) (hx : okB x = true) (hl : okB long = true) (hn' : n' ≤ T) :
    Calls Try.prog 66 #[.agg #[.int .i64 T, .slice a n cap], .int .i64 x, .int .i64 long, .int .i64 n'] w fun e w' => e = .returned (.int .i64 (fitI ls x long n')) ∧ Below w.heap.size w w' := by
  obtain ⟨x0, x1⟩ := okB_t hx
  obtain ⟨l0, l1⟩ := okB_t hl
  have w0 : Below w.heap.size w (w.alloc (.cells #[.int .i64 T, .slice a n cap] 26)) := box_below
  by_cases c : x = 1000000000
  · subst c
    have e1 : fitI ls 1000000000 long n' = 1000000000 := fitI_no (fun i hi => by rw [cpd_len, dur_nil (by omega)] at hi; simp at hi)
    rw [e1]
    clear e1
    go_enter Try.func66, Try.ntmps66
    go_wp2
    go_ret
    exact ⟨rfl, w0⟩
  · have hx2 : x < 1000000000 := by omega
    have c' : (x == 1000000000) = false := by simpa using c
    obtain ⟨c1, c2, c3, c4, c5⟩ := po.cpd_all x0 hx2
    have hlen := h.len
    have hn2 := po.n2
    have I0 := po.okFit_iff (long := long) x0 hx2 hn' (j := 0) c2
    rw [c3] at I0
    have HI0 : Hid (n' ≤ leastI T ls x (laterI x long) ↔ okFit (cpd ls x 1000000000) long n' 0) := I0
    obtain ⟨z0, z1⟩ := laterI_bd (t := x) (b := long) x0 l0 x1
    have OL : okB (laterI x long) = true := by unfold okB; exact inB_mk ⟨by omega, z1⟩
    have HPO : Hid (PO T ls) := po
    have HC : Hid (lvl ls x + (cpd ls x 1000000000).length = ls.length ∧ 0 < (cpd ls x 1000000000).length ∧ fr (cpd ls x 1000000000) 0 = x) := ⟨c1, c2, c3⟩
    clear c I0 c1 c2 c3 c4 c5 po
    have HL0 := h.below w0
    by_cases d : n' ≤ leastI T ls x (laterI x long)
    · have R : Hid (fitI ls x long n' = x) := (fitI_at HC.out.2.1 (HI0.out.1 d) (fun i hi => by omega)).trans HC.out.2.2
      go_enter Try.func66, Try.ntmps66
      go_wp2
      go_region_held3 (fun w' => w'.cell? ⟨w.heap.size, 0, none⟩ = some (.int .i64 T) ∧ w'.cell? ⟨w.heap.size, 1, none⟩ = some (.slice a n cap)) (first | go_keep | exact KS2) (first | (go_at_call 64; refine (l1Later_any _ _ _ x0 x1 l0 l1).mono ?_; rintro e w' ⟨rfl, hq⟩; have hq' := hq.symm; clear hq; subst hq') | (go_at_call 93; refine (l2Least_any T x (laterI x long) a n cap ls _ ?_ HPO.out hx OL).mono ?_; (first | exact (h.below w0) | exact ((h.below w0)).drew); rintro e w2 ⟨rfl, hb2⟩; have U2 := (Below.refl (w.alloc (.cells #[.int .i64 T, .slice a n cap] 26)).heap.size (w.alloc (.cells #[.int .i64 T, .slice a n cap] 26))).drew.then hb2 (Below.refl (w.alloc (.cells #[.int .i64 T, .slice a n cap] 26)).heap.size (w.alloc (.cells #[.int .i64 T, .slice a n cap] 26))).size; obtain ⟨s0, s1, _⟩ := box_cells U2; have KS2 := And.intro s0 s1))
      all_goals
        go_wp2
        go_ret
        exact ⟨by rw [R.out]; rfl, w0.then U2 (by simp)⟩
    · have N0 : ¬ okFit (cpd ls x 1000000000) long n' 0 := fun g => d (HI0.out.2 g)
      have HN : Hid (∀ j, j < (cpd ls x 1000000000).length → (j = 0 ∨ lvl ls x + j < 0) → ¬ okFit (cpd ls x 1000000000) long n' j) := by
        intro j _ hj
        obtain rfl : j = 0 := by omega
        exact N0
      clear N0
      go_enter Try.func66, Try.ntmps66
      go_wp2
      go_region_held3 (fun w' => w'.cell? ⟨w.heap.size, 0, none⟩ = some (.int .i64 T) ∧ w'.cell? ⟨w.heap.size, 1, none⟩ = some (.slice a n cap)) (first | go_keep | exact KS2) (first | (go_at_call 64; refine (l1Later_any _ _ _ x0 x1 l0 l1).mono ?_; rintro e w' ⟨rfl, hq⟩; have hq' := hq.symm; clear hq; subst hq') | (go_at_call 93; refine (l2Least_any T x (laterI x long) a n cap ls _ ?_ HPO.out hx OL).mono ?_; (first | exact (h.below w0) | exact ((h.below w0)).drew); rintro e w2 ⟨rfl, hb2⟩; have U2 := (Below.refl (w.alloc (.cells #[.int .i64 T, .slice a n cap] 26)).heap.size (w.alloc (.cells #[.int .i64 T, .slice a n cap] 26))).drew.then hb2 (Below.refl (w.alloc (.cells #[.int .i64 T, .slice a n cap] 26)).heap.size (w.alloc (.cells #[.int .i64 T, .slice a n cap] 26))).size; obtain ⟨s0, s1, _⟩ := box_cells U2; have KS2 := And.intro s0 s1))
      all_goals
        clear KS2 s0 s1
        go_wp2
        go_loopw [9] (fun i wr => ∃ k : Nat, k ≤ n ∧ i = .int .i64 k ∧ Hid (∀ j, j < (cpd ls x 1000000000).length → (j = 0 ∨ lvl ls x + j < k) → ¬ okFit (cpd ls x 1000000000) long n' j) ∧ Below (w.alloc (.cells #[.int .i64 T, .slice a n cap] 26)).heap.size (w.alloc (.cells #[.int .i64 T, .slice a n cap] 26)) wr) (fun i _ => n - (intOf i).toNat)
        case atStart => exact ⟨0, by omega, rfl, HN, U2⟩
        case round =>
          obtain ⟨k, hk, rfl, HK, U⟩ := hrel
          obtain ⟨p0, p1, hz⟩ := box_cells U
          have V := w0.then U (by simp)
          have HV := h.below V
          by_cases hlt : k < n
          · obtain ⟨b, off, rfl, hbw, hat⟩ := h.at_ (by omega)
            obtain ⟨q0, q1⟩ := cells_below (k := k) hat V hbw (by omega)
            have f0 := HPO.out.pos (i := k) (by omega)
            have f1' := (HPO.out.el k (by omega)).1
            have f1 : fr ls k ≤ 1000000000 := by omega
            by_cases g : x < fr ls k
            · obtain ⟨y0, y1⟩ := laterI_bd (t := fr ls k) (b := long) f0 l0 f1
              have OK1 : okB (fr ls k) = true := by unfold okB; exact inB_mk ⟨f0, f1⟩
              have OK2 : okB (laterI (fr ls k) long) = true := by unfold okB; exact inB_mk ⟨by omega, y1⟩
              have g' : decide (x < fr ls k) = true := by simpa using g
              have J : Hid (∃ j, j < (cpd ls x 1000000000).length ∧ lvl ls x + j = k ∧ 0 < j ∧ fr (cpd ls x 1000000000) j = fr ls k) := by
                obtain ⟨a1, a2, a3⟩ := HPO.out.lvl_spec x0
                obtain ⟨c1, c2, c3, c4, c5⟩ := HPO.out.cpd_all x0 hx2
                have hkl : lvl ls x < k := by
                  by_cases hh : lvl ls x < k
                  · exact hh
                  · have := HPO.out.le (i := k) (j := lvl ls x) (by omega) a1; omega
                refine ⟨k - lvl ls x, by omega, by omega, by omega, ?_⟩
                obtain ⟨i', hi'⟩ : ∃ i', k - lvl ls x = i' + 1 := ⟨k - lvl ls x - 1, by omega⟩
                rw [hi', c4 i' (by omega), show lvl ls x + (i' + 1) = k from by omega]
              by_cases d2 : n' ≤ leastI T ls (fr ls k) (laterI (fr ls k) long)
              · have R : Hid (fitI ls x long n' = fr ls k) := by
                  obtain ⟨j, j1, j2, j3, j4⟩ := J.out
                  have ok := (HPO.out.okFit_iff (long := long) x0 hx2 hn' j1).1 (by rw [j4]; exact d2)
                  exact (fitI_at j1 ok (fun i hi => HK.out i (by omega) (by omega))).trans j4
                go_wp2
                go_region_held3 (fun w' => w'.cell? ⟨w.heap.size, 0, none⟩ = some (.int .i64 T) ∧ w'.cell? ⟨w.heap.size, 1, none⟩ = some (.slice (some ⟨b, off, none⟩) n cap)) (first | go_keep | exact KS2) (first | (go_at_call 64; refine (l1Later_any _ _ _ f0 f1 l0 l1).mono ?_; rintro e w' ⟨rfl, hq⟩; have hq' := hq.symm; clear hq; subst hq') | (go_at_call 93; refine (l2Least_any T (fr ls k) (laterI (fr ls k) long) _ n cap ls _ ?_ HPO.out OK1 OK2).mono ?_; (first | exact HV | exact (HV).drew); rintro e w2 ⟨rfl, hb2⟩; have U2 := (U).drew.then hb2 (U).size; obtain ⟨s0, s1, _⟩ := box_cells U2; have KS2 := And.intro s0 s1))
                all_goals
                  go_wp2
                  go_ret
                  exact ⟨by rw [R.out]; rfl, w0.then U2 (by simp)⟩
              · have N : Hid (∀ j, j < (cpd ls x 1000000000).length → (j = 0 ∨ lvl ls x + j < k + 1) → ¬ okFit (cpd ls x 1000000000) long n' j) := by
                  intro i hi hi2
                  obtain ⟨j, j1, j2, j3, j4⟩ := J.out
                  by_cases e : i = j
                  · subst e
                    intro ok
                    have := (HPO.out.okFit_iff (long := long) x0 hx2 hn' j1).2 ok
                    rw [j4] at this
                    exact d2 this
                  · exact HK.out i hi (by omega)
                go_wp2
                go_region_held3 (fun w' => w'.cell? ⟨w.heap.size, 0, none⟩ = some (.int .i64 T) ∧ w'.cell? ⟨w.heap.size, 1, none⟩ = some (.slice (some ⟨b, off, none⟩) n cap)) (first | go_keep | exact KS2) (first | (go_at_call 64; refine (l1Later_any _ _ _ f0 f1 l0 l1).mono ?_; rintro e w' ⟨rfl, hq⟩; have hq' := hq.symm; clear hq; subst hq') | (go_at_call 93; refine (l2Least_any T (fr ls k) (laterI (fr ls k) long) _ n cap ls _ ?_ HPO.out OK1 OK2).mono ?_; (first | exact HV | exact (HV).drew); rintro e w2 ⟨rfl, hb2⟩; have U2 := (U).drew.then hb2 (U).size; obtain ⟨s0, s1, _⟩ := box_cells U2; have KS2 := And.intro s0 s1))
                all_goals
                  go_wp2
                  go_roundw
                  case rel => exact ⟨k + 1, by omega, by go_num, N.out, U2⟩
                  case measure => simp [intOf]; omega
            · have g' : decide (x < fr ls k) = false := by simpa using g
              have N : Hid (∀ j, j < (cpd ls x 1000000000).length → (j = 0 ∨ lvl ls x + j < k + 1) → ¬ okFit (cpd ls x 1000000000) long n' j) := by
                intro i hi hi2
                by_cases e : lvl ls x + i = k ∧ 0 < i
                · exfalso
                  have := (HPO.out.lvl_spec x0).2.2 k (by omega) (by omega)
                  omega
                · exact HK.out i hi (by omega)
              go_wp2
              go_quiet (fail)
              go_wp2
              go_roundw
              case rel => exact ⟨k + 1, by omega, by go_num, N.out, U.drewN _⟩
              case measure => simp [intOf]; omega
          · have e : k = n := by omega
            subst e
            have R : Hid (fitI ls x long n' = 1000000000) := by
              refine fitI_no fun j hj => HK.out j hj ?_
              have := (HC.out).1
              omega
            go_wp2
            go_ret
            exact ⟨by rw [R.out]; rfl, V⟩

end Go.Proofs.Ytplcpiglciplkaa
