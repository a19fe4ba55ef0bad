/- The program's chapter 13, seventh part: StateOk. -/
import Derived.Test.YthgdjecbaomffaaStI6
namespace Go.Proofs.Ythgdjecbaomffaa
open Go.RowKit Go.Sort

/-- what StateOk asks, one behind the other -/
theorem so_eq (s : St) : soB s = (inB s.now 0 999999999 && nsB s.nodes && inB s.next 1 1000000 && inB s.eps 0 1000000 && jo2 s.ents && eoTB s s.ents && ro2 s) := by
  rcases q : soB s with _ | _
  · symm
    rw [Bool.eq_false_iff]
    intro h
    simp only [Bool.and_eq_true] at h
    obtain ⟨⟨⟨⟨⟨⟨h1, h2⟩, h3⟩, h4⟩, h5⟩, h6⟩, h7⟩ := h
    unfold jo2 at h5
    unfold ro2 at h7
    simp only [Bool.and_eq_true] at h5 h7
    refine soB_f q (so_mk (nin_t h1) (nsB_t h2) (nin_t h3) (nin_t h4) (jsB_t h5.1) (jsrtB_t h5.2) (eoTB_t h6) (rnB_t h7.1) ?_)
    have := usB_t h7.2
    rwa [iuK_us s _ (Nat.le_refl _)] at this
  · have h := soB_t q
    unfold jo2 ro2
    rw [nin_mk h.now, nsB_mk h.nd, nin_mk h.nx, nin_mk h.eps, jsB_mk h.js, jsrtB_mk h.srt, eoTB_mk h.eo, rnB_mk h.rn, usB_mk h.us]
    rfl

set_option maxRecDepth 8000 in
set_option maxHeartbeats 4000000 in
theorem implStateOk_w (s : St) (na : Option Addr) (nc : Nat) (ea : Option Addr) (ec : Nat) (w : World) (h : StS w s na nc ea ec) (hs2 : s.ents.length ≤ 1048576) (hs3 : ∀ i, i < s.ents.length → (eng s.ents i).ps.length ≤ 1048576) :
    Calls Try.prog 10 #[stV s na nc ea ec] w fun en w' => en = .returned (.bool (soB s)) ∧ Below w.heap.size w w' := by
  obtain ⟨r, hr⟩ : ∃ r, r = soB s := ⟨_, rfl⟩
  have HR : Hid (r = soB s) := hr
  rw [← hr]
  clear hr
  have HQ := so_eq s
  have C1 : ∀ W, Below w.heap.size w W → _ := fun W hW => implNodesOk_any na s.nodes.length nc s.nodes W (h.nd.below hW)
  have C2 : ∀ W, Below w.heap.size w W → _ := fun W hW => implJobsOkS_any s na nc ea ec W (h.below hW) hs2
  have C3 : ∀ W, Below w.heap.size w W → _ := fun W hW => eachEntry_any s na nc ea ec ea s.ents.length ec s.ents W (h.en.below hW)
  have C4 : ∀ W, Below w.heap.size w W → NsOk s.nodes → _ := fun W hW hn => runsOk_any s na nc ea ec W (h.below hW) ⟨by have := hn.n2; omega, hs2, hs3⟩ hn
  unfold stV at C2 C3 C4 ⊢
  obtain ⟨W0, hW0⟩ : ∃ W0, W0 = w.alloc (.cells #[.int .i64 s.now, .slice na s.nodes.length nc, .slice ea s.ents.length ec, .int .i64 s.next, .int .i64 s.eps] 31) := ⟨_, rfl⟩
  have B0 : Below w.heap.size w W0 := by rw [hW0]; exact box_below0
  have x0 : W0.heap[w.heap.size]? = some (.cells #[.int .i64 s.now, .slice na s.nodes.length nc, .slice ea s.ents.length ec, .int .i64 s.next, .int .i64 s.eps] 31 (0, 0)) := by rw [hW0]; exact heap_alloc_new _ _
  have l0 := lt_of_block x0
  have HT : Hid (∀ X, Below W0.heap.size W0 X → Box5 X w.heap.size (.int .i64 s.now) (.slice na s.nodes.length nc) (.slice ea s.ents.length ec) (.int .i64 s.next) (.int .i64 s.eps)) := fun X hX => box5 ((hX.block _ l0).trans x0)
  obtain ⟨p0, p1, p2, p3, p4, _, _, _, _, _⟩ := HT.out _ (Below.refl _ _)
  clear h hs2 hs3 x0 l0
  go_enter Try.func10, Try.ntmps10
  go_upto_region 1 with fail
  rw [← hW0]
  clear hW0
  rcases q1 : inB s.now 0 999999999 with _ | _
  · have E : Hid (r = false) := HR.out.trans (by rw [HQ, q1]; rfl)
    clear HR HQ C1 C2 C3 C4
    go_wp2_with (go_at_call 36; refine (within_any _ _ _ _).mono ?_; rw [q1]; rintro e9 w9 ⟨rfl, rfl⟩)
    go_ret
    exact ⟨by rw [E.out]; rfl, B0⟩
  · rcases q2 : nsB s.nodes with _ | _
    · have E : Hid (r = false) := HR.out.trans (by rw [HQ, q1, q2]; rfl)
      clear HR HQ
      go_wp2_with (first | (go_at_call 36; refine (within_any _ _ _ _).mono ?_; (first | rw [q1] | rw [q3] | rw [q4]); rintro e9 w9 ⟨rfl, hq⟩; have hq' := hq.symm; clear hq; subst hq') | (go_at_call 37; refine (C1 _ B0).mono ?_; rw [q2]; rintro e2 w2 ⟨rfl, hb2⟩; have D2 := hb2; obtain ⟨a0, a1, a2, a3, a4, _, _, _, _, _⟩ := HT.out _ D2))
      go_ret
      exact ⟨by rw [E.out]; rfl, B0.then D2 B0.size⟩
    · rcases q3 : inB s.next 1 1000000 with _ | _
      · have E : Hid (r = false) := HR.out.trans (by rw [HQ, q1, q2, q3]; rfl)
        clear HR HQ
        go_wp2_with (first | (go_at_call 36; refine (within_any _ _ _ _).mono ?_; (first | rw [q1] | rw [q3] | rw [q4]); rintro e9 w9 ⟨rfl, hq⟩; have hq' := hq.symm; clear hq; subst hq') | (go_at_call 37; refine (C1 _ B0).mono ?_; rw [q2]; rintro e2 w2 ⟨rfl, hb2⟩; have D2 := hb2; obtain ⟨a0, a1, a2, a3, a4, _, _, _, _, _⟩ := HT.out _ D2))
        go_ret
        exact ⟨by rw [E.out]; rfl, B0.then D2 B0.size⟩
      · rcases q4 : inB s.eps 0 1000000 with _ | _
        · have E : Hid (r = false) := HR.out.trans (by rw [HQ, q1, q2, q3, q4]; rfl)
          clear HR HQ
          go_wp2_with (first | (go_at_call 36; refine (within_any _ _ _ _).mono ?_; (first | rw [q1] | rw [q3] | rw [q4]); rintro e9 w9 ⟨rfl, hq⟩; have hq' := hq.symm; clear hq; subst hq') | (go_at_call 37; refine (C1 _ B0).mono ?_; rw [q2]; rintro e2 w2 ⟨rfl, hb2⟩; have D2 := hb2; obtain ⟨a0, a1, a2, a3, a4, _, _, _, _, _⟩ := HT.out _ D2))
          go_ret
          exact ⟨by rw [E.out]; rfl, B0.then D2 B0.size⟩
        · rcases q5 : jo2 s.ents with _ | _
          · have E : Hid (r = false) := HR.out.trans (by rw [HQ, q1, q2, q3, q4, q5]; rfl)
            clear HR HQ
            go_wp2_with (first | (go_at_call 36; refine (within_any _ _ _ _).mono ?_; (first | rw [q1] | rw [q3] | rw [q4]); rintro e9 w9 ⟨rfl, hq⟩; have hq' := hq.symm; clear hq; subst hq') | (go_at_call 37; refine (C1 _ B0).mono ?_; rw [q2]; rintro e2 w2 ⟨rfl, hb2⟩; have D2 := hb2; obtain ⟨a0, a1, a2, a3, a4, _, _, _, _, _⟩ := HT.out _ D2) | (go_at_call 38; refine (C2 _ (B0.then D2 B0.size)).mono ?_; rw [q5]; rintro e5 w5 ⟨rfl, hb5⟩; have D5 := D2.then hb5 D2.size; obtain ⟨b0, b1, b2, b3, b4, _, _, _, _, _⟩ := HT.out _ D5))
            go_ret
            exact ⟨by rw [E.out]; rfl, B0.then D5 B0.size⟩
          · rcases q6 : eoTB s s.ents with _ | _
            · have E : Hid (r = false) := HR.out.trans (by rw [HQ, q1, q2, q3, q4, q5, q6]; rfl)
              clear HR HQ
              go_wp2_with (first | (go_at_call 36; refine (within_any _ _ _ _).mono ?_; (first | rw [q1] | rw [q3] | rw [q4]); rintro e9 w9 ⟨rfl, hq⟩; have hq' := hq.symm; clear hq; subst hq') | (go_at_call 37; refine (C1 _ B0).mono ?_; rw [q2]; rintro e2 w2 ⟨rfl, hb2⟩; have D2 := hb2; obtain ⟨a0, a1, a2, a3, a4, _, _, _, _, _⟩ := HT.out _ D2) | (go_at_call 38; refine (C2 _ (B0.then D2 B0.size)).mono ?_; rw [q5]; rintro e5 w5 ⟨rfl, hb5⟩; have D5 := D2.then hb5 D2.size; obtain ⟨b0, b1, b2, b3, b4, _, _, _, _, _⟩ := HT.out _ D5) | (go_at_call 39; refine (C3 _ (B0.then D5 B0.size)).mono ?_; rw [q6]; rintro e6 w6 ⟨rfl, hb6⟩; have D6 := D5.then hb6 D5.size; obtain ⟨c0, c1, c2, c3, c4, _, _, _, _, _⟩ := HT.out _ D6))
              go_ret
              exact ⟨by rw [E.out]; rfl, B0.then D6 B0.size⟩
            · have E : Hid (r = ro2 s) := HR.out.trans (by rw [HQ, q1, q2, q3, q4, q5, q6]; rfl)
              clear HR HQ
              generalize ro2 s = rb at C4 E
              go_wp2_with (first | (go_at_call 36; refine (within_any _ _ _ _).mono ?_; (first | rw [q1] | rw [q3] | rw [q4]); rintro e9 w9 ⟨rfl, hq⟩; have hq' := hq.symm; clear hq; subst hq') | (go_at_call 37; refine (C1 _ B0).mono ?_; rw [q2]; rintro e2 w2 ⟨rfl, hb2⟩; have D2 := hb2; obtain ⟨a0, a1, a2, a3, a4, _, _, _, _, _⟩ := HT.out _ D2) | (go_at_call 38; refine (C2 _ (B0.then D2 B0.size)).mono ?_; rw [q5]; rintro e5 w5 ⟨rfl, hb5⟩; have D5 := D2.then hb5 D2.size; obtain ⟨b0, b1, b2, b3, b4, _, _, _, _, _⟩ := HT.out _ D5) | (go_at_call 39; refine (C3 _ (B0.then D5 B0.size)).mono ?_; rw [q6]; rintro e6 w6 ⟨rfl, hb6⟩; have D6 := D5.then hb6 D5.size; obtain ⟨c0, c1, c2, c3, c4, _, _, _, _, _⟩ := HT.out _ D6) | (go_at_call 41; refine (C4 _ (B0.then D6 B0.size) (nsB_t q2)).mono ?_; rintro e7 w7 ⟨rfl, hb7⟩; have D7 := D6.then hb7 D6.size))
              go_ret
              exact ⟨by rw [E.out]; rfl, B0.then D7 B0.size⟩

theorem implStateOk_any (s : St) (na : Option Addr) (nc : Nat) (ea : Option Addr) (ec : Nat) (w : World) (h : StS w s na nc ea ec) (hs : stSmall s) :
    Calls Try.prog 10 #[stV s na nc ea ec] w fun en w' => en = .returned (.bool (soB s)) ∧ Below w.heap.size w w' := implStateOk_w s na nc ea ec w h hs.2.1 hs.2.2

end Go.Proofs.Ythgdjecbaomffaa
