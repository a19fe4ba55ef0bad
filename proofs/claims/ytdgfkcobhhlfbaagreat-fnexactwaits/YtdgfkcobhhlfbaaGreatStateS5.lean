/- Chapter 13's model: StateOk. -/
import Derived.Test.YtdgfkcobhhlfbaaGreatPd
namespace Go.Proofs.YtdgfkcobhhlfbaaGreat
open Go.RowKit Go.Sort

set_option maxRecDepth 8000 in
set_option maxHeartbeats 60000000 in
theorem specStateOk_any (s : St) (na : Option Addr) (nc : Nat) (ea : Option Addr) (ec : Nat) (w : World) (h : StS w s na nc ea ec) (hs : stSmall s) :
    Calls Tryz.prog 15 #[stV s na nc ea ec] w fun en w' => en = .returned (.bool (soB s)) ∧ Below w.heap.size w w' := by
  have hs0 := hs
  obtain ⟨hs1, hs2, hs3⟩ := hs
  have hmx := h.en.mx
  have hle := h.en.le
  have hew := h.en.wf
  unfold maxLen at hmx
  obtain ⟨r, hr⟩ : ∃ r, r = soB s := ⟨_, rfl⟩
  have HR : Hid (r = soB s) := hr
  rw [← hr]
  clear hr
  have hmo : Tryz.prog.follows .mixedOrders = true := by kernel_rfl
  unfold stV
  obtain ⟨W0, hW0⟩ : ∃ W0, W0 = w.alloc (.cells #[.int .i64 s.now, .slice na s.nodes.length nc, .slice ea s.ents.length ec, .int .i64 s.next, .int .i64 s.eps] 32) := ⟨_, rfl⟩
  have B0 : Below w.heap.size w W0 := by rw [hW0]; exact box_below0
  have x0 : W0.heap[w.heap.size]? = some (.cells #[.int .i64 s.now, .slice na s.nodes.length nc, .slice ea s.ents.length ec, .int .i64 s.next, .int .i64 s.eps] 32 (0, 0)) := by rw [hW0]; exact heap_alloc_new _ _
  have l0 := lt_of_block x0
  have HX : Hid (∀ W, Below W0.heap.size W0 W → Box5 W w.heap.size (.int .i64 s.now) (.slice na s.nodes.length nc) (.slice ea s.ents.length ec) (.int .i64 s.next) (.int .i64 s.eps)) := fun W hW => box5 ((hW.block _ l0).trans x0)
  have HE : Hid (∀ W, Below w.heap.size w W → EntS W ea s.ents.length ec s.ents) := fun W hW => h.en.below hW
  have HND : Hid (∀ W, Below W0.heap.size W0 W → NodeS W na s.nodes.length nc s.nodes) := fun W hW => h.nd.below (B0.then hW B0.size)
  have HSS : Hid (∀ W, Below w.heap.size w W → StS W s na nc ea ec) := fun W hW => h.below hW
  have CJ := l13Jobs_any s na nc ea ec W0 (h.below B0) hs2
  unfold stV at CJ
  obtain ⟨c0, c1, c2, c3, c4, _, _, _, _, _⟩ := box5 x0
  go_enter Tryz.func15, Tryz.ntmps15
  go_upto_region 1 with fail
  rw [← hW0]
  clear hW0 x0 l0 h
  rcases q1 : inB s.now 0 999999999 with _ | _
  · have E : Hid (r = false) := HR.out.trans (soB_no (fun q => by have := q.now; have := nin_f q1; omega))
    go_wp2_with (first
      | (go_at_call 29; refine (l1In_any _ _ _ _).mono ?_; rintro e w' ⟨rfl, hq⟩; have hq' := hq.symm; clear hq; subst hq')
      | (go_at_call 30; refine (specNodesOk_any na s.nodes.length nc s.nodes _ (HND.out _ (Below.refl _ _))).mono ?_; rintro e w' ⟨rfl, hq⟩; have hq' := hq.symm; clear hq; subst hq')
      | (go_at_call 32; refine CJ.mono ?_; rintro e w1 ⟨g, c, rfl, HO, hb1⟩)
      | (go_at_call 31; refine (specJobsOk_any _ _ _ _ _ (ownJ_toS HO hew)).mono ?_; rintro e w2 ⟨rfl, hb2⟩; have hb3 := hb1.then hb2 hb1.size; clear c0 c1 c2 c3 c4; obtain ⟨c0, c1, c2, c3, c4, _, _, _, _, _⟩ := HX.out w2 hb3))
    go_ret
    exact ⟨by rw [E.out]; rfl, B0⟩
  · skip
    rcases q2 : nsB s.nodes with _ | _
    · have E : Hid (r = false) := HR.out.trans (soB_no (fun q => nsB_f q2 q.nd))
      go_wp2_with (first
        | (go_at_call 29; refine (l1In_any _ _ _ _).mono ?_; rintro e w' ⟨rfl, hq⟩; have hq' := hq.symm; clear hq; subst hq')
        | (go_at_call 30; refine (specNodesOk_any na s.nodes.length nc s.nodes _ (HND.out _ (Below.refl _ _))).mono ?_; rintro e w' ⟨rfl, hq⟩; have hq' := hq.symm; clear hq; subst hq')
        | (go_at_call 32; refine CJ.mono ?_; rintro e w1 ⟨g, c, rfl, HO, hb1⟩)
        | (go_at_call 31; refine (specJobsOk_any _ _ _ _ _ (ownJ_toS HO hew)).mono ?_; rintro e w2 ⟨rfl, hb2⟩; have hb3 := hb1.then hb2 hb1.size; clear c0 c1 c2 c3 c4; obtain ⟨c0, c1, c2, c3, c4, _, _, _, _, _⟩ := HX.out w2 hb3))
      go_ret
      exact ⟨by rw [E.out]; rfl, B0⟩
    · skip
      rcases q3 : jsB (jbK s.ents s.ents.length) with _ | _
      · have E : Hid (r = false) := HR.out.trans (soB_no (fun q => jsB_f q3 q.js))
        go_wp2_with (first
          | (go_at_call 29; refine (l1In_any _ _ _ _).mono ?_; rintro e w' ⟨rfl, hq⟩; have hq' := hq.symm; clear hq; subst hq')
          | (go_at_call 30; refine (specNodesOk_any na s.nodes.length nc s.nodes _ (HND.out _ (Below.refl _ _))).mono ?_; rintro e w' ⟨rfl, hq⟩; have hq' := hq.symm; clear hq; subst hq')
          | (go_at_call 32; refine CJ.mono ?_; rintro e w1 ⟨g, c, rfl, HO, hb1⟩)
          | (go_at_call 31; refine (specJobsOk_any _ _ _ _ _ (ownJ_toS HO hew)).mono ?_; rintro e w2 ⟨rfl, hb2⟩; have hb3 := hb1.then hb2 hb1.size; clear c0 c1 c2 c3 c4; obtain ⟨c0, c1, c2, c3, c4, _, _, _, _, _⟩ := HX.out w2 hb3))
        go_ret
        exact ⟨by rw [E.out]; rfl, B0.then hb3 B0.size⟩
      · skip
        rcases q4 : inB s.next 1 1000000 with _ | _
        · have E : Hid (r = false) := HR.out.trans (soB_no (fun q => by have := q.nx; have := nin_f q4; omega))
          go_wp2_with (first
            | (go_at_call 29; refine (l1In_any _ _ _ _).mono ?_; rintro e w' ⟨rfl, hq⟩; have hq' := hq.symm; clear hq; subst hq')
            | (go_at_call 30; refine (specNodesOk_any na s.nodes.length nc s.nodes _ (HND.out _ (Below.refl _ _))).mono ?_; rintro e w' ⟨rfl, hq⟩; have hq' := hq.symm; clear hq; subst hq')
            | (go_at_call 32; refine CJ.mono ?_; rintro e w1 ⟨g, c, rfl, HO, hb1⟩)
            | (go_at_call 31; refine (specJobsOk_any _ _ _ _ _ (ownJ_toS HO hew)).mono ?_; rintro e w2 ⟨rfl, hb2⟩; have hb3 := hb1.then hb2 hb1.size; clear c0 c1 c2 c3 c4; obtain ⟨c0, c1, c2, c3, c4, _, _, _, _, _⟩ := HX.out w2 hb3))
          go_ret
          exact ⟨by rw [E.out]; rfl, B0.then hb3 B0.size⟩
        · skip
          rcases q5 : inB s.eps 0 1000000 with _ | _
          · have E : Hid (r = false) := HR.out.trans (soB_no (fun q => by have := q.eps; have := nin_f q5; omega))
            go_wp2_with (first
              | (go_at_call 29; refine (l1In_any _ _ _ _).mono ?_; rintro e w' ⟨rfl, hq⟩; have hq' := hq.symm; clear hq; subst hq')
              | (go_at_call 30; refine (specNodesOk_any na s.nodes.length nc s.nodes _ (HND.out _ (Below.refl _ _))).mono ?_; rintro e w' ⟨rfl, hq⟩; have hq' := hq.symm; clear hq; subst hq')
              | (go_at_call 32; refine CJ.mono ?_; rintro e w1 ⟨g, c, rfl, HO, hb1⟩)
              | (go_at_call 31; refine (specJobsOk_any _ _ _ _ _ (ownJ_toS HO hew)).mono ?_; rintro e w2 ⟨rfl, hb2⟩; have hb3 := hb1.then hb2 hb1.size; clear c0 c1 c2 c3 c4; obtain ⟨c0, c1, c2, c3, c4, _, _, _, _, _⟩ := HX.out w2 hb3))
            go_ret
            exact ⟨by rw [E.out]; rfl, B0.then hb3 B0.size⟩
          · skip
            have n1 := nin_t q1
            have n2 := nsB_t q2
            have n3 := jsB_t q3
            have n4 := nin_t q4
            have n5 := nin_t q5
            go_wp2_with (first
              | (go_at_call 29; refine (l1In_any _ _ _ _).mono ?_; rintro e w' ⟨rfl, hq⟩; have hq' := hq.symm; clear hq; subst hq')
              | (go_at_call 30; refine (specNodesOk_any na s.nodes.length nc s.nodes _ (HND.out _ (Below.refl _ _))).mono ?_; rintro e w' ⟨rfl, hq⟩; have hq' := hq.symm; clear hq; subst hq')
              | (go_at_call 32; refine CJ.mono ?_; rintro e w1 ⟨g, c, rfl, HO, hb1⟩)
              | (go_at_call 31; refine (specJobsOk_any _ _ _ _ _ (ownJ_toS HO hew)).mono ?_; rintro e w2 ⟨rfl, hb2⟩; have hb3 := hb1.then hb2 hb1.size; clear c0 c1 c2 c3 c4; obtain ⟨c0, c1, c2, c3, c4, _, _, _, _, _⟩ := HX.out w2 hb3))
            have B2 := B0.then hb3 B0.size
            have hes := hs2
            clear hb1 hb2 HO CJ q1 q2 q3 q4 q5
            go_loopw [3] (fun i wr => ∃ k : Nat, k ≤ s.ents.length ∧ i = .int .i64 k ∧ Hid (∀ j, j < k → EnA s j (eng s.ents j) ∧ EnP s j (eng s.ents j)) ∧ Below W0.heap.size W0 wr) (fun i _ => s.ents.length - (intOf i).toNat)
            case atStart => exact ⟨0, by omega, rfl, fun j hj => by omega, hb3⟩
            case round =>
              obtain ⟨k, hk, rfl, hok, hw1⟩ := hrel
              rename World => wr
              have hw := B0.then hw1 B0.size
              clear c0 c1 c2 c3 c4
              obtain ⟨c0, c1, c2, c3, c4, _, _, _, _, _⟩ := HX.out wr hw1
              by_cases hlt : k < s.ents.length
              · obtain ⟨b, off, rfl, hbw, hat⟩ := (HE.out _ hw).at_ (by omega)
                obtain ⟨pv, pm, R⟩ := hat.row (i := k) hlt
                have hsk := hs3 k hlt
                obtain ⟨e, he⟩ : ∃ e, e = eng s.ents k := ⟨_, rfl⟩
                have HG : Hid (e = eng s.ents k) := he
                rw [← he] at R hsk
                clear he
                obtain ⟨d0, d1, d2, d3, d4, d5, d6, d7, d8, d9, d10, hps⟩ := R
                have hlt' : (k : Int) < (s.ents.length : Int) := by omega
                have i1 : (0 : Int) ≤ (k : Int) := by omega
                obtain ⟨W1, hW1⟩ : ∃ W1, W1 = (wr.alloc (.cells #[.int .i64 e.job.id, .int .i64 e.job.cores, .int .i64 e.job.long, .int .i64 e.job.due, .int .i64 e.job.wt, .int .i64 e.job.rank, .int .i64 e.job.at_, .int .i64 e.ph, .int .i64 e.st, .int .i64 e.ep, .slice pv e.ps.length pm] 64)).alloc (.cells #[.int .i64 e.job.id, .int .i64 e.job.cores, .int .i64 e.job.long, .int .i64 e.job.due, .int .i64 e.job.wt, .int .i64 e.job.rank, .int .i64 e.job.at_] 49) := ⟨_, rfl⟩
                have b1 : Below wr.heap.size wr W1 := by rw [hW1]; exact box_below0.alloc (by simp) _
                have x1 : W1.heap[wr.heap.size]? = some (.cells #[.int .i64 e.job.id, .int .i64 e.job.cores, .int .i64 e.job.long, .int .i64 e.job.due, .int .i64 e.job.wt, .int .i64 e.job.rank, .int .i64 e.job.at_, .int .i64 e.ph, .int .i64 e.st, .int .i64 e.ep, .slice pv e.ps.length pm] 64 (0, 0)) := by rw [hW1]; exact (Below.heap_alloc _ _ _ (by simp)).trans (heap_alloc_new _ _)
                have x2 : W1.heap[wr.heap.size + 1]? = some (.cells #[.int .i64 e.job.id, .int .i64 e.job.cores, .int .i64 e.job.long, .int .i64 e.job.due, .int .i64 e.job.wt, .int .i64 e.job.rank, .int .i64 e.job.at_] 49 (0, 0)) := by rw [hW1]; exact new_box _ _ _ (by simp)
                have l1 := lt_of_block x1
                have B1 := hw.then b1 hw.size
                have hw3 := hw1.then b1 hw1.size
                have HX1 : Hid (∀ W, Below W1.heap.size W1 W → Box11 W wr.heap.size (.int .i64 e.job.id) (.int .i64 e.job.cores) (.int .i64 e.job.long) (.int .i64 e.job.due) (.int .i64 e.job.wt) (.int .i64 e.job.rank) (.int .i64 e.job.at_) (.int .i64 e.ph) (.int .i64 e.st) (.int .i64 e.ep) (.slice pv e.ps.length pm)) := fun W hW => box11 ((hW.block _ l1).trans x1)
                have HPS : Hid (∀ W, Below wr.heap.size wr W → PartS W pv e.ps.length pm e.ps) := fun W hW => hps.below hW
                have hatB : EntAt W1 b off s.ents := hat.below b1 hbw
                go_upto_region 8 with fail
                rw [← hW1]
                clear hW1 d0 d1 d2 d3 d4 d5 d6 d7 d8 d9 d10 hat hps c0 c1 c2 c3 c4
                obtain ⟨c0, c1, c2, c3, c4, _, _, _, _, _⟩ := HX.out W1 hw3
                have BX := box11 x1
                obtain ⟨g7, g8, g9, g10, g1⟩ : _ ∧ _ ∧ _ ∧ _ ∧ _ := ⟨BX.c7, BX.c8, BX.c9, BX.c10, BX.c1⟩
                have j0 := cell_of_blk 0 x2 (by simp)
                have j3 := cell_of_blk 3 x2 (by simp)
                have j4 := cell_of_blk 4 x2 (by simp)
                have j6 := cell_of_blk 6 x2 (by simp)
                clear x1 x2 BX
                by_cases a1 : e.job.id ≥ s.next
                · have E : Hid (r = false) := HR.out.trans (soB_a hlt fun q => by rw [← HG.out] at q; have := q.nx; omega)
                  go_quiet (fail)
                  go_wp2
                  go_ret
                  exact ⟨by rw [E.out]; rfl, B1.drewN _⟩
                · skip
                  by_cases a2 : e.job.at_ > s.now
                  · have E : Hid (r = false) := HR.out.trans (soB_a hlt fun q => by rw [← HG.out] at q; have := q.at_; omega)
                    go_quiet (fail)
                    go_wp2
                    go_ret
                    exact ⟨by rw [E.out]; rfl, B1.drewN _⟩
                  · skip
                    rcases a3 : (e.job.wt != 0) with _ | _
                    rotate_left
                    · have E : Hid (r = false) := HR.out.trans (soB_a hlt fun q => by rw [← HG.out] at q; have := q.wt; rw [this] at a3; simp at a3)
                      go_quiet (fail)
                      go_wp2
                      go_ret
                      exact ⟨by rw [E.out]; rfl, B1.drewN _⟩
                    · skip
                      rcases a4 : (e.job.due != 1000000000) with _ | _
                      rotate_left
                      · have E : Hid (r = false) := HR.out.trans (soB_a hlt fun q => by rw [← HG.out] at q; have := q.due; rw [this] at a4; simp at a4)
                        go_quiet (fail)
                        go_wp2
                        go_ret
                        exact ⟨by rw [E.out]; rfl, B1.drewN _⟩
                      · skip
                        have e3 : e.job.wt = 0 := by simpa using a3
                        have e4 : e.job.due = 1000000000 := by simpa using a4
                        by_cases hk0 : 0 < k
                        · have hk1 : (k : Int) > 0 := by omega
                          have i4 : (0 : Int) ≤ (k : Int) - 1 := by omega
                          have i5 : (k : Int) - 1 < (s.ents.length : Int) := by omega
                          obtain ⟨_, _, Z⟩ := hatB.row (i := k - 1) (by omega)
                          have z0 := Z.c0
                          have hkk : ((k : Int) - 1).toNat = k - 1 := by omega
                          obtain ⟨q, hq⟩ : ∃ q, q = (eng s.ents (k - 1)).job.id := ⟨_, rfl⟩
                          have HQ : Hid (q = (eng s.ents (k - 1)).job.id) := hq
                          rw [← hq] at z0
                          clear hq Z
                          by_cases q4 : e.job.id ≤ q
                          · have E : Hid (r = false) := HR.out.trans (soB_a hlt fun q => by rw [← HG.out] at q; have := q.up hk0; have := HQ.out; omega)
                            go_quiet (fail)
                            go_wp2
                            go_ret
                            exact ⟨by rw [E.out]; rfl, B1.drewN _⟩
                          · skip
                            have HUP : Hid (0 < k → (eng s.ents (k - 1)).job.id < e.job.id) := fun _ => by have := HQ.out; omega
                            go_quiet (fail)
                            clear j0 j3 j4 j6
                            go_upto_region 10 with fail
                            rcases p1 : inB e.ph 1 5 with _ | _
                            · have E : Hid (r = false) := HR.out.trans (soB_a hlt fun q => by rw [← HG.out] at q; have := q.ph; have := nin_f p1; omega)
                              go_wp2_with (go_at_call 29; refine (l1In_any _ _ _ _).mono ?_; rintro e' w' ⟨rfl, hq⟩; have hq' := hq.symm; clear hq; subst hq')
                              go_ret
                              exact ⟨by rw [E.out]; rfl, B1.drewN _⟩
                            · skip
                              rcases p2 : inB e.ep 0 s.eps with _ | _
                              · have E : Hid (r = false) := HR.out.trans (soB_a hlt fun q => by rw [← HG.out] at q; have := q.ep; have := nin_f p2; omega)
                                go_wp2_with (go_at_call 29; refine (l1In_any _ _ _ _).mono ?_; rintro e' w' ⟨rfl, hq⟩; have hq' := hq.symm; clear hq; subst hq')
                                go_ret
                                exact ⟨by rw [E.out]; rfl, B1.drewN _⟩
                              · skip
                                rcases p3 : inB e.st 0 s.now with _ | _
                                · have E : Hid (r = false) := HR.out.trans (soB_a hlt fun q => by rw [← HG.out] at q; have := q.st; have := nin_f p3; omega)
                                  go_wp2_with (go_at_call 29; refine (l1In_any _ _ _ _).mono ?_; rintro e' w' ⟨rfl, hq⟩; have hq' := hq.symm; clear hq; subst hq')
                                  go_ret
                                  exact ⟨by rw [E.out]; rfl, B1.drewN _⟩
                                · skip
                                  have m1 := nin_t p1
                                  have m2 := nin_t p2
                                  have m3 := nin_t p3
                                  have HN : Hid (EnP s k e → Hid (∀ j, j < k + 1 → EnA s j (eng s.ents j) ∧ EnP s j (eng s.ents j))) := fun hp j hj => by
                                    by_cases e' : j = k
                                    · subst e'
                                      rw [← HG.out]
                                      exact ⟨⟨by omega, by omega, e3, e4, HUP.out, m1, m2, m3⟩, hp⟩
                                    · exact hok.out j (by omega)
                                  go_upto_region 15 with (go_at_call 29; refine (l1In_any _ _ _ _).mono ?_; rintro e' w' ⟨rfl, hq⟩; have hq' := hq.symm; clear hq; subst hq')
                                  clear p1 p2 p3
                                  rcases p4 : (e.ph == 1) with _ | _
                                  · rcases p5 : (e.ph == 2) with _ | _
                                    · have u4 : e.ph ≠ 1 := by simpa using p4
                                      have u5 : e.ph ≠ 2 := by simpa using p5
                                      rcases p6 : ((e.ps.length : Int) != 0) with _ | _
                                      · have hl0 : e.ps.length = 0 := by
                                          have : (e.ps.length : Int) = 0 := by simpa using p6
                                          omega
                                        have HP : EnP s k e := ⟨fun h => absurd h u4, fun h => absurd h u5, fun _ _ => hl0⟩
                                        have N := HN.out HP
                                        clear HX HX1 HPS HR hok
                                        go_wp2
                                        go_roundw
                                        case rel => exact ⟨k + 1, by omega, by go_num, N, hw3.drewN _⟩
                                        case measure => simp [intOf]; omega
                                      · have E : Hid (r = false) := HR.out.trans (soB_p hlt fun q => by rw [← HG.out] at q; have := q.o u4 u5; rw [this] at p6; simp at p6)
                                        go_wp2
                                        go_ret
                                        exact ⟨by rw [E.out]; rfl, B1.drewN _⟩
                                    · have u5 : e.ph = 2 := by simpa using p5
                                      have u4 : e.ph ≠ 1 := by omega
                                      by_cases p6 : e.ep < 1
                                      · have E : Hid (r = false) := HR.out.trans (soB_p hlt fun q => by rw [← HG.out] at q; have := (q.r u5).1; omega)
                                        go_wp2
                                        go_ret
                                        exact ⟨by rw [E.out]; rfl, B1.drewN _⟩
                                      · have CP : Hid (∀ W, Below W1.heap.size W1 W → Calls Tryz.prog 33 #[.slice na s.nodes.length nc, enV e pv pm] W fun en w' => en = .returned (.bool (prB s.nodes e.job.cores e.ps)) ∧ Below W.heap.size W w') := fun W hW => l13Parts_any s.nodes e na s.nodes.length nc pv pm W (HND.out W (hw3.then hW hw3.size)) (HPS.out W (b1.then hW b1.size)) hs1 hsk
                                        have CP1 := CP.out
                                        unfold enV at CP1
                                        simp only [e3, e4, u5] at CP1
                                        generalize hWD : W1.drewN nq = WD
                                        have D1 : RowKit.Below W1.heap.size W1 WD := by rw [← hWD]; exact (RowKit.Below.refl _ _).drewN _
                                        clear hWD
                                        have hw5 := hw3.then D1 hw3.size
                                        have B5 := B1.then D1 B1.size
                                        clear c0 c1 c2 c3 c4 g1 g7 g8 g9 g10
                                        obtain ⟨_, c1, _, _, _, _, _, _, _, _⟩ := HX.out WD hw5
                                        obtain ⟨y0, y1, y2, y3, y4, y5, y6, y7, y8, y9, y10⟩ : _ ∧ _ ∧ _ ∧ _ ∧ _ ∧ _ ∧ _ ∧ _ ∧ _ ∧ _ ∧ _ := (fun B => ⟨B.c0, B.c1, B.c2, B.c3, B.c4, B.c5, B.c6, B.c7, B.c8, B.c9, B.c10⟩) (HX1.out WD D1)
                                        rcases p7 : prB s.nodes e.job.cores e.ps with _ | _
                                        · have E : Hid (r = false) := HR.out.trans (soB_p hlt fun q => by rw [← HG.out] at q; have := (q.r u5).2.1; rw [prB_mk this] at p7; cases p7)
                                          rw [p7] at CP1
                                          go_wp2_with (go_at_call 33; refine (CP1 _ D1).mono ?_; rintro e' w3 ⟨rfl, hb4⟩)
                                          go_ret
                                          exact ⟨by rw [E.out]; rfl, B5.then hb4 B5.size⟩
                                        · rw [p7] at CP1
                                          have hpr := prB_t p7
                                          go_wp2_with (go_at_call 33; refine (CP1 _ D1).mono ?_; rintro e' w3 ⟨rfl, hb4⟩)
                                          have D3 : RowKit.Below W1.heap.size W1 w3 := D1.then hb4 D1.size
                                          have HAT : Hid (∀ W, Below W1.heap.size W1 W → EntAt W b off s.ents) := fun W hW => hatB.below hW (Nat.lt_of_lt_of_le hbw b1.size)
                                          clear CP CP1 p7 hb4 c1 y0 y1 y2 y3 y4 y5 y6 y7 y8 y9 y10
                                          go_loopw [6] (fun i wi => ∃ m : Nat, m ≤ k ∧ i = .int .i64 m ∧ Hid (∀ j, j < m → ¬ ((eng s.ents j).ph = 2 ∧ (eng s.ents j).ep = e.ep)) ∧ Below W1.heap.size W1 wi) (fun i _ => k - (intOf i).toNat)
                                          case atStart => exact ⟨0, by omega, rfl, fun j hj => by omega, D3⟩
                                          case round =>
                                            obtain ⟨m, hm, rfl, hno, hw4⟩ := hrel
                                            rename World => wi
                                            obtain ⟨_, _, c2, _, _, _, _, _, _, _⟩ := HX.out wi (hw3.then hw4 hw3.size)
                                            have g9 := (HX1.out wi hw4).c9
                                            by_cases hlm : m < k
                                            · obtain ⟨_, _, Z⟩ := (HAT.out wi hw4).row (i := m) (by omega)
                                              have z7 := Z.c7
                                              have z9 := Z.c9
                                              clear Z
                                              obtain ⟨f, hf⟩ : ∃ f, f = (eng s.ents m).ph := ⟨_, rfl⟩
                                              have HF : Hid (f = (eng s.ents m).ph) := hf
                                              rw [← hf] at z7
                                              obtain ⟨x, hx⟩ : ∃ x, x = (eng s.ents m).ep := ⟨_, rfl⟩
                                              have HXE : Hid (x = (eng s.ents m).ep) := hx
                                              rw [← hx] at z9
                                              clear hf hx
                                              have i6 : (m : Int) < (k : Int) := by omega
                                              have i7 : (m : Int) < (s.ents.length : Int) := by omega
                                              have i8 : (0 : Int) ≤ (m : Int) := by omega
                                              go_upto_region 24 with fail
                                              rcases r1 : (f == 2) with _ | _
                                              · have NO : Hid (∀ j, j < m + 1 → ¬ ((eng s.ents j).ph = 2 ∧ (eng s.ents j).ep = e.ep)) := fun j hj => by
                                                  by_cases e' : j = m
                                                  · subst e'; rw [← HF.out]; rintro ⟨h, _⟩; rw [h] at r1; cases r1
                                                  · exact hno.out j (by omega)
                                                go_quiet (fail)
                                                go_wp2
                                                go_roundw
                                                case rel => exact ⟨m + 1, by omega, by go_num, NO, hw4.drewN _⟩
                                                case measure => simp [intOf]; omega
                                              · rcases r2 : (x == e.ep) with _ | _
                                                · have NO : Hid (∀ j, j < m + 1 → ¬ ((eng s.ents j).ph = 2 ∧ (eng s.ents j).ep = e.ep)) := fun j hj => by
                                                    by_cases e' : j = m
                                                    · subst e'; rw [← HXE.out]; rintro ⟨_, h⟩; rw [h] at r2; simp at r2
                                                    · exact hno.out j (by omega)
                                                  go_quiet (fail)
                                                  go_wp2
                                                  go_roundw
                                                  case rel => exact ⟨m + 1, by omega, by go_num, NO, hw4.drewN _⟩
                                                  case measure => simp [intOf]; omega
                                                · have E : Hid (r = false) := HR.out.trans (soB_p hlt fun q => by rw [← HG.out] at q; exact (q.r u5).2.2 m hlm ⟨by rw [← HF.out]; simpa using r1, by rw [← HXE.out]; simpa using r2⟩)
                                                  go_quiet (fail)
                                                  go_wp2
                                                  go_ret
                                                  exact ⟨by rw [E.out]; rfl, (B1.then hw4 B1.size).drewN _⟩
                                            · obtain rfl : m = k := by omega
                                              have hnm : ¬ (m : Int) < (m : Int) := by omega
                                              have HP : EnP s m e := ⟨fun h => absurd h u4, fun _ => ⟨by omega, hpr, hno.out⟩, fun _ h => absurd u5 h⟩
                                              have N := HN.out HP
                                              clear HX HX1 HPS HR hok
                                              go_wp2
                                              go_roundw
                                              case rel => exact ⟨m + 1, by omega, by go_num, N, hw3.then hw4 hw3.size⟩
                                              case measure => simp [intOf]; omega
                                  · have u4 : e.ph = 1 := by simpa using p4
                                    rcases p6 : (e.st != 0) with _ | _
                                    rotate_left
                                    · have E : Hid (r = false) := HR.out.trans (soB_p hlt fun q => by rw [← HG.out] at q; have := (q.q u4).1; rw [this] at p6; simp at p6)
                                      go_wp2
                                      go_ret
                                      exact ⟨by rw [E.out]; rfl, B1.drewN _⟩
                                    rcases p7 : (e.ep != 0) with _ | _
                                    rotate_left
                                    · have E : Hid (r = false) := HR.out.trans (soB_p hlt fun q => by rw [← HG.out] at q; have := (q.q u4).2.1; rw [this] at p7; simp at p7)
                                      go_wp2
                                      go_ret
                                      exact ⟨by rw [E.out]; rfl, B1.drewN _⟩
                                    rcases p8 : ((e.ps.length : Int) != 0) with _ | _
                                    rotate_left
                                    · have E : Hid (r = false) := HR.out.trans (soB_p hlt fun q => by rw [← HG.out] at q; have := (q.q u4).2.2; rw [this] at p8; simp at p8)
                                      go_wp2
                                      go_ret
                                      exact ⟨by rw [E.out]; rfl, B1.drewN _⟩
                                    have hl0 : e.ps.length = 0 := by
                                      have : (e.ps.length : Int) = 0 := by simpa using p8
                                      omega
                                    have HP : EnP s k e := ⟨fun _ => ⟨by simpa using p6, by simpa using p7, hl0⟩, fun h => by omega, fun h => absurd u4 h⟩
                                    have N := HN.out HP
                                    clear HX HX1 HPS HR hok
                                    go_wp2
                                    go_roundw
                                    case rel => exact ⟨k + 1, by omega, by go_num, N, hw3.drewN _⟩
                                    case measure => simp [intOf]; omega
                        · have hk1 : ¬ (k : Int) > 0 := by omega
                          have HUP : Hid (0 < k → (eng s.ents (k - 1)).job.id < e.job.id) := fun p => absurd p hk0
                          go_quiet (fail)
                          clear j0 j3 j4 j6
                          go_upto_region 10 with fail
                          rcases p1 : inB e.ph 1 5 with _ | _
                          · have E : Hid (r = false) := HR.out.trans (soB_a hlt fun q => by rw [← HG.out] at q; have := q.ph; have := nin_f p1; omega)
                            go_wp2_with (go_at_call 29; refine (l1In_any _ _ _ _).mono ?_; rintro e' w' ⟨rfl, hq⟩; have hq' := hq.symm; clear hq; subst hq')
                            go_ret
                            exact ⟨by rw [E.out]; rfl, B1.drewN _⟩
                          · skip
                            rcases p2 : inB e.ep 0 s.eps with _ | _
                            · have E : Hid (r = false) := HR.out.trans (soB_a hlt fun q => by rw [← HG.out] at q; have := q.ep; have := nin_f p2; omega)
                              go_wp2_with (go_at_call 29; refine (l1In_any _ _ _ _).mono ?_; rintro e' w' ⟨rfl, hq⟩; have hq' := hq.symm; clear hq; subst hq')
                              go_ret
                              exact ⟨by rw [E.out]; rfl, B1.drewN _⟩
                            · skip
                              rcases p3 : inB e.st 0 s.now with _ | _
                              · have E : Hid (r = false) := HR.out.trans (soB_a hlt fun q => by rw [← HG.out] at q; have := q.st; have := nin_f p3; omega)
                                go_wp2_with (go_at_call 29; refine (l1In_any _ _ _ _).mono ?_; rintro e' w' ⟨rfl, hq⟩; have hq' := hq.symm; clear hq; subst hq')
                                go_ret
                                exact ⟨by rw [E.out]; rfl, B1.drewN _⟩
                              · skip
                                have m1 := nin_t p1
                                have m2 := nin_t p2
                                have m3 := nin_t p3
                                have HN : Hid (EnP s k e → Hid (∀ j, j < k + 1 → EnA s j (eng s.ents j) ∧ EnP s j (eng s.ents j))) := fun hp j hj => by
                                  by_cases e' : j = k
                                  · subst e'
                                    rw [← HG.out]
                                    exact ⟨⟨by omega, by omega, e3, e4, HUP.out, m1, m2, m3⟩, hp⟩
                                  · exact hok.out j (by omega)
                                go_upto_region 15 with (go_at_call 29; refine (l1In_any _ _ _ _).mono ?_; rintro e' w' ⟨rfl, hq⟩; have hq' := hq.symm; clear hq; subst hq')
                                clear p1 p2 p3
                                rcases p4 : (e.ph == 1) with _ | _
                                · rcases p5 : (e.ph == 2) with _ | _
                                  · have u4 : e.ph ≠ 1 := by simpa using p4
                                    have u5 : e.ph ≠ 2 := by simpa using p5
                                    rcases p6 : ((e.ps.length : Int) != 0) with _ | _
                                    · have hl0 : e.ps.length = 0 := by
                                        have : (e.ps.length : Int) = 0 := by simpa using p6
                                        omega
                                      have HP : EnP s k e := ⟨fun h => absurd h u4, fun h => absurd h u5, fun _ _ => hl0⟩
                                      have N := HN.out HP
                                      clear HX HX1 HPS HR hok
                                      go_wp2
                                      go_roundw
                                      case rel => exact ⟨k + 1, by omega, by go_num, N, hw3.drewN _⟩
                                      case measure => simp [intOf]; omega
                                    · have E : Hid (r = false) := HR.out.trans (soB_p hlt fun q => by rw [← HG.out] at q; have := q.o u4 u5; rw [this] at p6; simp at p6)
                                      go_wp2
                                      go_ret
                                      exact ⟨by rw [E.out]; rfl, B1.drewN _⟩
                                  · have u5 : e.ph = 2 := by simpa using p5
                                    have u4 : e.ph ≠ 1 := by omega
                                    by_cases p6 : e.ep < 1
                                    · have E : Hid (r = false) := HR.out.trans (soB_p hlt fun q => by rw [← HG.out] at q; have := (q.r u5).1; omega)
                                      go_wp2
                                      go_ret
                                      exact ⟨by rw [E.out]; rfl, B1.drewN _⟩
                                    · have CP : Hid (∀ W, Below W1.heap.size W1 W → Calls Tryz.prog 33 #[.slice na s.nodes.length nc, enV e pv pm] W fun en w' => en = .returned (.bool (prB s.nodes e.job.cores e.ps)) ∧ Below W.heap.size W w') := fun W hW => l13Parts_any s.nodes e na s.nodes.length nc pv pm W (HND.out W (hw3.then hW hw3.size)) (HPS.out W (b1.then hW b1.size)) hs1 hsk
                                      have CP1 := CP.out
                                      unfold enV at CP1
                                      simp only [e3, e4, u5] at CP1
                                      generalize hWD : W1.drewN nq = WD
                                      have D1 : RowKit.Below W1.heap.size W1 WD := by rw [← hWD]; exact (RowKit.Below.refl _ _).drewN _
                                      clear hWD
                                      have hw5 := hw3.then D1 hw3.size
                                      have B5 := B1.then D1 B1.size
                                      clear c0 c1 c2 c3 c4 g1 g7 g8 g9 g10
                                      obtain ⟨_, c1, _, _, _, _, _, _, _, _⟩ := HX.out WD hw5
                                      obtain ⟨y0, y1, y2, y3, y4, y5, y6, y7, y8, y9, y10⟩ : _ ∧ _ ∧ _ ∧ _ ∧ _ ∧ _ ∧ _ ∧ _ ∧ _ ∧ _ ∧ _ := (fun B => ⟨B.c0, B.c1, B.c2, B.c3, B.c4, B.c5, B.c6, B.c7, B.c8, B.c9, B.c10⟩) (HX1.out WD D1)
                                      rcases p7 : prB s.nodes e.job.cores e.ps with _ | _
                                      · have E : Hid (r = false) := HR.out.trans (soB_p hlt fun q => by rw [← HG.out] at q; have := (q.r u5).2.1; rw [prB_mk this] at p7; cases p7)
                                        rw [p7] at CP1
                                        go_wp2_with (go_at_call 33; refine (CP1 _ D1).mono ?_; rintro e' w3 ⟨rfl, hb4⟩)
                                        go_ret
                                        exact ⟨by rw [E.out]; rfl, B5.then hb4 B5.size⟩
                                      · rw [p7] at CP1
                                        have hpr := prB_t p7
                                        go_wp2_with (go_at_call 33; refine (CP1 _ D1).mono ?_; rintro e' w3 ⟨rfl, hb4⟩)
                                        have D3 : RowKit.Below W1.heap.size W1 w3 := D1.then hb4 D1.size
                                        have HAT : Hid (∀ W, Below W1.heap.size W1 W → EntAt W b off s.ents) := fun W hW => hatB.below hW (Nat.lt_of_lt_of_le hbw b1.size)
                                        clear CP CP1 p7 hb4 c1 y0 y1 y2 y3 y4 y5 y6 y7 y8 y9 y10
                                        go_loopw [6] (fun i wi => ∃ m : Nat, m ≤ k ∧ i = .int .i64 m ∧ Hid (∀ j, j < m → ¬ ((eng s.ents j).ph = 2 ∧ (eng s.ents j).ep = e.ep)) ∧ Below W1.heap.size W1 wi) (fun i _ => k - (intOf i).toNat)
                                        case atStart => exact ⟨0, by omega, rfl, fun j hj => by omega, D3⟩
                                        case round =>
                                          obtain ⟨m, hm, rfl, hno, hw4⟩ := hrel
                                          rename World => wi
                                          obtain ⟨_, _, c2, _, _, _, _, _, _, _⟩ := HX.out wi (hw3.then hw4 hw3.size)
                                          have g9 := (HX1.out wi hw4).c9
                                          by_cases hlm : m < k
                                          · exfalso; omega
                                          · obtain rfl : m = k := by omega
                                            have hnm : ¬ (m : Int) < (m : Int) := by omega
                                            have HP : EnP s m e := ⟨fun h => absurd h u4, fun _ => ⟨by omega, hpr, hno.out⟩, fun _ h => absurd u5 h⟩
                                            have N := HN.out HP
                                            clear HX HX1 HPS HR hok
                                            go_wp2
                                            go_roundw
                                            case rel => exact ⟨m + 1, by omega, by go_num, N, hw3.then hw4 hw3.size⟩
                                            case measure => simp [intOf]; omega
                                · have u4 : e.ph = 1 := by simpa using p4
                                  rcases p6 : (e.st != 0) with _ | _
                                  rotate_left
                                  · have E : Hid (r = false) := HR.out.trans (soB_p hlt fun q => by rw [← HG.out] at q; have := (q.q u4).1; rw [this] at p6; simp at p6)
                                    go_wp2
                                    go_ret
                                    exact ⟨by rw [E.out]; rfl, B1.drewN _⟩
                                  rcases p7 : (e.ep != 0) with _ | _
                                  rotate_left
                                  · have E : Hid (r = false) := HR.out.trans (soB_p hlt fun q => by rw [← HG.out] at q; have := (q.q u4).2.1; rw [this] at p7; simp at p7)
                                    go_wp2
                                    go_ret
                                    exact ⟨by rw [E.out]; rfl, B1.drewN _⟩
                                  rcases p8 : ((e.ps.length : Int) != 0) with _ | _
                                  rotate_left
                                  · have E : Hid (r = false) := HR.out.trans (soB_p hlt fun q => by rw [← HG.out] at q; have := (q.q u4).2.2; rw [this] at p8; simp at p8)
                                    go_wp2
                                    go_ret
                                    exact ⟨by rw [E.out]; rfl, B1.drewN _⟩
                                  have hl0 : e.ps.length = 0 := by
                                    have : (e.ps.length : Int) = 0 := by simpa using p8
                                    omega
                                  have HP : EnP s k e := ⟨fun _ => ⟨by simpa using p6, by simpa using p7, hl0⟩, fun h => by omega, fun h => absurd u4 h⟩
                                  have N := HN.out HP
                                  clear HX HX1 HPS HR hok
                                  go_wp2
                                  go_roundw
                                  case rel => exact ⟨k + 1, by omega, by go_num, N, hw3.drewN _⟩
                                  case measure => simp [intOf]; omega
              · obtain rfl : k = s.ents.length := by omega
                have hnn : ¬ (s.ents.length : Int) < (s.ents.length : Int) := by omega
                have E : Hid (r = usB s.nodes (iuK s s.ents.length)) := HR.out.trans (by
                  rcases hu : usB s.nodes (iuK s s.ents.length) with _ | _
                  · exact soB_no fun q => usB_f hu q.us
                  · exact soB_mk ⟨by omega, n2, n3, by omega, by omega, hok.out, usB_t hu⟩)
                have CU : ∀ W, Below W0.heap.size W0 W → Calls Tryz.prog 35 #[stV s na nc ea ec] W fun e w' => ∃ v c, e = .returned (.slice v (iuK s s.ents.length).length c) ∧ LInt w' W.heap.size v (iuK s s.ents.length).length c (iuK s s.ents.length) ∧ Below W.heap.size W w' := fun W hW => l13InUse_any s na nc ea ec W (HSS.out W (B0.then hW B0.size)) hs0
                unfold stV at CU
                generalize iuK s s.ents.length = u at CU E
                go_upto_region 26 with fail
                go_region_law (first
                  | (go_simp; go_at_call 35; refine (CU _ (by first | exact hw1 | exact hw1.drewN _ | exact hw1.drew)).mono ?_
                     rintro e w3 ⟨v, c, rfl, hL, hb4⟩
                     have hd3 : Below W0.heap.size W0 w3 := by first | exact hw1.then hb4 hw1.size | exact (hw1.drewN _).then hb4 (hw1.drewN _).size | exact hw1.drew.then hb4 hw1.drew.size
                     obtain ⟨d0, d1, d2, d3, d4, _, _, _, _, _⟩ := HX.out w3 hd3)
                  | (go_simp; go_at_call 34; refine (specUsedOk_any _ _ _ _ _ _ s.nodes u _ (HND.out _ (by first | exact hd3 | exact hd3.drewN _ | exact hd3.drew)) hL.toS).mono ?_
                     rintro e w4 ⟨rfl, hb5⟩))
                all_goals
                  go_wp2
                  go_ret
                  exact ⟨by rw [E.out]; rfl, B0.then (hd3.then hb5 hd3.size) B0.size⟩

end Go.Proofs.YtdgfkcobhhlfbaaGreat
