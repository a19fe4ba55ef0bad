/- Several texts in one. -/
import Derived.Test.YtdgfkcobhhlfbaaGreatPc
import Derived.Test.YtdgfkcobhhlfbaaGreatStateS7
import Derived.Test.YtdgfkcobhhlfbaaGreatPb
import Derived.Deep.RegionHeld3
/- The program's chapter 13, sixth part: runsOk, StateOk, InUse. -/
namespace Go.Proofs.YtdgfkcobhhlfbaaGreat
open Go.RowKit Go.Sort

set_option maxRecDepth 8000 in
set_option maxHeartbeats 4000000 in
theorem fewUnlike_ent (s : St) (na : Option Addr) (nc : Nat) (ea : Option Addr) (ec : Nat) (a : Option Addr) (n cap : Nat) (ls : List En) (w : World) (h : EntS w a n cap ls) (hN : NodeS w na s.nodes.length nc s.nodes) (hns : NsOk s.nodes) (hp : ∀ i, i < n → (eng ls i).ps.length ≤ 1048576) :
    Calls Tryz.prog 61 #[.slice a n cap, .func (.func 62) #[stV s na nc ea ec] #[], .func (.func 63) #[] #[]] w fun e w' => e = .returned (.bool (rnB s.nodes ls)) ∧ Below w.heap.size w w' := by
  have hm := h.mx
  have hle := h.le
  have hlen := h.len
  unfold maxLen at hm
  obtain ⟨r, hr⟩ : ∃ r, r = rnB s.nodes ls := ⟨_, rfl⟩
  have HR : Hid (r = rnB s.nodes ls) := hr
  rw [← hr]
  clear hr
  obtain ⟨V, hV⟩ : ∃ V, V = stV s na nc ea ec := ⟨_, rfl⟩
  have CP : ∀ (e : En) (v : Option Addr) (m : Nat) (W : World), Below w.heap.size w W → PartS W v e.ps.length m e.ps → e.ps.length ≤ 1048576 → Calls Tryz.prog 62 #[V, enV e v m] W fun en w' => en = .returned (.bool (ppB s.nodes e.job.cores e.ps)) ∧ Below W.heap.size W w' := fun e v m W hW hP h9 => by
    rw [hV]; exact partsOk_any s e na nc ea ec v m W (hN.below hW) hP hns h9
  rw [← hV]
  clear hV hN hns
  by_cases c1 : 40 < n
  · have E : Hid (r = false) := HR.out.trans (rnB_no fun p => by have := p.n; omega)
    clear CP h hp
    go_enter Tryz.func61, Tryz.ntmps61
    go_wp2
    go_ret
    exact ⟨by rw [E.out]; rfl, box_below0⟩
  · obtain ⟨W1, hW1⟩ : ∃ W1, W1 = w.alloc (.cells #[.func (.func 63) #[] #[]] 107) := ⟨_, rfl⟩
    have B1 : Below w.heap.size w W1 := by rw [hW1]; exact box_below0
    have HE : Hid (∀ W, Below W1.heap.size W1 W → EntS W a n cap ls) := fun W hW => (h.below B1).below hW
    have z1 : w.heap.size < W1.heap.size := by rw [hW1]; simp
    have F1 : Hid (W1.cell? ⟨w.heap.size, 0, none⟩ = some (.func (.func 63) #[] #[])) := by unfold Hid; rw [hW1]; simp
    clear h
    go_enter Tryz.func61, Tryz.ntmps61
    go_wp2
    rw [← hW1]
    clear hW1
    go_loopw [15] (fun i wr => ∃ k : Nat, k ≤ n ∧ i = .int .i64 k ∧ Hid (rnTo s.nodes ls k) ∧ Below W1.heap.size W1 wr) (fun i _ => n - (intOf i).toNat)
    case atStart => exact ⟨0, by omega, rfl, fun i hi => by omega, Below.refl _ _⟩
    case round =>
      obtain ⟨k, hk, rfl, hok, hw⟩ := hrel
      rename World => wr
      have hww : Below w.heap.size w wr := B1.then hw (by omega)
      by_cases hlt : k < n
      · obtain ⟨b, off, rfl, hbw, hat⟩ := (HE.out _ hw).at_ (by omega)
        obtain ⟨v, m, E⟩ := hat.row (i := k) (by omega)
        obtain ⟨d0, d1, d2, d3, d4, d5, d6, d7, d8, d9, d10, hps⟩ := E
        have hlt' : (k : Int) < (n : Int) := by omega
        have hpk := hp k hlt
        obtain ⟨e, he⟩ : ∃ e, e = eng ls k := ⟨_, rfl⟩
        have HEk : Hid (e = eng ls k) := he
        rw [← he] at d0 d1 d2 d3 d4 d5 d6 d7 d8 d9 d10 hps hpk
        clear he
        obtain ⟨W2, hW2⟩ : ∃ W2, W2 = wr.alloc (.cells #[.int .i64 e.job.id, .int .i64 e.job.cores, .int .i64 e.job.long, .int .i64 e.job.due, .int .i64 e.job.wt, .int .i64 e.job.rank, .int .i64 e.job.at_, .int .i64 e.ph, .int .i64 e.st, .int .i64 e.ep, .slice v e.ps.length m] 64) := ⟨_, rfl⟩
        have B2 : Below wr.heap.size wr W2 := by rw [hW2]; exact box_below0
        have x2 : W2.heap[wr.heap.size]? = some (.cells #[.int .i64 e.job.id, .int .i64 e.job.cores, .int .i64 e.job.long, .int .i64 e.job.due, .int .i64 e.job.wt, .int .i64 e.job.rank, .int .i64 e.job.at_, .int .i64 e.ph, .int .i64 e.st, .int .i64 e.ep, .slice v e.ps.length m] 64 (0, 0)) := by rw [hW2]; exact heap_alloc_new _ _
        have l2 := lt_of_block x2
        have fr : W2.cell? ⟨w.heap.size, 0, none⟩ = some (.func (.func 63) #[] #[]) := (B2.cell (p := ⟨w.heap.size, 0, none⟩) (by have := hw.size; simp; omega)).trans ((hw.cell (p := ⟨w.heap.size, 0, none⟩) (by simpa using z1)).trans F1.out)
        have lf : w.heap.size < W2.heap.size := by have := hw.size; have := B2.size; omega
        have HS : EntS W2 (some ⟨b, off, none⟩) k cap (ls.take k) := (HE.out _ (hw.then B2 hw.size)).pre (by omega)
        have hw2 : Below W1.heap.size W1 W2 := hw.then B2 hw.size
        have hww2 : Below w.heap.size w W2 := hww.then B2 hww.size
        have CN : ∀ W, Below W2.heap.size W2 W → Calls Tryz.prog 77 #[.slice (some ⟨b, off, none⟩) k cap, .func (.func 76) #[] #[.pointer (some ⟨w.heap.size, 0, none⟩), .pointer (some ⟨wr.heap.size, 0, none⟩)]] W fun e9 w' => e9 = .returned (.bool (ehas ls k e.ep)) ∧ GrS W w' := fun W hW => by
          rw [← ehas_pre]
          exact contains_ent _ _ _ _ e v m _ _ _ (HS.below hW) ((hW.cell (p := ⟨w.heap.size, 0, none⟩) lf).trans fr) ((hW.block _ l2).trans x2)
        have CK := CP e v m W2 hww2 (hps.below B2) hpk
        have hkc : (k : Int) ≤ (cap : Int) := by omega
        have hk0 : (0 : Int) ≤ (k : Int) := by omega
        obtain ⟨g0, g1, g2, g3, g4, g5, g6, g7, g8, g9, g10, _, _, _, _, _, _, _, _, _, _, _⟩ := box11 x2
        clear fr HS hat hps x2 l2 lf CP hp B2
        go_upto_region 6 with fail
        rw [← hW2]
        clear hW2 d0 d1 d2 d3 d4 d5 d6 d7 d8 d9 d10
        unfold enV at CK
        rcases hj : ppB s.nodes e.job.cores e.ps with _ | _
        · have E : Hid (r = false) := HR.out.trans (rn_no_ok (k := k) (by omega) (by rw [← HEk.out]; exact hj))
          rw [hj] at CK
          clear hj CN
          go_wp2_with (go_at_call 62; refine CK.mono ?_; rintro e3 w3 ⟨rfl, hg3⟩)
          go_ret
          exact ⟨by rw [E.out]; rfl, hww2.then hg3 hww2.size⟩
        · have HJ : Hid (ppB s.nodes (eng ls k).job.cores (eng ls k).ps = true) := by rw [← HEk.out]; exact hj
          rw [hj] at CK
          clear hj
          rcases hh : ehas ls k e.ep with _ | _
          · have HN : Hid (∀ i, i < k → (eng ls i).ep ≠ (eng ls k).ep) := by rw [← HEk.out]; exact ehas_f hh
            rw [hh] at CN
            clear hh
            go_wp2_with (first | (go_at_call 62; refine CK.mono ?_; rintro e3 w3 ⟨rfl, hg3⟩) | (go_at_call 77; refine (CN _ hg3).mono ?_; rintro e4 w4 ⟨rfl, hg4⟩))
            go_roundw
            case rel => exact ⟨k + 1, by omega, by go_num, rnTo_succ hok.out HJ.out HN.out, (hw2.then hg3 hw2.size).then hg4.below (hw2.then hg3 hw2.size).size⟩
            case measure => simp [intOf]; omega
          · have E : Hid (r = false) := HR.out.trans (by
              obtain ⟨m9, hmk, hid⟩ := ehas_t hh
              exact rn_no_id (k := k) (m := m9) (by omega) hmk (by rw [← HEk.out]; exact hid))
            rw [hh] at CN
            clear hh
            go_wp2_with (first | (go_at_call 62; refine CK.mono ?_; rintro e3 w3 ⟨rfl, hg3⟩) | (go_at_call 77; refine (CN _ hg3).mono ?_; rintro e4 w4 ⟨rfl, hg4⟩))
            go_ret
            exact ⟨by rw [E.out]; rfl, (hww2.then hg3 hww2.size).then hg4.below (hww2.then hg3 hww2.size).size⟩
      · obtain rfl : k = n := by omega
        have hnn : ¬ (k : Int) < (k : Int) := by omega
        have E : Hid (r = true) := HR.out.trans (rnB_mk ⟨by omega, by rw [hlen]; exact hok.out⟩)
        clear CP hp
        go_wp2
        go_ret
        exact ⟨by rw [E.out]; rfl, hww⟩

/-- those that run are right, and each node has so many cores -/
noncomputable def ro2 (s : St) : Bool := rnB s.nodes (inK s.ents 2 s.ents.length) && usB s.nodes (iuK s s.ents.length)
set_option maxRecDepth 8000 in
set_option maxHeartbeats 4000000 in
theorem runsOk_any (s : St) (na : Option Addr) (nc : Nat) (ea : Option Addr) (ec : Nat) (w : World) (h : StS w s na nc ea ec) (hs : stSmall s) (hns : NsOk s.nodes) :
    Calls Tryz.prog 44 #[stV s na nc ea ec] w fun e w' => e = .returned (.bool (ro2 s)) ∧ Below w.heap.size w w' := by
  have hmo : Tryz.prog.follows .mixedOrders = true := by kernel_rfl
  obtain ⟨r, hr⟩ : ∃ r, r = ro2 s := ⟨_, rfl⟩
  have HR : Hid (r = ro2 s) := hr
  rw [← hr]
  clear hr
  have hs2 := hs.2.1
  have hs4 : ∀ i, i < (inK s.ents 2 s.ents.length).length → (eng (inK s.ents 2 s.ents.length) i).ps.length ≤ 1048576 := fun i hi => by
    obtain ⟨j, hj, e, _⟩ := inK_at hi
    rw [e]; exact hs.2.2 j hj
  have C1 : ∀ W, Below w.heap.size w W → _ := fun W hW => implIn_any s 2 na nc ea ec W (h.below hW) hs2
  have C2 : ∀ W g c, Below w.heap.size w W → EntS W (some ⟨g, 0, none⟩) (inK s.ents 2 s.ents.length).length c (inK s.ents 2 s.ents.length) → _ := fun W g c hW hE => fewUnlike_ent s na nc ea ec (some ⟨g, 0, none⟩) (inK s.ents 2 s.ents.length).length c (inK s.ents 2 s.ents.length) W hE (h.nd.below hW) hns hs4
  have C3 : ∀ W, Below w.heap.size w W → _ := fun W hW => implUsed_any s na nc ea ec W (h.below hW) hs
  have C4 : ∀ W v c, Below w.heap.size w W → IntS W v (iuK s s.ents.length).length c (iuK s s.ents.length) → _ := fun W v c hW hL => implUsedOk_any na v s.nodes.length nc (iuK s s.ents.length).length c s.nodes (iuK s s.ents.length) W (h.nd.below hW) hL
  unfold stV at C1 C2 C3 ⊢
  obtain ⟨W0, hW0⟩ : ∃ W0, W0 = w.alloc (.cells #[.int .i64 s.now, .slice na s.nodes.length nc, .slice ea s.ents.length ec, .int .i64 s.next, .int .i64 s.eps] 32) := ⟨_, rfl⟩
  have B0 : Below w.heap.size w W0 := by rw [hW0]; exact box_below0
  have x0 : W0.heap[w.heap.size]? = some (.cells #[.int .i64 s.now, .slice na s.nodes.length nc, .slice ea s.ents.length ec, .int .i64 s.next, .int .i64 s.eps] 32 (0, 0)) := by rw [hW0]; exact heap_alloc_new _ _
  have l0 := lt_of_block x0
  have HT : Hid (∀ X, Below W0.heap.size W0 X → X.cell? ⟨w.heap.size, 0, none⟩ = some (.int .i64 s.now) ∧ X.cell? ⟨w.heap.size, 1, none⟩ = some (.slice na s.nodes.length nc) ∧ X.cell? ⟨w.heap.size, 2, none⟩ = some (.slice ea s.ents.length ec) ∧ X.cell? ⟨w.heap.size, 3, none⟩ = some (.int .i64 s.next) ∧ X.cell? ⟨w.heap.size, 4, none⟩ = some (.int .i64 s.eps)) := fun X hX => by
    obtain ⟨c0, c1, c2, c3, c4, _, _, _, _, _⟩ := box5 ((hX.block _ l0).trans x0)
    exact ⟨c0, c1, c2, c3, c4⟩
  obtain ⟨p0, p1, p2, p3, p4⟩ := HT.out _ (Below.refl _ _)
  clear h hns hs4 x0 l0
  go_enter Tryz.func44, Tryz.ntmps44
  go_upto_region 1 with fail
  rw [← hW0]
  clear hW0
  rcases q1 : rnB s.nodes (inK s.ents 2 s.ents.length) with _ | _
  · have E : Hid (r = false) := HR.out.trans (by unfold ro2; rw [q1]; rfl)
    rw [q1] at C2
    clear HR C3 C4
    first
      | (go_region_with (first
          | (go_at_call 22; refine (C1 _ (B0.then (Below.refl W0.heap.size W0).drew B0.size)).mono ?_; rintro e w1 ⟨g, c, rfl, hE1, hb1⟩; have D1 := (Below.refl W0.heap.size W0).drew.trans hb1; obtain ⟨u0, u1, u2, u3, u4⟩ := HT.out _ D1)
          | (go_at_call 61; refine (C2 _ g c (B0.then D1 B0.size) hE1).mono ?_; rintro e w2 ⟨rfl, hb2⟩; have D2 := D1.then hb2 D1.size; obtain ⟨v0, v1, v2, v3, v4⟩ := HT.out _ D2)))
      | fail "with"
    all_goals (
      go_wp2
      go_ret
      exact ⟨by rw [E.out]; rfl, B0.then D2 B0.size⟩)
  · have E : Hid (r = usB s.nodes (iuK s s.ents.length)) := HR.out.trans (by unfold ro2; rw [q1]; rfl)
    rw [q1] at C2
    clear HR
    generalize iuK s s.ents.length = u at C3 C4 E
    generalize usB s.nodes u = ub at C4 E
    go_region_held3 (fun w' => w'.cell? ⟨w.heap.size, 0, none⟩ = some (.int .i64 s.now) ∧ w'.cell? ⟨w.heap.size, 1, none⟩ = some (.slice na s.nodes.length nc) ∧ w'.cell? ⟨w.heap.size, 2, none⟩ = some (.slice ea s.ents.length ec) ∧ w'.cell? ⟨w.heap.size, 3, none⟩ = some (.int .i64 s.next) ∧ w'.cell? ⟨w.heap.size, 4, none⟩ = some (.int .i64 s.eps)) (first | exact HT.out _ (Below.refl _ _).drew | exact HT.out _ D1 | exact HT.out _ D2 | exact HT.out _ D3 | exact HT.out _ D4) (first
      | (go_at_call 22; refine (C1 _ (B0.then (Below.refl W0.heap.size W0).drew B0.size)).mono ?_; rintro e w1 ⟨g, c, rfl, hE1, hb1⟩; have D1 := (Below.refl W0.heap.size W0).drew.trans hb1)
      | (go_at_call 61; refine (C2 _ g c (B0.then D1 B0.size) hE1).mono ?_; rintro e w2 ⟨rfl, hb2⟩; have D2 := D1.then hb2 D1.size)
      | (go_at_call 65; refine (C3 _ (B0.then D2 B0.size)).mono ?_; rintro e w3 ⟨v3, c3, rfl, hL3, hb3⟩; have D3 := D2.then hb3 D2.size)
      | (go_at_call 64; refine (C4 _ v3 c3 (B0.then D3 B0.size) hL3.toS).mono ?_; rintro e w4 ⟨rfl, hb4⟩; have D4 := D3.then hb4 D3.size))
    all_goals (
      go_wp2
      go_ret
      exact ⟨by rw [E.out]; rfl, B0.then D4 B0.size⟩)

end Go.Proofs.YtdgfkcobhhlfbaaGreat

/- The program's chapter 13, seventh part: StateOk. -/
namespace Go.Proofs.YtdgfkcobhhlfbaaGreat
open Go.RowKit Go.Sort

/-- what StateOk asks, one behind the other -/
theorem so_eq (s : St) : soB s = (inB s.now 0 999999999 && nsB s.nodes && inB s.next 1 1000000 && inB s.eps 0 1000000 && jo2 s.ents && eoTB s s.ents && ro2 s) := by
  rcases q : soB s with _ | _
  · symm
    rw [Bool.eq_false_iff]
    intro h
    simp only [Bool.and_eq_true] at h
    obtain ⟨⟨⟨⟨⟨⟨h1, h2⟩, h3⟩, h4⟩, h5⟩, h6⟩, h7⟩ := h
    unfold jo2 at h5
    unfold ro2 at h7
    simp only [Bool.and_eq_true] at h5 h7
    refine soB_f q (so_mk (nin_t h1) (nsB_t h2) (nin_t h3) (nin_t h4) (jsB_t h5.1) (jsrtB_t h5.2) (eoTB_t h6) (rnB_t h7.1) ?_)
    have := usB_t h7.2
    rwa [iuK_us s _ (Nat.le_refl _)] at this
  · have h := soB_t q
    unfold jo2 ro2
    rw [nin_mk h.now, nsB_mk h.nd, nin_mk h.nx, nin_mk h.eps, jsB_mk h.js, jsrtB_mk h.srt, eoTB_mk h.eo, rnB_mk h.rn, usB_mk h.us]
    rfl

set_option maxRecDepth 8000 in
set_option maxHeartbeats 4000000 in
theorem implStateOk_w (s : St) (na : Option Addr) (nc : Nat) (ea : Option Addr) (ec : Nat) (w : World) (h : StS w s na nc ea ec) (hs2 : s.ents.length ≤ 1048576) (hs3 : ∀ i, i < s.ents.length → (eng s.ents i).ps.length ≤ 1048576) :
    Calls Tryz.prog 19 #[stV s na nc ea ec] w fun en w' => en = .returned (.bool (soB s)) ∧ Below w.heap.size w w' := by
  obtain ⟨r, hr⟩ : ∃ r, r = soB s := ⟨_, rfl⟩
  have HR : Hid (r = soB s) := hr
  rw [← hr]
  clear hr
  have HQ := so_eq s
  have C1 : ∀ W, Below w.heap.size w W → _ := fun W hW => implNodesOk_any na s.nodes.length nc s.nodes W (h.nd.below hW)
  have C2 : ∀ W, Below w.heap.size w W → _ := fun W hW => implJobsOkS_any s na nc ea ec W (h.below hW) hs2
  have C3 : ∀ W, Below w.heap.size w W → _ := fun W hW => eachEntry_any s na nc ea ec ea s.ents.length ec s.ents W (h.en.below hW)
  have C4 : ∀ W, Below w.heap.size w W → NsOk s.nodes → _ := fun W hW hn => runsOk_any s na nc ea ec W (h.below hW) ⟨by have := hn.n2; omega, hs2, hs3⟩ hn
  unfold stV at C2 C3 C4 ⊢
  obtain ⟨W0, hW0⟩ : ∃ W0, W0 = w.alloc (.cells #[.int .i64 s.now, .slice na s.nodes.length nc, .slice ea s.ents.length ec, .int .i64 s.next, .int .i64 s.eps] 32) := ⟨_, rfl⟩
  have B0 : Below w.heap.size w W0 := by rw [hW0]; exact box_below0
  have x0 : W0.heap[w.heap.size]? = some (.cells #[.int .i64 s.now, .slice na s.nodes.length nc, .slice ea s.ents.length ec, .int .i64 s.next, .int .i64 s.eps] 32 (0, 0)) := by rw [hW0]; exact heap_alloc_new _ _
  have l0 := lt_of_block x0
  have HT : Hid (∀ X, Below W0.heap.size W0 X → Box5 X w.heap.size (.int .i64 s.now) (.slice na s.nodes.length nc) (.slice ea s.ents.length ec) (.int .i64 s.next) (.int .i64 s.eps)) := fun X hX => box5 ((hX.block _ l0).trans x0)
  obtain ⟨p0, p1, p2, p3, p4, _, _, _, _, _⟩ := HT.out _ (Below.refl _ _)
  clear h hs2 hs3 x0 l0
  go_enter Tryz.func19, Tryz.ntmps19
  go_upto_region 1 with fail
  rw [← hW0]
  clear hW0
  rcases q1 : inB s.now 0 999999999 with _ | _
  · have E : Hid (r = false) := HR.out.trans (by rw [HQ, q1]; rfl)
    clear HR HQ C1 C2 C3 C4
    go_wp2_with (go_at_call 39; refine (within_any _ _ _ _).mono ?_; rw [q1]; rintro e9 w9 ⟨rfl, rfl⟩)
    go_ret
    exact ⟨by rw [E.out]; rfl, B0⟩
  · rcases q2 : nsB s.nodes with _ | _
    · have E : Hid (r = false) := HR.out.trans (by rw [HQ, q1, q2]; rfl)
      clear HR HQ
      go_wp2_with (first | (go_at_call 39; refine (within_any _ _ _ _).mono ?_; (first | rw [q1] | rw [q3] | rw [q4]); rintro e9 w9 ⟨rfl, hq⟩; have hq' := hq.symm; clear hq; subst hq') | (go_at_call 40; refine (C1 _ B0).mono ?_; rw [q2]; rintro e2 w2 ⟨rfl, hb2⟩; have D2 := hb2; obtain ⟨a0, a1, a2, a3, a4, _, _, _, _, _⟩ := HT.out _ D2))
      go_ret
      exact ⟨by rw [E.out]; rfl, B0.then D2 B0.size⟩
    · rcases q3 : inB s.next 1 1000000 with _ | _
      · have E : Hid (r = false) := HR.out.trans (by rw [HQ, q1, q2, q3]; rfl)
        clear HR HQ
        go_wp2_with (first | (go_at_call 39; refine (within_any _ _ _ _).mono ?_; (first | rw [q1] | rw [q3] | rw [q4]); rintro e9 w9 ⟨rfl, hq⟩; have hq' := hq.symm; clear hq; subst hq') | (go_at_call 40; refine (C1 _ B0).mono ?_; rw [q2]; rintro e2 w2 ⟨rfl, hb2⟩; have D2 := hb2; obtain ⟨a0, a1, a2, a3, a4, _, _, _, _, _⟩ := HT.out _ D2))
        go_ret
        exact ⟨by rw [E.out]; rfl, B0.then D2 B0.size⟩
      · rcases q4 : inB s.eps 0 1000000 with _ | _
        · have E : Hid (r = false) := HR.out.trans (by rw [HQ, q1, q2, q3, q4]; rfl)
          clear HR HQ
          go_wp2_with (first | (go_at_call 39; refine (within_any _ _ _ _).mono ?_; (first | rw [q1] | rw [q3] | rw [q4]); rintro e9 w9 ⟨rfl, hq⟩; have hq' := hq.symm; clear hq; subst hq') | (go_at_call 40; refine (C1 _ B0).mono ?_; rw [q2]; rintro e2 w2 ⟨rfl, hb2⟩; have D2 := hb2; obtain ⟨a0, a1, a2, a3, a4, _, _, _, _, _⟩ := HT.out _ D2))
          go_ret
          exact ⟨by rw [E.out]; rfl, B0.then D2 B0.size⟩
        · rcases q5 : jo2 s.ents with _ | _
          · have E : Hid (r = false) := HR.out.trans (by rw [HQ, q1, q2, q3, q4, q5]; rfl)
            clear HR HQ
            go_wp2_with (first | (go_at_call 39; refine (within_any _ _ _ _).mono ?_; (first | rw [q1] | rw [q3] | rw [q4]); rintro e9 w9 ⟨rfl, hq⟩; have hq' := hq.symm; clear hq; subst hq') | (go_at_call 40; refine (C1 _ B0).mono ?_; rw [q2]; rintro e2 w2 ⟨rfl, hb2⟩; have D2 := hb2; obtain ⟨a0, a1, a2, a3, a4, _, _, _, _, _⟩ := HT.out _ D2) | (go_at_call 41; refine (C2 _ (B0.then D2 B0.size)).mono ?_; rw [q5]; rintro e5 w5 ⟨rfl, hb5⟩; have D5 := D2.then hb5 D2.size; obtain ⟨b0, b1, b2, b3, b4, _, _, _, _, _⟩ := HT.out _ D5))
            go_ret
            exact ⟨by rw [E.out]; rfl, B0.then D5 B0.size⟩
          · rcases q6 : eoTB s s.ents with _ | _
            · have E : Hid (r = false) := HR.out.trans (by rw [HQ, q1, q2, q3, q4, q5, q6]; rfl)
              clear HR HQ
              go_wp2_with (first | (go_at_call 39; refine (within_any _ _ _ _).mono ?_; (first | rw [q1] | rw [q3] | rw [q4]); rintro e9 w9 ⟨rfl, hq⟩; have hq' := hq.symm; clear hq; subst hq') | (go_at_call 40; refine (C1 _ B0).mono ?_; rw [q2]; rintro e2 w2 ⟨rfl, hb2⟩; have D2 := hb2; obtain ⟨a0, a1, a2, a3, a4, _, _, _, _, _⟩ := HT.out _ D2) | (go_at_call 41; refine (C2 _ (B0.then D2 B0.size)).mono ?_; rw [q5]; rintro e5 w5 ⟨rfl, hb5⟩; have D5 := D2.then hb5 D2.size; obtain ⟨b0, b1, b2, b3, b4, _, _, _, _, _⟩ := HT.out _ D5) | (go_at_call 42; refine (C3 _ (B0.then D5 B0.size)).mono ?_; rw [q6]; rintro e6 w6 ⟨rfl, hb6⟩; have D6 := D5.then hb6 D5.size; obtain ⟨c0, c1, c2, c3, c4, _, _, _, _, _⟩ := HT.out _ D6))
              go_ret
              exact ⟨by rw [E.out]; rfl, B0.then D6 B0.size⟩
            · have E : Hid (r = ro2 s) := HR.out.trans (by rw [HQ, q1, q2, q3, q4, q5, q6]; rfl)
              clear HR HQ
              generalize ro2 s = rb at C4 E
              go_wp2_with (first | (go_at_call 39; refine (within_any _ _ _ _).mono ?_; (first | rw [q1] | rw [q3] | rw [q4]); rintro e9 w9 ⟨rfl, hq⟩; have hq' := hq.symm; clear hq; subst hq') | (go_at_call 40; refine (C1 _ B0).mono ?_; rw [q2]; rintro e2 w2 ⟨rfl, hb2⟩; have D2 := hb2; obtain ⟨a0, a1, a2, a3, a4, _, _, _, _, _⟩ := HT.out _ D2) | (go_at_call 41; refine (C2 _ (B0.then D2 B0.size)).mono ?_; rw [q5]; rintro e5 w5 ⟨rfl, hb5⟩; have D5 := D2.then hb5 D2.size; obtain ⟨b0, b1, b2, b3, b4, _, _, _, _, _⟩ := HT.out _ D5) | (go_at_call 42; refine (C3 _ (B0.then D5 B0.size)).mono ?_; rw [q6]; rintro e6 w6 ⟨rfl, hb6⟩; have D6 := D5.then hb6 D5.size; obtain ⟨c0, c1, c2, c3, c4, _, _, _, _, _⟩ := HT.out _ D6) | (go_at_call 44; refine (C4 _ (B0.then D6 B0.size) (nsB_t q2)).mono ?_; rintro e7 w7 ⟨rfl, hb7⟩; have D7 := D6.then hb7 D6.size))
              go_ret
              exact ⟨by rw [E.out]; rfl, B0.then D7 B0.size⟩

theorem implStateOk_any (s : St) (na : Option Addr) (nc : Nat) (ea : Option Addr) (ec : Nat) (w : World) (h : StS w s na nc ea ec) (hs : stSmall s) :
    Calls Tryz.prog 19 #[stV s na nc ea ec] w fun en w' => en = .returned (.bool (soB s)) ∧ Below w.heap.size w w' := implStateOk_w s na nc ea ec w h hs.2.1 hs.2.2

end Go.Proofs.YtdgfkcobhhlfbaaGreat
