/- Pieces of the program: the jobs are laid along a line. -/
import Derived.Test.YtnndkdonbjeejaaPieceS
import Derived.Test.YtnndkdonbjeejaaPieceMark
namespace Go.Proofs.Ytnndkdonbjeejaa
open Go.RowKit Go.Sort

set_option maxRecDepth 8000 in
set_option maxHeartbeats 4000000 in
theorem implPieces_any (a : Option Addr) (n cap : Nat) (ls : List Jb) (m : Int) (w : World) (h : JobS w a n cap ls) :
    Calls Try.prog 9 #[.slice a n cap, .int .i64 m] w fun e w' => ∃ v c ys, e = .returned (.slice v ys.length c) ∧ LPiece w' w.heap.size v ys.length c ys ∧ ys = pcsF ls m ∧ Below w.heap.size w w' := by
  rcases hq : shB ls m with _ | _
  · go_enter Try.func9, Try.ntmps9
    go_wp2_with (go_at_call 33; refine (shareOk_any _ _ _ _ m _ h).mono ?_; rw [hq]; rintro e w1 ⟨rfl, hb1⟩)
    go_ret
    exact ⟨none, 0, [], rfl, ⟨rfl, Or.inl ⟨rfl, rfl, rfl⟩⟩, (pcsF_f hq).symm, hb1⟩
  · have B := bnd_f hq
    have E := pcsF_t hq
    obtain ⟨T, hT⟩ : ∃ T, T = bndV ls m := ⟨_, rfl⟩
    have SB : ∀ W, JobS W a n cap ls → Calls Try.prog 22 #[.slice a n cap, .int .i64 m] W fun e w' => e = .returned (.int .i64 T) ∧ Below W.heap.size W w' := fun W hW => by
      rw [hT]; exact implBound_yes a n cap ls m W hW hq
    rw [← hT] at B E
    clear hT
    have hlen := h.len
    have hle := h.le
    have hm := h.mx
    obtain ⟨hj0, _, _⟩ := shB_t hq
    have hn40 : n ≤ 40 := by have := hj0.n; omega
    unfold maxLen at hm
    obtain ⟨i1, hj, hj1, hj2, hj3⟩ := info_parts infoPiece
    have hmo : Try.prog.follows .mixedOrders = true := by kernel_rfl
    have hTm : T ≤ 400000 := by have := B.le; have := B.sum; omega
    go_enter Try.func9, Try.ntmps9
    go_wp2_with fail
    refine (shareOk_any _ _ _ _ m _ h).mono ?_
    rw [hq]
    rintro e w1 ⟨rfl, hb1⟩
    go_wp2_with fail
    refine (SB _ (h.below hb1)).mono ?_
    rintro e w2 ⟨rfl, hb2⟩
    have U2 := hb1.then hb2 hb1.size
    have own1 : OwnPiece (w2.alloc (.cells #[] 56)) w.heap.size w2.heap.size 0 [] := (ownPiece_nil w2).low U2.size
    have bw1 : Below w.heap.size w (w2.alloc (.cells #[] 56)) := U2.alloc U2.size _
    clear hb1 hb2 U2
    go_wp2
    go_loopw [6, 7, 9, 10, 11, 12, 23] (fun u p _ _ _ _ i wr => ∃ (k g c : Nat) (ys : List Pc), k ≤ n ∧ i = .int .i64 k ∧ p = .int .i64 (sumTo ls k) ∧ u = .slice (some ⟨g, 0, none⟩) ys.length c ∧ Hid (OwnPiece wr w.heap.size g c ys) ∧ Hid (ys = pcsV T 0 (jp (ls.take k))) ∧ Below w.heap.size w wr) (fun _ _ _ _ _ _ i _ => n - (intOf i).toNat)
    case atStart => exact ⟨0, _, 0, [], by omega, rfl, rfl, rfl, own1, by simp [Hid, jp, pcsV], bw1⟩
    case round =>
      obtain ⟨k, g, c, ys, hk, rfl, rfl, rfl, HO, HY, hw⟩ := hrel
      rename World => wo
      by_cases hlt : k < n
      · have hkl : k < ls.length := by omega
        obtain ⟨b, off, rfl, hbw, hat⟩ := h.at_ (by omega)
        obtain ⟨hc0, hc1, hc2, hc3, hc4, hc5, hc6⟩ := (hat.below hw hbw).job (i := k) hkl
        have hlt' : (k : Int) < (n : Int) := by omega
        obtain ⟨L0, L1⟩ := B.each ((jg ls k).id, (jg ls k).long) (List.mem_map.2 ⟨jg ls k, by rw [jg_get hkl]; exact List.getElem_mem hkl, rfl⟩)
        simp only at L0 L1
        have hT0 : 0 < T := by omega
        have hTne : T ≠ 0 := by omega
        have hT1' : (T == 0) = false := by rw [Bool.eq_false_iff]; intro h9; exact hTne (eq_of_beq h9)
        have hS0 := (sumTo_bd hj0.ok k (by omega)).1
        have hS1 : sumTo ls k + (jg ls k).long ≤ 400000 := by
          have h1 := sumTo_bd hj0.ok (k + 1) (by omega)
          have h2 : sumTo ls (k + 1) = sumTo ls k + (jg ls k).long := rfl
          omega
        have PS := pcs_stepJ (T := T) hkl
        have yl : ys.length ≤ 80 := by rw [HY.out]; have := pcsV_len T (jp (ls.take k)) 0; rw [jp_len, List.length_take] at this; omega
        have jl := jobPcs_len T (sumTo ls k) (jg ls k).long (jg ls k).id
        obtain ⟨P0, hP0⟩ : ∃ P0, P0 = sumTo ls k := ⟨_, rfl⟩
        have HP0 : Hid (sumTo ls (k + 1) = P0 + (jg ls k).long) := by unfold Hid; rw [hP0]; rfl
        rw [← hP0] at PS hS0 hS1 jl ⊢
        clear hP0
        obtain ⟨W2, hW2⟩ : ∃ W2, W2 = wo.alloc (.cells #[.int .i64 (jg ls k).id, .int .i64 (jg ls k).cores, .int .i64 (jg ls k).long, .int .i64 (jg ls k).due, .int .i64 (jg ls k).wt, .int .i64 (jg ls k).rank, .int .i64 (jg ls k).at_] 40) := ⟨_, rfl⟩
        have B2 : Below w.heap.size w W2 := by rw [hW2]; exact hw.alloc hw.size _
        have O2 : OwnPiece W2 w.heap.size g c ys := HO.out.below (by rw [hW2]; exact box_below)
        have g2 : W2.cell? ⟨wo.heap.size, 2, none⟩ = some (.int .i64 (jg ls k).long) := by rw [hW2]; simp
        have g0 : W2.cell? ⟨wo.heap.size, 0, none⟩ = some (.int .i64 (jg ls k).id) := by rw [hW2]; simp
        have gz : wo.heap.size < W2.heap.size := by rw [hW2]; simp
        have gne : wo.heap.size ≠ g := by have := HO.out.lt; omega
        obtain ⟨D, hD⟩ : ∃ D, D = wo.heap.size := ⟨_, rfl⟩
        go_wp2_with fail
        rw [← hW2]
        rw [← hD] at g0 g2 gz gne ⊢
        clear hW2 hc0 hc1 hc2 hc3 hc4 hc5 hc6
        obtain ⟨L, hL⟩ : ∃ L, L = (jg ls k).long := ⟨_, rfl⟩
        rw [← hL] at PS L0 L1 hS1 jl g2 HP0 ⊢
        clear hL hD
        go_loopw [6, 7, 10, 11, 12] (fun u p q _ _ wr => ∃ (P left : Int) (g c : Nat) (xs : List Pc), u = .slice (some ⟨g, 0, none⟩) xs.length c ∧ p = .int .i64 P ∧ q = .int .i64 left ∧ Hid (OwnPiece wr w.heap.size g c xs) ∧ 0 ≤ left ∧ left ≤ T ∧ 0 ≤ P ∧ P + left = P0 + L ∧ Hid (xs ++ restP T P left (jg ls k).id = ys ++ jobPcs T P0 L (jg ls k).id) ∧ wr.cell? ⟨D, 0, none⟩ = some (.int .i64 (jg ls k).id) ∧ D < wr.heap.size ∧ D ≠ g ∧ Below w.heap.size w wr) (fun _ _ q _ _ _ => (intOf q).toNat)
        case atStart => exact ⟨P0, L, g, c, ys, rfl, rfl, rfl, O2, by omega, L1, hS0, rfl, by unfold Hid restP; rw [if_neg (by omega)], g0, gz, gne, B2⟩
        case round =>
          obtain ⟨P, left, gx, cx, xs, rfl, rfl, rfl, HX, l0, l1, p0, hpl, HR, hid, hDz, hDg, hwi⟩ := hrel
          rename World => wr
          have xl : xs.length ≤ 82 := by
            have := congrArg List.length HR.out
            rw [List.length_append, List.length_append] at this
            omega
          by_cases hlp : 0 < left
          · have RS := rest_step (id := (jg ls k).id) hT0 p0 hlp l1
            have f0 := Int.emod_nonneg P hTne
            have f1 := Int.emod_lt_of_pos P hT0
            have q0 := Int.ediv_nonneg p0 (Int.le_of_lt hT0)
            have q1 := Int.ediv_le_self T p0
            have eF : P.tmod T = P % T := Int.tmod_eq_emod_of_nonneg p0
            have eQ : P.tdiv T = P / T := Int.tdiv_eq_ediv_of_nonneg p0
            obtain ⟨F, hF⟩ : ∃ F, F = P % T := ⟨_, rfl⟩
            obtain ⟨Q, hQ⟩ : ∃ Q, Q = P / T := ⟨_, rfl⟩
            rw [← hF] at RS f0 f1 eF
            rw [← hQ] at RS q0 q1 eQ
            clear hF hQ
            have p1 : P ≤ 400000 := by omega
            have q2 : Q ≤ 400000 := by omega
            have wQ : IntKind.i64.wrap Q = Q := by rw [IntKind.wrap_i64]; omega
            have zr := hwi.size
            have lo := HX.out.base
            have ll := HX.out.lt
            have HOP : Hid (∀ W, Below wr.heap.size wr W → W.ownsRow w.heap.size 56 4 (.slice (some ⟨gx, 0, none⟩) xs.length cx) xs.length (pccells xs)) := fun W hW => (HX.out.below hW).own
            have KA : Hid (∀ o, ((wr.alloc o).drew).cell? ⟨D, 0, none⟩ = some (.int .i64 (jg ls k).id)) := fun o => (show (wr.alloc o).cell? _ = _ from (World.cell?_alloc_lt _ _ _ (by simp; omega)).trans hid)
            have KG : Hid (∀ o W, ((wr.alloc o).drew).grownBy W (Value.slice (some ⟨gx, 0, none⟩) xs.length cx).ownBlock → W.cell? ⟨D, 0, none⟩ = some (.int .i64 (jg ls k).id)) := fun o W hg =>
              (World.cell?_of_block (a := ⟨D, 0, none⟩) (hg.block D (by simp; omega) (by simpa [Value.ownBlock] using hDg))).trans (KA.out o)
            by_cases hmin : T - F < left
            · have eN : min left (T - F) = (T - F) := by omega
              rw [eN] at RS
              have m0 : 0 < (T - F) ∧ (T - F) ≤ left ∧ (T - F) ≤ T - F := by omega
              obtain ⟨m0, m1, m2⟩ := m0
              have wF : IntKind.i64.wrap (F + (T - F)) = F + (T - F) := by rw [IntKind.wrap_i64]; omega
              have pn0 : 0 ≤ P + (T - F) := by omega
              have pn1 : P + (T - F) ≤ 400000 := by omega
              have HRn : Hid ((xs ++ [⟨(jg ls k).id, Q, F, F + (T - F)⟩]) ++ restP T (P + (T - F)) (left - (T - F)) (jg ls k).id = ys ++ jobPcs T P0 L (jg ls k).id) := by
                unfold Hid
                rw [← HR.out, RS, List.append_assoc]; rfl
              clear RS eN
              go_wp2
              go_region_held_law (fun w' => w'.cell? ⟨D, 0, none⟩ = some (.int .i64 (jg ls k).id)) (first | exact KS5 | exact hid | exact KA.out _ | go_keep) (first
                | (refine step_append_own rfl (.tmp 39) (.tmp 50) 27 rfl w.heap.size 56 i1 (.agg #[.int .i64 0, .int .i64 0, .int .i64 0, .int .i64 0]) 4 32 Try.underlying27 hj hj1 hj2 hj3 rfl (by decide) (.slice (some ⟨gx, 0, none⟩) xs.length cx) xs.length (pccells xs) rfl (HOP.out _ (by first | exact ((Below.refl _ _).alloc (Nat.le_refl _) _).drew | exact (Below.refl _ _).drew.alloc (Nat.le_refl _) _)) ⟨wr.heap.size, 0, none⟩ 1 1 [.int .i64 (jg ls k).id, .int .i64 Q, .int .i64 F, .int .i64 (F + (T - F))] rfl rfl (newPiece_cells _ ⟨(jg ls k).id, Q, F, F + (T - F)⟩ _) (pcl_one ⟨(jg ls k).id, Q, F, F + (T - F)⟩) (by unfold maxLen; omega) (by omega) (by simp; omega) ?_
                   intro v5 w6 own5 grow5 nil5 at5
                   have KS5 := KG.out _ _ grow5
                   have B5 : Below w.heap.size w w6 := (by first | exact (hwi.alloc zr _).drew.grown grow5 (by simp; omega) (fun r e => by have e' : gx = r := Option.some.inj e; omega) | exact ((hwi.drew.alloc (by simp; omega) _).grown grow5 (by simp; omega) (fun r e => by have e' : gx = r := Option.some.inj e; omega)))
                   have Z5 : D < w6.heap.size := Nat.lt_of_lt_of_le (by simp; omega) grow5.size
                   obtain ⟨g5, c5, rfl, O5⟩ := ownPiece_of' (ys := xs ++ [⟨(jg ls k).id, Q, F, F + (T - F)⟩]) own5 (by simp) (by rw [pccells_app]; rfl) (fun e => by have := (nil5.1 e).2; omega)
                   have HO5 : Hid _ := O5
                   have NE5 : D ≠ g5 := by
                     rcases at5 with e | e
                     · have e' : g5 = gx := by simpa [Value.ownBlock] using e
                       omega
                     · have e' := e
                       simp [Value.ownBlock] at e'
                       omega
                   clear own5 grow5 nil5 at5 O5))
              go_wp2
              go_roundw
              case rel => exact ⟨P + (T - F), left - (T - F), g5, c5, xs ++ [(⟨(jg ls k).id, Q, F, F + (T - F)⟩ : Pc)], by simp, by first | rfl | exact congrArg (Value.int .i64) hpl.symm, by first | rfl | simp, HO5.out, by omega, by omega, by omega, by omega, HRn, KS5, Z5, NE5, B5⟩
              case measure => simp [intOf]; omega
            · have eN : min left (T - F) = left := by omega
              rw [eN] at RS
              have m0 : 0 < left ∧ left ≤ left ∧ left ≤ T - F := by omega
              obtain ⟨m0, m1, m2⟩ := m0
              have wF : IntKind.i64.wrap (F + left) = F + left := by rw [IntKind.wrap_i64]; omega
              have pn0 : 0 ≤ P + left := by omega
              have pn1 : P + left ≤ 400000 := by omega
              have HRn : Hid ((xs ++ [⟨(jg ls k).id, Q, F, F + left⟩]) ++ restP T (P + left) (left - left) (jg ls k).id = ys ++ jobPcs T P0 L (jg ls k).id) := by
                unfold Hid
                rw [← HR.out, RS, List.append_assoc]; rfl
              clear RS eN
              go_wp2
              go_region_held_law (fun w' => w'.cell? ⟨D, 0, none⟩ = some (.int .i64 (jg ls k).id)) (first | exact KS5 | exact hid | exact KA.out _ | go_keep) (first
                | (refine step_append_own rfl (.tmp 39) (.tmp 50) 27 rfl w.heap.size 56 i1 (.agg #[.int .i64 0, .int .i64 0, .int .i64 0, .int .i64 0]) 4 32 Try.underlying27 hj hj1 hj2 hj3 rfl (by decide) (.slice (some ⟨gx, 0, none⟩) xs.length cx) xs.length (pccells xs) rfl (HOP.out _ (by first | exact ((Below.refl _ _).alloc (Nat.le_refl _) _).drew | exact (Below.refl _ _).drew.alloc (Nat.le_refl _) _)) ⟨wr.heap.size, 0, none⟩ 1 1 [.int .i64 (jg ls k).id, .int .i64 Q, .int .i64 F, .int .i64 (F + left)] rfl rfl (newPiece_cells _ ⟨(jg ls k).id, Q, F, F + left⟩ _) (pcl_one ⟨(jg ls k).id, Q, F, F + left⟩) (by unfold maxLen; omega) (by omega) (by simp; omega) ?_
                   intro v5 w6 own5 grow5 nil5 at5
                   have KS5 := KG.out _ _ grow5
                   have B5 : Below w.heap.size w w6 := (by first | exact (hwi.alloc zr _).drew.grown grow5 (by simp; omega) (fun r e => by have e' : gx = r := Option.some.inj e; omega) | exact ((hwi.drew.alloc (by simp; omega) _).grown grow5 (by simp; omega) (fun r e => by have e' : gx = r := Option.some.inj e; omega)))
                   have Z5 : D < w6.heap.size := Nat.lt_of_lt_of_le (by simp; omega) grow5.size
                   obtain ⟨g5, c5, rfl, O5⟩ := ownPiece_of' (ys := xs ++ [⟨(jg ls k).id, Q, F, F + left⟩]) own5 (by simp) (by rw [pccells_app]; rfl) (fun e => by have := (nil5.1 e).2; omega)
                   have HO5 : Hid _ := O5
                   have NE5 : D ≠ g5 := by
                     rcases at5 with e | e
                     · have e' : g5 = gx := by simpa [Value.ownBlock] using e
                       omega
                     · have e' := e
                       simp [Value.ownBlock] at e'
                       omega
                   clear own5 grow5 nil5 at5 O5))
              go_wp2
              go_roundw
              case rel => exact ⟨P + left, left - left, g5, c5, xs ++ [(⟨(jg ls k).id, Q, F, F + left⟩ : Pc)], by simp, by first | rfl | exact congrArg (Value.int .i64) hpl.symm, by first | rfl | simp, HO5.out, by omega, by omega, by omega, by omega, HRn, KS5, Z5, NE5, B5⟩
              case measure => simp [intOf]; omega
          · have e0 : left = 0 := by omega
            subst e0
            have HRe : Hid (xs = pcsV T 0 (jp (ls.take (k + 1)))) := by
              have := HR.out
              unfold restP at this
              rw [if_pos rfl, List.append_nil] at this
              unfold Hid
              rw [this, PS, ← HY.out]
            have eP : P = P0 + L := by omega
            have HPn : Hid (P = sumTo ls (k + 1)) := by unfold Hid; rw [HP0.out]; exact eP
            clear HR eP PS
            go_wp2
            go_roundw
            case rel => exact ⟨k + 1, gx, cx, xs, by omega, by go_num, by rw [← HPn.out], rfl, HX.out, HRe, hwi⟩
            case measure => simp [intOf]; omega
      · obtain rfl : k = n := by omega
        have HE : Hid (ys = pcsF ls m) := by
          unfold Hid
          rw [HY.out, E, show ls.take k = ls from List.take_of_length_le (by omega)]
        go_wp2
        go_ret
        exact ⟨_, c, ys, rfl, ⟨rfl, Or.inr ⟨g, rfl, HO.out⟩⟩, HE.out, hw⟩

end Go.Proofs.Ytnndkdonbjeejaa
