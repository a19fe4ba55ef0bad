/- Finish, Parts of the model; Pieces of the model. -/
import Derived.Test.YtnndkdonbjeejaaPkS
import Derived.Test.YtnndkdonbjeejaaPieceRow
import Derived.Test.YtnndkdonbjeejaaStepApp
import Derived.Deep.RegionHeldLaw
namespace Go.Proofs.Ytnndkdonbjeejaa
open Go.RowKit Go.Sort

theorem take_stepP {ps : List Pc} {k : Nat} (hk : k < ps.length) : ps.take (k + 1) = ps.take k ++ [pcg ps k] := by
  rw [List.take_succ_eq_append_getElem hk, ← pcg_get hk]
theorem finV_step {ps : List Pc} {k : Nat} (hk : k < ps.length) : finV (ps.take (k + 1)) = max (finV (ps.take k)) (pcg ps k).up := by
  rw [take_stepP hk, finV_app]
  have := finV_nn (ps.take k)
  simp only [finV]; omega
theorem partsOf_step {ps : List Pc} {k : Nat} {id : Int} (hk : k < ps.length) : partsOf id (ps.take (k + 1)) = partsOf id (ps.take k) + if (pcg ps k).job = id then 1 else 0 := by
  rw [take_stepP hk, partsOf_app]; simp [partsOf]
theorem partsOf_bd (id : Int) : ∀ ps : List Pc, 0 ≤ partsOf id ps ∧ partsOf id ps ≤ ps.length
  | [] => by simp [partsOf]
  | p :: ps => by
    have := partsOf_bd id ps
    simp only [partsOf, List.length_cons]
    split <;> omega
theorem finV_bd {B : Int} (hB : 0 ≤ B) : ∀ ps : List Pc, (∀ p ∈ ps, p.up ≤ B) → 0 ≤ finV ps ∧ finV ps ≤ B := fun ps h => ⟨finV_nn ps, finV_le hB ps h⟩

theorem specFinish_any (a : Option Addr) (n cap : Nat) (ps : List Pc) (w : World) (h : PieceS w a n cap ps) :
    Calls Try.prog 18 #[.slice a n cap] w fun e w' => e = .returned (.int .i64 (finV ps)) ∧ Below w.heap.size w w' := by
  have hm := h.mx
  have hle := h.le
  have hlen := h.len
  unfold maxLen at hm
  go_enter Try.func18, Try.ntmps18
  go_wp2
  go_loopw [3, 4] (fun u i wr => ∃ k : Nat, k ≤ n ∧ i = .int .i64 k ∧ u = .int .i64 (finV (ps.take k)) ∧ Below w.heap.size w wr) (fun _ i _ => n - (intOf i).toNat)
  case atStart => exact ⟨0, by omega, rfl, by simp [finV], Below.refl _ _⟩
  case round =>
    obtain ⟨k, hk, rfl, rfl, hw⟩ := hrel
    rename World => wr
    by_cases hlt : k < n
    · obtain ⟨b, off, rfl, hbw, hat⟩ := h.at_ (by omega)
      obtain ⟨hc0, hc1, hc2, hc3⟩ := (hat.below hw hbw).row (i := k) (by omega)
      have hlt' : (k : Int) < (n : Int) := by omega
      have ST := finV_step (ps := ps) (k := k) (by omega)
      go_wp2_with (go_at_call 47; refine (l1Max_any _ _ _).mono ?_; rintro e w1 ⟨rfl, rfl⟩)
      go_roundw
      case rel => exact ⟨k + 1, by omega, by go_num, by rw [ST], hw⟩
      case measure => simp [intOf]; omega
    · have e : k = n := by omega
      subst e
      go_wp2
      go_ret
      exact ⟨by rw [show ps.take k = ps from List.take_of_length_le (by omega)]; rfl, hw⟩

set_option maxHeartbeats 1000000 in
theorem specParts_any (a : Option Addr) (n cap : Nat) (ps : List Pc) (id : Int) (w : World) (h : PieceS w a n cap ps) :
    Calls Try.prog 20 #[.slice a n cap, .int .i64 id] w fun e w' => e = .returned (.int .i64 (partsOf id ps)) ∧ Below w.heap.size w w' := by
  have hm := h.mx
  have hle := h.le
  have hlen := h.len
  unfold maxLen at hm
  go_enter Try.func20, Try.ntmps20
  go_wp2
  go_loopw [5, 6] (fun u i wr => ∃ k : Nat, k ≤ n ∧ i = .int .i64 k ∧ u = .int .i64 (partsOf id (ps.take k)) ∧ Below w.heap.size w wr) (fun _ i _ => n - (intOf i).toNat)
  case atStart => exact ⟨0, by omega, rfl, by simp [partsOf], Below.refl _ _⟩
  case round =>
    obtain ⟨k, hk, rfl, rfl, hw⟩ := hrel
    rename World => wr
    have hb := partsOf_bd id (ps.take k)
    have hl : (ps.take k).length = k := by rw [List.length_take]; omega
    rw [hl] at hb
    obtain ⟨b0, b1⟩ := hb
    clear hl
    by_cases hlt : k < n
    · obtain ⟨b, off, rfl, hbw, hat⟩ := h.at_ (by omega)
      obtain ⟨hc0, hc1, hc2, hc3⟩ := (hat.below hw hbw).row (i := k) (by omega)
      have hlt' : (k : Int) < (n : Int) := by omega
      have ST := partsOf_step (ps := ps) (k := k) (id := id) (by omega)
      by_cases hc : (pcg ps k).job = id
      · have hc' : ((pcg ps k).job == id) = true := by simpa using hc
        rw [if_pos hc] at ST
        have HS : Hid _ := ST
        clear hc ST
        go_wp2
        go_roundw
        case rel => exact ⟨k + 1, by omega, by go_num, by rw [HS.out], hw⟩
        case measure => simp [intOf]; omega
      · have hc' : ((pcg ps k).job == id) = false := by simpa using hc
        rw [if_neg hc] at ST
        have HS : Hid _ := ST
        clear hc ST
        go_wp2
        go_roundw
        case rel => exact ⟨k + 1, by omega, by go_num, by rw [HS.out, Int.add_zero], hw⟩
        case measure => simp [intOf]; omega
    · have e : k = n := by omega
      subst e
      go_wp2
      go_ret
      exact ⟨by rw [show ps.take k = ps from List.take_of_length_le (by omega)]; rfl, hw⟩

/-- what is still to be laid of a job -/
def restP (T P left id : Int) : List Pc := if left = 0 then [] else jobPcs T P left id
theorem rest_step {T P left id : Int} (hT : 0 < T) (_hP : 0 ≤ P) (h0 : 0 < left) (h1 : left ≤ T) :
    restP T P left id = ⟨id, P / T, P % T, P % T + min left (T - P % T)⟩ :: restP T (P + min left (T - P % T)) (left - min left (T - P % T)) id := by
  have m0 := Int.emod_nonneg P (by omega : T ≠ 0)
  have m1 := Int.emod_lt_of_pos P hT
  unfold restP
  rw [if_neg (by omega)]
  by_cases c : left ≤ T - P % T
  · have e : min left (T - P % T) = left := by omega
    rw [e, if_pos (by omega)]
    unfold jobPcs
    rw [if_pos c]
  · have e : min left (T - P % T) = T - P % T := by omega
    rw [e, if_neg (by omega)]
    have em := Int.mul_ediv_add_emod P T
    have ep : P + (T - P % T) = T * (P / T + 1) := by rw [Int.mul_add, Int.mul_one]; omega
    have e1 : (P + (T - P % T)) % T = 0 := by rw [ep]; exact Int.mul_emod_right _ _
    have e2 : (P + (T - P % T)) / T = P / T + 1 := by rw [ep]; exact Int.mul_ediv_cancel_left _ (by omega)
    unfold jobPcs
    rw [if_neg c, e1, e2, if_pos (by omega)]
    have e3 : P % T + (T - P % T) = T := by omega
    rw [e3, Int.zero_add]
theorem pcsV_app (T : Int) : ∀ (a b : List (Int × Int)) (P : Int), pcsV T P (a ++ b) = pcsV T P a ++ pcsV T (P + sumL a) b
  | [], b, P => by simp [pcsV, sumL]
  | x :: a, b, P => by
    simp only [List.cons_append, pcsV, sumL]
    rw [pcsV_app T a b (P + x.2), List.append_assoc, Int.add_assoc]
theorem jobPcs_len (T P L id : Int) : (jobPcs T P L id).length ≤ 2 := by unfold jobPcs; split <;> simp
theorem pcsV_len (T : Int) : ∀ (l : List (Int × Int)) (P : Int), (pcsV T P l).length ≤ 2 * l.length
  | [], P => by simp [pcsV]
  | x :: l, P => by
    have h1 := jobPcs_len T P x.2 x.1
    have h2 := pcsV_len T l (P + x.2)
    simp only [pcsV, List.length_append, List.length_cons]; omega
theorem pcs_stepJ {ls : List Jb} {T : Int} {k : Nat} (hk : k < ls.length) : pcsV T 0 (jp (ls.take (k + 1))) = pcsV T 0 (jp (ls.take k)) ++ jobPcs T (sumTo ls k) (jg ls k).long (jg ls k).id := by
  have e : jp (ls.take (k + 1)) = jp (ls.take k) ++ [((jg ls k).id, (jg ls k).long)] := by unfold jp; rw [take_stepJ hk, List.map_append]; rfl
  rw [e, pcsV_app, sumL_take k (by omega), Int.zero_add]
  simp [pcsV]

set_option maxRecDepth 8000 in
set_option maxHeartbeats 2000000 in
theorem specPieces_any (a : Option Addr) (n cap : Nat) (ls : List Jb) (m : Int) (w : World) (h : JobS w a n cap ls) :
    Calls Try.prog 14 #[.slice a n cap, .int .i64 m] w fun e w' => ∃ g c ys, e = .returned (.slice (some ⟨g, 0, none⟩) ys.length c) ∧ OwnPiece w' w.heap.size g c ys ∧ ys = pcsF ls m ∧ Below w.heap.size w w' := by
  have bx : Below w.heap.size w (w.alloc (.cells #[] 56)) := box_below0
  have own0 : OwnPiece (w.alloc (.cells #[] 56)) w.heap.size w.heap.size 0 [] := ownPiece_nil w
  rcases hq : shB ls m with _ | _
  · go_enter Try.func14, Try.ntmps14
    go_wp2_with (go_at_call 37; refine (specBound_any _ _ _ _ m _ (h.below bx)).mono ?_; rw [hq, if_neg (by simp)]; rintro e w1 ⟨rfl, hb1⟩)
    go_ret
    exact ⟨_, 0, [], rfl, own0.below hb1, (pcsF_f hq).symm, bx.then hb1 bx.size⟩
  · have B := bnd_f hq
    have E := pcsF_t hq
    obtain ⟨T, hT⟩ : ∃ T, T = bndV ls m := ⟨_, rfl⟩
    have SB : ∀ W, JobS W a n cap ls → Calls Try.prog 37 #[.slice a n cap, .int .i64 m] W fun e w' => e = .returned (.int .i64 T) ∧ Below W.heap.size W w' := fun W hW => by
      have := specBound_any a n cap ls m W hW
      rw [hq, if_pos rfl, ← hT] at this
      exact this
    rw [← hT] at B E
    clear hT
    by_cases hT1 : T < 1
    · have hnil : ls = [] := by
        by_cases c : ls = []
        · exact c
        · have := B.pos c; omega
      go_enter Try.func14, Try.ntmps14
      go_wp2_with (go_at_call 37; refine (SB _ (h.below bx)).mono ?_; rintro e w1 ⟨rfl, hb1⟩)
      go_ret
      exact ⟨_, 0, [], rfl, own0.below hb1, by rw [E, hnil]; rfl, bx.then hb1 bx.size⟩
    · have hlen := h.len
      have hle := h.le
      have hm := h.mx
      obtain ⟨hj0, _, _⟩ := shB_t hq
      have hn40 : n ≤ 40 := by have := hj0.n; omega
      unfold maxLen at hm
      obtain ⟨i1, hj, hj1, hj2, hj3⟩ := info_parts infoPiece
      have hmo : Try.prog.follows .mixedOrders = true := by kernel_rfl
      have hT1' : (T == 0) = false := by rw [Bool.eq_false_iff]; intro h9; have := eq_of_beq h9; omega
      have hTne : T ≠ 0 := by omega
      have hT0 : 0 < T := by omega
      have hTm : T ≤ 400000 := by have := B.le; have := B.sum; omega
      go_enter Try.func14, Try.ntmps14
      go_wp2_with (go_at_call 37; refine (SB _ (h.below bx)).mono ?_; rintro e w1 ⟨rfl, hb1⟩)
      have own1 := own0.below hb1
      have bw1 := bx.then hb1 bx.size
      clear own0 hb1 bx
      go_loopw [5, 7, 8] (fun u p i wr => ∃ (k g c : Nat) (ys : List Pc), k ≤ n ∧ i = .int .i64 k ∧ p = .int .i64 (sumTo ls k) ∧ u = .slice (some ⟨g, 0, none⟩) ys.length c ∧ Hid (OwnPiece wr w.heap.size g c ys) ∧ Hid (ys = pcsV T 0 (jp (ls.take k))) ∧ Below w.heap.size w wr) (fun _ _ i _ => n - (intOf i).toNat)
      case atStart => exact ⟨0, _, 0, [], by omega, rfl, rfl, rfl, own1, by simp [Hid, jp, pcsV], bw1⟩
      case round =>
        obtain ⟨k, g, c, ys, hk, rfl, rfl, rfl, HO, HY, hw⟩ := hrel
        rename World => wo
        by_cases hlt : k < n
        · have hkl : k < ls.length := by omega
          obtain ⟨b, off, rfl, hbw, hat⟩ := h.at_ (by omega)
          have Hj := (hat.below hw hbw).job (i := k) hkl
          have hc2 : wo.cell? ⟨b, off + k * 7 + 2, none⟩ = some (.int .i64 (jg ls k).long) := Hj.2.2.1
          have hlt' : (k : Int) < (n : Int) := by omega
          obtain ⟨L0, L1⟩ := B.each ((jg ls k).id, (jg ls k).long) (List.mem_map.2 ⟨jg ls k, by rw [jg_get hkl]; exact List.getElem_mem hkl, rfl⟩)
          simp only at L0 L1
          have hS0 := (sumTo_bd hj0.ok k (by omega)).1
          have hS1 : sumTo ls k + (jg ls k).long ≤ 400000 := by
            have h1 := sumTo_bd hj0.ok (k + 1) (by omega)
            have h2 : sumTo ls (k + 1) = sumTo ls k + (jg ls k).long := rfl
            omega
          have PS := pcs_stepJ (T := T) hkl
          have yl : ys.length ≤ 80 := by rw [HY.out]; have := pcsV_len T (jp (ls.take k)) 0; rw [jp_len, List.length_take] at this; omega
          have jl := jobPcs_len T (sumTo ls k) (jg ls k).long (jg ls k).id
          obtain ⟨P0, hP0⟩ : ∃ P0, P0 = sumTo ls k := ⟨_, rfl⟩
          obtain ⟨L, hL⟩ : ∃ L, L = (jg ls k).long := ⟨_, rfl⟩
          have HP0 : Hid (sumTo ls (k + 1) = P0 + L) := by unfold Hid; rw [hP0, hL]; rfl
          rw [← hP0] at PS hS0 hS1 jl ⊢
          rw [← hL] at PS L0 L1 hS1 hc2 jl
          clear hP0 hL Hj
          go_wp2
          go_loopw [5, 7, 9] (fun u p q wr => ∃ (P left : Int) (g c : Nat) (xs : List Pc), u = .slice (some ⟨g, 0, none⟩) xs.length c ∧ p = .int .i64 P ∧ q = .int .i64 left ∧ Hid (OwnPiece wr w.heap.size g c xs) ∧ 0 ≤ left ∧ left ≤ T ∧ 0 ≤ P ∧ P + left = P0 + L ∧ Hid (xs ++ restP T P left (jg ls k).id = ys ++ jobPcs T P0 L (jg ls k).id) ∧ Below w.heap.size w wr) (fun _ _ q _ => (intOf q).toNat)
          case atStart => exact ⟨P0, L, g, c, ys, rfl, rfl, rfl, HO.out, by omega, L1, hS0, rfl, by unfold Hid restP; rw [if_neg (by omega)], hw⟩
          case round =>
            obtain ⟨P, left, gx, cx, xs, rfl, rfl, rfl, HX, l0, l1, p0, hpl, HR, hwi⟩ := hrel
            rename World => wr
            have xl : xs.length ≤ 82 := by
              have := congrArg List.length HR.out
              rw [List.length_append, List.length_append] at this
              omega
            by_cases hlp : 0 < left
            · have RS := rest_step (id := (jg ls k).id) hT0 p0 hlp l1
              have f0 := Int.emod_nonneg P hTne
              have f1 := Int.emod_lt_of_pos P hT0
              have q0 := Int.ediv_nonneg p0 (Int.le_of_lt hT0)
              have q1 := Int.ediv_le_self T p0
              have eF : P.tmod T = P % T := Int.tmod_eq_emod_of_nonneg p0
              have eQ : P.tdiv T = P / T := Int.tdiv_eq_ediv_of_nonneg p0
              obtain ⟨F, hF⟩ : ∃ F, F = P % T := ⟨_, rfl⟩
              obtain ⟨Q, hQ⟩ : ∃ Q, Q = P / T := ⟨_, rfl⟩
              rw [← hF] at RS f0 f1 eF
              rw [← hQ] at RS q0 q1 eQ
              clear hF hQ
              have m0 : 0 < min left (T - F) ∧ min left (T - F) ≤ left ∧ min left (T - F) ≤ T - F := by omega
              obtain ⟨N, hN⟩ : ∃ N, N = min left (T - F) := ⟨_, rfl⟩
              rw [← hN] at RS m0
              obtain ⟨m0, m1, m2⟩ := m0
              have HN : Hid (N = min left (T - F)) := hN
              clear hN
              have q2 : Q ≤ 400000 := by omega
              have fn0 : 0 ≤ F + N := by omega
              have fn1 : F + N ≤ 400000 := by omega
              have wQ : IntKind.i64.wrap Q = Q := by rw [IntKind.wrap_i64]; omega
              have wF : IntKind.i64.wrap (F + N) = F + N := by rw [IntKind.wrap_i64]; omega
              have p1 : P ≤ 400000 := by omega
              have pn0 : 0 ≤ P + N := by omega
              have pn1 : P + N ≤ 400000 := by omega
              have HRn : Hid ((xs ++ [⟨(jg ls k).id, Q, F, F + N⟩]) ++ restP T (P + N) (left - N) (jg ls k).id = ys ++ jobPcs T P0 L (jg ls k).id) := by
                unfold Hid
                rw [← HR.out, RS, List.append_assoc]; rfl
              clear RS
              have zr := hwi.size
              have lo := HX.out.base
              have ll := HX.out.lt
              have hid := ((hat.below hwi hbw).job (i := k) hkl).1
              have hbg : b ≠ gx := by omega
              have HOP : Hid (∀ W, Below wr.heap.size wr W → W.ownsRow w.heap.size 56 4 (.slice (some ⟨gx, 0, none⟩) xs.length cx) xs.length (pccells xs)) := fun W hW => (HX.out.below hW).own
              have KA : Hid (∀ o, ((wr.alloc o).drew).cell? ⟨b, off + k * 7, none⟩ = some (.int .i64 (jg ls k).id)) := fun o => (show (wr.alloc o).cell? _ = _ from (World.cell?_alloc_lt _ _ _ (by simp; omega)).trans hid)
              have KG : Hid (∀ o W, ((wr.alloc o).drew).grownBy W (Value.slice (some ⟨gx, 0, none⟩) xs.length cx).ownBlock → W.cell? ⟨b, off + k * 7, none⟩ = some (.int .i64 (jg ls k).id)) := fun o W hg =>
                (World.cell?_of_block (a := ⟨b, off + k * 7, none⟩) (hg.block b (by simp; omega) (by simpa [Value.ownBlock] using hbg))).trans (KA.out o)
              go_wp2_with (go_at_call 38; refine (l1Min_any _ _ _).mono ?_; rw [← HN.out]; rintro e w5 ⟨rfl, hq5⟩; have hq5' := hq5.symm; clear hq5; subst hq5')
              go_region_held_law (fun w' => w'.cell? ⟨b, off + k * 7, none⟩ = some (.int .i64 (jg ls k).id)) (first | exact KS5 | exact hid | exact KA.out _ | go_keep) (first
                | (refine step_append_own rfl (.tmp 40) (.tmp 54) 27 rfl w.heap.size 56 i1 (.agg #[.int .i64 0, .int .i64 0, .int .i64 0, .int .i64 0]) 4 32 Try.underlying27 hj hj1 hj2 hj3 rfl (by decide) (.slice (some ⟨gx, 0, none⟩) xs.length cx) xs.length (pccells xs) rfl (HOP.out _ (by first | exact ((Below.refl _ _).alloc (Nat.le_refl _) _).drew | exact (Below.refl _ _).drew.alloc (Nat.le_refl _) _)) ⟨wr.heap.size, 0, none⟩ 1 1 [.int .i64 (jg ls k).id, .int .i64 Q, .int .i64 F, .int .i64 (F + N)] rfl rfl (newPiece_cells _ ⟨(jg ls k).id, Q, F, F + N⟩ _) (pcl_one ⟨(jg ls k).id, Q, F, F + N⟩) (by unfold maxLen; omega) (by omega) (by simp; omega) ?_
                   intro v5 w6 own5 grow5 nil5 at5
                   have KS5 := KG.out _ _ grow5
                   have B5 : Below w.heap.size w w6 := (by first | exact (hwi.alloc zr _).drew.grown grow5 (by simp; omega) (fun r e => by have e' : gx = r := Option.some.inj e; omega) | exact ((hwi.drew.alloc (by simp; omega) _).grown grow5 (by simp; omega) (fun r e => by have e' : gx = r := Option.some.inj e; omega)))
                   obtain ⟨g5, c5, rfl, O5⟩ := ownPiece_of' (ys := xs ++ [⟨(jg ls k).id, Q, F, F + N⟩]) own5 (by simp) (by rw [pccells_app]; rfl) (fun e => by have := (nil5.1 e).2; omega)
                   have HO5 : Hid _ := O5
                   clear own5 grow5 nil5 at5 O5))
              go_wp2
              go_roundw
              case rel => exact ⟨P + N, left - N, g5, c5, xs ++ [(⟨(jg ls k).id, Q, F, F + N⟩ : Pc)], by simp, rfl, rfl, HO5.out, by omega, by omega, by omega, by omega, HRn, B5⟩
              case measure => simp [intOf]; omega
            · have e0 : left = 0 := by omega
              subst e0
              have HRe : Hid (xs = pcsV T 0 (jp (ls.take (k + 1)))) := by
                have := HR.out
                unfold restP at this
                rw [if_pos rfl, List.append_nil] at this
                unfold Hid
                rw [this, PS, ← HY.out]
              have eP : P = P0 + L := by omega
              have HPn : Hid (P = sumTo ls (k + 1)) := by unfold Hid; rw [HP0.out]; exact eP
              clear HR eP PS
              go_wp2
              go_roundw
              case rel => exact ⟨k + 1, gx, cx, xs, by omega, by go_num, by rw [← HPn.out], rfl, HX.out, HRe, hwi⟩
              case measure => simp [intOf]; omega
        · have e : k = n := by omega
          subst e
          have HE : Hid (ys = pcsF ls m) := by
            unfold Hid
            rw [HY.out, E, show ls.take k = ls from List.take_of_length_le (by omega)]
          go_wp2
          go_ret
          exact ⟨g, c, ys, rfl, HO.out, HE.out, hw⟩

end Go.Proofs.Ytnndkdonbjeejaa
