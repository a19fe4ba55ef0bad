/- The program's chapter 11, sixth part: usedWith, its loop; Taken, Given. -/
import Derived.Test.YtkkbfblgnejonaaNodeI5
import Derived.Test.YtkkbfblgnejonaaLInt
import Derived.Deep.Cut
import Derived.Deep.CutRange
namespace Go.Proofs.Ytkkbfblgnejonaa
open Go.RowKit Go.Sort

set_option maxRecDepth 8000 in
set_option maxHeartbeats 4000000 in
theorem usedWith_any (a b : Option Addr) (n cap nb capb : Nat) (u : List Int) (ps : List Pt) (sign : Int) (w : World) (h : IntS w a n cap u) (hp : PartS w b nb capb ps) (hs : sign = 1 ∨ sign = -1) (hn : n ≤ 2000000) (hnb : nb ≤ 2000000) :
    Calls Try.prog 56 #[.slice a n cap, .slice b nb capb, .int .i64 sign] w fun e w' => ∃ (v : Option Addr) (n' c' : Nat), e = .returned (.slice v n' c') ∧ LInt w' w.heap.size v n' c' (wuF u ps sign) ∧ Below w.heap.size w w' := by
  have hlen := h.len
  have hmx := h.mx
  have hle := h.le
  have hlenp := hp.len
  have hmxp := hp.mx
  have hlep := hp.le
  obtain ⟨an, han⟩ : ∃ an, an = wuF u ps sign := ⟨_, rfl⟩
  have HA : Hid (an = wuF u ps sign) := han
  rw [← han]
  clear han
  obtain ⟨W0, hW0⟩ : ∃ W0, W0 = w.alloc (.cells #[.slice a n cap] 25) := ⟨_, rfl⟩
  have B0 : Below w.heap.size w W0 := by rw [hW0]; exact box_below0
  have p0 : W0.cell? ⟨w.heap.size, 0, none⟩ = some (.slice a n cap) := by rw [hW0]; simp
  have z0 : w.heap.size < W0.heap.size := by rw [hW0]; simp
  have CC := cnt_any a n cap u W0 (h.below B0)
  rcases q1 : cntB u n with _ | _
  · have E : Hid (an = []) := HA.out.trans (by
      unfold wuF
      rw [if_neg]
      intro h9
      obtain ⟨h1, _⟩ : uoB u u.length = true ∧ poB2 ps u.length ps.length = true := by simpa using h9
      exact cntB_f q1 (cntTo_use.2 (by rw [← hlen]; exact uoB_t h1)))
    rw [q1] at CC
    go_enter Try.func56, Try.ntmps56
    go_upto_region 1 with fail
    rw [← hW0]
    clear hW0
    go_wp2_with (go_at_call 57; refine CC.mono ?_; rintro e w' ⟨rfl, hq⟩; have hq' := hq.symm; clear hq; subst hq')
    go_ret
    exact ⟨_, _, _, rfl, by rw [E.out]; exact ⟨rfl, Or.inl ⟨rfl, rfl, rfl⟩⟩, B0⟩
  · have CP := eachPart_any b nb capb ps w.heap.size a n cap W0 (hp.below B0) p0 hn
    rcases q2 : poB2 ps n nb with _ | _
    · have E : Hid (an = []) := HA.out.trans (by
        unfold wuF
        rw [if_neg]
        intro h9
        obtain ⟨_, h1⟩ : uoB u u.length = true ∧ poB2 ps u.length ps.length = true := by simpa using h9
        rw [hlen, hlenp, q2] at h1; cases h1)
      rw [q1] at CC
      rw [q2] at CP
      go_enter Try.func56, Try.ntmps56
      go_upto_region 1 with fail
      rw [← hW0]
      clear hW0
      go_wp2_with (first | (go_at_call 57; refine CC.mono ?_; rintro e w' ⟨rfl, hq⟩; have hq' := hq.symm; clear hq; subst hq') | (go_at_call 68; refine CP.mono ?_; rintro e w1 ⟨rfl, hb1⟩; have V1 := B0.then hb1 B0.size))
      go_ret
      exact ⟨_, _, _, rfl, by rw [E.out]; exact ⟨rfl, Or.inl ⟨rfl, rfl, rfl⟩⟩, V1⟩
    · have huo : useOk u u.length := by rw [hlen]; exact cntTo_use.1 (cntB_t q1)
      have hpo : ptOk ps u.length nb := by rw [hlen]; exact poB2_t q2
      have E : Hid (an = wuK u ps sign nb) := HA.out.trans (by
        unfold wuF
        rw [if_pos, hlenp]
        rw [uoB_mk huo, hlenp, poB2_mk hpo]; rfl)
      have HUO : Hid (useOk u u.length) := huo
      have HPO : Hid (ptOk ps u.length nb) := hpo
      clear huo hpo
      rw [q1] at CC
      rw [q2] at CP
      have HP : Hid (∀ W, Below w.heap.size w W → PartS W b nb capb ps) := fun W hW => hp.below hW
      have HI : Hid (∀ W, Below w.heap.size w W → IntS W a n cap u) := fun W hW => h.below hW
      clear q1 q2 h hp
      go_enter Try.func56, Try.ntmps56
      go_upto_region 1 with fail
      rw [← hW0]
      clear hW0
      go_upto_region 4 with (first | (go_at_call 57; refine CC.mono ?_; rintro e w' ⟨rfl, hq⟩; have hq' := hq.symm; clear hq; subst hq') | (go_at_call 68; refine CP.mono ?_; rintro e w1 ⟨rfl, hb1⟩))
      clear CC CP
      have V1 := B0.then hb1 B0.size
      have p1 : w1.cell? ⟨w.heap.size, 0, none⟩ = some (.slice a n cap) := (hb1.cell (p := ⟨w.heap.size, 0, none⟩) z0).trans p0
      have z1 : w.heap.size < w1.heap.size := Nat.lt_of_lt_of_le z0 hb1.size
      obtain ⟨W2, hW2⟩ : ∃ W2, W2 = w1.alloc (.cells (madeCells #[.int .i64 0] n) 2) := ⟨_, rfl⟩
      have V2 : Below w.heap.size w W2 := by rw [hW2]; exact V1.then box_below0 V1.size
      have p2 : W2.cell? ⟨w.heap.size, 0, none⟩ = some (.slice a n cap) := by rw [hW2]; exact (World.cell?_alloc_lt _ _ _ z1).trans p1
      have hmk := run_make2M n hn w1
      obtain ⟨w3, hcp, I3, ho⟩ := run_copy_ints (w := W2) 3 w1.heap.size n cap a u (HI.out _ V2) (madeCells #[.int .i64 0] n) (by rw [hW2]; exact heap_alloc_new _ _) (by simp [madeCells])
      have V3 : Below w.heap.size w w3 := V2.trans (ho.below (Nat.le_of_lt z1))
      have HI3 : Hid (IntB w3 w1.heap.size n u) := I3
      rw [← hW2] at hmk
      clear hW2 ho V2 I3 p0 z0 B0 hb1
      generalize w1.heap.size = g at hmk hcp HI3 z1
      go_wp2
      clear hmk hcp p1 p2 V1
      go_loopw [29] (fun i wr => ∃ k : Nat, k ≤ nb ∧ i = .int .i64 k ∧ Hid (IntB wr g n (wuK u ps sign k)) ∧ Below w.heap.size w wr) (fun i _ => nb - (intOf i).toNat)
      case atStart => exact ⟨0, by omega, rfl, HI3.out, V3⟩
      case round =>
        obtain ⟨k, hk, rfl, HIq, hwq⟩ := hrel
        rename World => wq
        clear HI3 V3
        by_cases hlt2 : k < nb
        · have hlt2' : (k : Int) < (nb : Int) := by omega
          obtain ⟨b1, off1, rfl, hbw1, hat1⟩ := (HP.out _ hwq).at_ (by omega)
          obtain ⟨x0, x1⟩ := hat1.row (i := k) (by omega)
          clear hat1
          obtain ⟨⟨n0, n1⟩, c0, c1⟩ := HPO.out k hlt2
          have bd := wuK_bd (sign := sign) hs HUO.out k (fun j hj => HPO.out j (by omega))
          have Hbd : Hid _ := bd
          clear bd
          have HS : Hid (wuK u ps sign (k + 1) = (wuK u ps sign k).set (ptg ps k).node.toNat (zg (wuK u ps sign k) (ptg ps k).node.toNat + sign * (ptg ps k).cores)) := rfl
          have hol : (wuK u ps sign k).length = n := (wuK_len k).trans hlen
          generalize wuK u ps sign k = o at HIq Hbd HS hol
          obtain ⟨pn, hpn⟩ : ∃ pn, pn = (ptg ps k).node := ⟨_, rfl⟩
          obtain ⟨pc, hpc⟩ : ∃ pc, pc = (ptg ps k).cores := ⟨_, rfl⟩
          rw [← hpn] at n0 n1 HS x0
          rw [← hpc] at c0 c1 HS x1
          clear hpn hpc
          obtain ⟨m, rfl⟩ : ∃ m : Nat, pn = m := ⟨pn.toNat, by omega⟩
          have hm : m < n := by omega
          have hob := Hbd.out m (by omega)
          rw [Int.toNat_natCast] at HS
          have hv9 : -2200000000000000 ≤ zg o m + sign * pc ∧ zg o m + sign * pc ≤ 2200000000000000 := by
            have h9 : 1073741824 * ((k : Int) + 1) ≤ 1073741824 * 2000001 := by omega
            rcases hs with rfl | rfl <;> omega
          have wm : IntKind.i64.wrap (sign * pc) = sign * pc := by
            have hm9 : -1073741824 ≤ sign * pc ∧ sign * pc ≤ 1073741824 := by rcases hs with rfl | rfl <;> omega
            rw [IntKind.wrap_i64]; omega
          have wa : IntKind.i64.wrap (zg o m + sign * pc) = zg o m + sign * pc := by rw [IntKind.wrap_i64]; omega
          obtain ⟨W1, hW1⟩ : ∃ W1, W1 = wq.alloc (.cells #[.int .i64 (m : Int), .int .i64 pc] 37) := ⟨_, rfl⟩
          have B1 : Below w.heap.size w W1 := by rw [hW1]; exact hwq.alloc hwq.size _
          have I1 : IntB W1 g n o := by rw [hW1]; exact HIq.out.below box_below0
          have K1 : W1.heap[wq.heap.size]? = some (.cells #[.int .i64 (m : Int), .int .i64 pc] 37 (0, 0)) := by rw [hW1]; exact heap_alloc_new _ _
          have hgq : g < wq.heap.size := HIq.out.lt
          go_upto_region 9 with fail
          rw [← hW1]
          clear hW1 x0 x1
          have y0 : W1.cell? ⟨wq.heap.size, 0, none⟩ = some (.int .i64 (m : Int)) := by simp [World.cell?, K1]
          have y1 : W1.cell? ⟨wq.heap.size, 1, none⟩ = some (.int .i64 pc) := by simp [World.cell?, K1]
          have z0 := I1.cell hm
          have zf := I1.free1 m
          have hmk : (m : Int) < (n : Int) := by omega
          have I2 : IntB (W1.setCell ⟨g, m, none⟩ (.int .i64 (zg o m + sign * pc))) g n (o.set m (zg o m + sign * pc)) := I1.put1 (by omega) hm _
          have HI2 : Hid (IntB (W1.setCell ⟨g, m, none⟩ (.int .i64 (zg o m + sign * pc))) g n (wuK u ps sign (k + 1))) := by unfold Hid; rw [HS.out]; exact I2
          have BF : Hid (Below w.heap.size w (W1.setCell ⟨g, m, none⟩ (.int .i64 (zg o m + sign * pc)))) := B1.setCell (show w.heap.size ≤ g by omega) _
          clear I2 K1
          have HE : Hid (∀ W : World, (W = W1.setCell ⟨g, m, none⟩ (.int .i64 (zg o m + sign * pc)) ∨ W = (W1.setCell ⟨g, m, none⟩ (.int .i64 (zg o m + sign * pc))).drew) → Hid (IntB W g n (wuK u ps sign (k + 1))) ∧ Below w.heap.size w W) := by
            rintro W (rfl | rfl)
            · exact ⟨HI2.out, BF.out⟩
            · exact ⟨HI2.out.below (Below.refl _ _).drew, BF.out.drew⟩
          go_region
          all_goals
            go_wp2
            go_roundw
            case rel => first | exact ⟨k + 1, by omega, by go_num, HE.out _ (Or.inr rfl)⟩ | exact ⟨k + 1, by omega, by go_num, HE.out _ (Or.inl rfl)⟩
            case measure => simp [intOf]; omega
        · obtain rfl : k = nb := by omega
          have hlt2' : ¬ (k : Int) < (k : Int) := by omega
          go_wp2
          go_ret
          exact ⟨_, _, _, rfl, by rw [E.out]; exact ⟨(hlen.symm.trans (wuK_len k).symm), Or.inr ⟨g, rfl, Nat.le_of_lt z1, HIq.out, Nat.le_refl _, by unfold maxLen; omega⟩⟩, hwq⟩

theorem implTaken_any (a b : Option Addr) (n cap nb capb : Nat) (u : List Int) (ps : List Pt) (w : World) (h : IntS w a n cap u) (hp : PartS w b nb capb ps) (_hnil : a = none → cap = 0) (hn : n ≤ 2000000) (hnb : nb ≤ 2000000) :
    Calls Try.prog 35 #[.slice a n cap, .slice b nb capb] w fun e w' => ∃ (v : Option Addr) (c' : Nat), e = .returned (.slice v ((chF u ps 1).getD []).length c') ∧ LInt w' w.heap.size v ((chF u ps 1).getD []).length c' ((chF u ps 1).getD []) ∧ Below w.heap.size w w' := by
  have E : (chF u ps 1).getD [] = wuF u ps 1 := by
    rcases q : (uoB u u.length && poB2 ps u.length ps.length) with _ | _
    · rw [chF_no q]; unfold wuF; rw [q]; rfl
    · rw [chF_is (Or.inl rfl) q (wuK_pos q)]; unfold wuF; rw [if_pos q]; rfl
  rw [E]
  clear E
  obtain ⟨zz, hzz⟩ : ∃ zz, zz = wuF u ps 1 := ⟨_, rfl⟩
  have CU := usedWith_any a b n cap nb capb u ps 1 w h hp (Or.inl rfl) hn hnb
  rw [← hzz] at CU ⊢
  clear hzz
  go_enter Try.func35, Try.ntmps35
  go_wp2_with (go_at_call 56; refine CU.mono ?_; rintro e w1 ⟨v, n', c', rfl, hL, hb1⟩; obtain rfl := hL.1)
  go_ret
  exact ⟨v, c', rfl, hL, hb1⟩

theorem implGiven_any (a b : Option Addr) (n cap nb capb : Nat) (u : List Int) (ps : List Pt) (w : World) (h : IntS w a n cap u) (hp : PartS w b nb capb ps) (_hnil : a = none → cap = 0) (hn : n ≤ 2000000) (hnb : nb ≤ 2000000) :
    Calls Try.prog 38 #[.slice a n cap, .slice b nb capb] w fun e w' => ∃ (v : Option Addr) (c' : Nat), e = .returned (.slice v ((chF u ps (-1)).getD []).length c') ∧ LInt w' w.heap.size v ((chF u ps (-1)).getD []).length c' ((chF u ps (-1)).getD []) ∧ Below w.heap.size w w' := by
  have E1 : posB (wuF u ps (-1)) (wuF u ps (-1)).length = true → (chF u ps (-1)).getD [] = wuF u ps (-1) := fun hz => by
    rcases q : (uoB u u.length && poB2 ps u.length ps.length) with _ | _
    · rw [chF_no q]; unfold wuF; rw [q]; rfl
    · have e : wuF u ps (-1) = wuK u ps (-1) ps.length := by unfold wuF; rw [if_pos q]
      rw [e] at hz ⊢
      have hz' := posB_t hz
      rw [chF_is (Or.inr rfl) q (fun i hi => of_decide_eq_true (hz' i (by rw [wuK_len]; exact hi)))]; rfl
  have E2 : posB (wuF u ps (-1)) (wuF u ps (-1)).length = false → (chF u ps (-1)).getD [] = [] := fun hz => by
    rcases q : (uoB u u.length && poB2 ps u.length ps.length) with _ | _
    · rw [chF_no q]; rfl
    · have e : wuF u ps (-1) = wuK u ps (-1) ps.length := by unfold wuF; rw [if_pos q]
      rw [e] at hz
      rw [chF_neg (Or.inr rfl) q (fun h9 => posB_f hz (fun i hi => decide_eq_true (h9 i (by rw [wuK_len] at hi; exact hi))))]; rfl
  have CU := usedWith_any a b n cap nb capb u ps (-1) w h hp (Or.inr rfl) hn hnb
  obtain ⟨zz, hzz⟩ : ∃ zz, zz = wuF u ps (-1) := ⟨_, rfl⟩
  obtain ⟨cc, hcc⟩ : ∃ cc, cc = (chF u ps (-1)).getD [] := ⟨_, rfl⟩
  rw [← hzz, ← hcc] at E1 E2
  rw [← hzz] at CU
  rw [← hcc]
  clear hzz hcc
  rcases q : posB zz zz.length with _ | _
  · have E3 := E2 q
    subst E3
    clear E1 E2
    go_enter Try.func38, Try.ntmps38
    go_wp2_with (first | (go_at_call 56; refine CU.mono ?_; rintro e w1 ⟨v, n', c', rfl, hL, hb1⟩; obtain rfl := hL.1) | (go_at_call 57; refine (pos_any _ _ _ zz _ hL.toS).mono ?_; rw [q]; rintro e w' ⟨rfl, hq⟩; have hq' := hq.symm; clear hq; subst hq'))
    go_ret
    exact ⟨none, 0, rfl, ⟨rfl, Or.inl ⟨rfl, rfl, rfl⟩⟩, hb1⟩
  · have E3 := E1 q
    subst E3
    clear E1 E2
    go_enter Try.func38, Try.ntmps38
    go_wp2_with (first | (go_at_call 56; refine CU.mono ?_; rintro e w1 ⟨v, n', c', rfl, hL, hb1⟩; obtain rfl := hL.1) | (go_at_call 57; refine (pos_any _ _ _ cc _ hL.toS).mono ?_; rw [q]; rintro e w' ⟨rfl, hq⟩; have hq' := hq.symm; clear hq; subst hq'))
    go_ret
    exact ⟨v, c', rfl, hL, hb1⟩

end Go.Proofs.Ytkkbfblgnejonaa
