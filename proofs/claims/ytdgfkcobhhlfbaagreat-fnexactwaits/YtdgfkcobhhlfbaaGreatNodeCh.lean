/- Chapter 11's model: Taken, Given. -/
import Derived.Test.YtdgfkcobhhlfbaaGreatNodePk
import Derived.Laws.AppendOwnNone
namespace Go.Proofs.YtdgfkcobhhlfbaaGreat
open Go.RowKit Go.Sort

def ChA (w w' : World) (v : Option Addr) (n c : Nat) (b : Bool) : Option (List Int) → Prop
  | none => b = false ∧ LInt w' w.heap.size v n c []
  | some o => b = true ∧ LInt w' w.heap.size v n c o

theorem ints_at {w : World} {b off : Nat} {u : List Int} (h : ∀ i, i < u.length → w.cell? ⟨b, off + i, none⟩ = some (.int .i64 (zg u i))) : ∀ j y, (u.map (Value.int .i64))[j]? = some y → w.cell? ((⟨b, off, none⟩ : Addr).add j) = some y := by
  intro j y hj
  have hadd : (⟨b, off, none⟩ : Addr).add j = ⟨b, off + j, none⟩ := by unfold Addr.add; split <;> simp_all
  rw [hadd]
  rw [List.getElem?_map] at hj
  rcases e : u[j]? with _ | x
  · rw [e] at hj; cases hj
  · rw [e] at hj
    have hl : j < u.length := by
      rcases Nat.lt_or_ge j u.length with q | q
      · exact q
      · rw [List.getElem?_eq_none q] at e; cases e
    rw [h j hl]
    have : zg u j = x := by unfold zg; rw [e]; rfl
    rw [this]
    exact hj
theorem IntB.put1 {w : World} {B n : Nat} {zs : List Int} (h : IntB w B n zs) (hl : zs.length = n) {k : Nat} (hk : k < n) (v : Int) : IntB (w.setCell ⟨B, k, none⟩ (.int .i64 v)) B n (zs.set k v) := by
  obtain ⟨cur, h1, h2, h3⟩ := h
  refine ⟨_, blk_set (j := k) h1 (.int .i64 v), by simpa using h2, fun i hi => ?_⟩
  rw [Array.getElem?_setIfInBounds, zg_set (by omega)]
  by_cases e : k = i
  · subst e; rw [if_pos rfl, if_pos (by omega), if_pos rfl]
  · rw [if_neg e, if_neg e, h3 i hi]
theorem IntB.free1 {w : World} {B n : Nat} {zs : List Int} (h : IntB w B n zs) (k : Nat) : w.frozen? ⟨B, k, none⟩ = false := by
  obtain ⟨cur, h1, _⟩ := h; exact free_of_blk k h1

set_option maxRecDepth 8000 in
set_option maxHeartbeats 8000000 in
theorem l11Change_any (a b : Option Addr) (n cap nb capb : Nat) (u : List Int) (ps : List Pt) (sign : Int) (w : World) (h : IntS w a n cap u) (hp : PartS w b nb capb ps) (hnil : a = none → cap = 0) (hs : sign = 1 ∨ sign = -1) (hn : n ≤ 2000000) (hnb : nb ≤ 2000000) :
    Calls Tryz.prog 73 #[.slice a n cap, .slice b nb capb, .int .i64 sign] w fun e w' => ∃ (v : Option Addr) (n' c' : Nat) (bb : Bool), e = .returned (.tuple #[.slice v n' c', .bool bb]) ∧ Below w.heap.size w w' ∧ ChA w w' v n' c' bb (chF u ps sign) := by
  obtain ⟨i1, hj, hj0, hj1, hj2⟩ := info_parts infoI
  have hlen := h.len
  have hlenp := hp.len
  have hmx := hp.mx
  have hle := hp.le
  unfold maxLen at hmx
  obtain ⟨an, han⟩ : ∃ an, an = chF u ps sign := ⟨_, rfl⟩
  have HA : Hid (an = chF u ps sign) := han
  rw [← han]
  clear han
  have hmo : Tryz.prog.follows .mixedOrders = true := by kernel_rfl
  obtain ⟨W0, hW0⟩ : ∃ W0, W0 = w.alloc (.cells #[] 2) := ⟨_, rfl⟩
  have B0 : Below w.heap.size w W0 := by rw [hW0]; exact box_below0
  have O0 : W0.ownsRow w.heap.size 2 1 (.slice (some ⟨w.heap.size, 0, none⟩) 0 0) 0 [] := by rw [hW0]; exact World.ownsRow_made w #[] 0 (Nat.le_refl _) (Nat.zero_le _) rfl
  have hz0 := B0.size
  have HP : Hid (∀ W, Below w.heap.size w W → PartS W b nb capb ps) := fun W hW => hp.below hW
  clear hp
  have hgr : ∀ (g c : Nat) (w4 : World), w4.ownsRow w.heap.size 2 1 (.slice (some ⟨g, 0, none⟩) n c) n (u.map (Value.int .i64)) → IntB w4 g n u ∧ n ≤ c ∧ c ≤ maxLen ∧ w.heap.size ≤ g := fun g c w4 O => by
    obtain ⟨q1, _, q3, q4, q5⟩ := own_ints O
    exact ⟨q1, q3, q4, q5⟩
  go_enter Tryz.func73, Tryz.ntmps73
  go_upto_region 1 with fail
  go_cut [8] from 12 to 14 (fun s8 wx => ∃ (g c : Nat), s8 = .slice (some ⟨g, 0, none⟩) n c ∧ Hid (IntB wx g n u) ∧ n ≤ c ∧ c ≤ maxLen ∧ w.heap.size ≤ g ∧ Below w.heap.size w wx)
  case first =>
    have HGR : Hid _ := hgr
    clear hgr
    cases a with
    | none =>
      have hn0 : n = 0 := by
        rcases Nat.eq_zero_or_pos n with q | q
        · exact q
        · obtain ⟨_, _, e, _⟩ := h.at_ q; cases e
      obtain rfl := hnil rfl
      subst hn0
      have hu : u = [] := List.eq_nil_of_length_eq_zero hlen
      subst hu
      go_wp2_with (at_builtin; refine wpList_append_own_none rfl (.tmp 12) (.tmp 13) 67 rfl w.heap.size 2 i1 1 Tryz.underlying67 hj _ 0 [] rfl (by rw [hW0] at O0; exact O0) rfl ?_)
      rw [← hW0]
      obtain ⟨q1, q2, q3, q4⟩ := HGR.out _ _ _ O0
      go_meet
      first | exact ⟨_, _, rfl, q1, q2, q3, q4, B0⟩ | exact ⟨_, ⟨_, _, rfl, q1, q2, q3, q4, B0⟩, rfl⟩ | ((repeat apply Exists.intro); exact ⟨⟨_, _, rfl, q1, q2, q3, q4, B0⟩, rfl⟩)
    | some ad =>
      have hsrc : ∀ j y, (u.map (Value.int .i64))[j]? = some y → W0.cell? (ad.add j) = some y := fun j y hj => by
        rcases Nat.eq_zero_or_pos n with q | q
        · have hu : u = [] := List.eq_nil_of_length_eq_zero (by omega)
          subst hu; cases hj
        · obtain ⟨b9, off9, e9, _, h9⟩ := (h.below B0).at_ q
          injection e9 with e9
          subst e9
          exact ints_at (fun i hi => h9 i (by omega)) j y hj
      go_wp2_with (at_builtin; refine wpList_append_own _ rfl (.tmp 12) (.tmp 13) 67 rfl w.heap.size 2 i1 (.int .i64 0) 1 8 Tryz.underlying67 hj hj0 hj1 hj2 rfl (by decide) _ _ _ rfl (by rw [hW0] at O0; exact O0) ad n cap (u.map (Value.int .i64)) rfl (by simp; omega) (by rw [hW0] at hsrc; exact hsrc) (by intro y hy; obtain ⟨z, _, rfl⟩ := List.mem_map.1 hy; rfl) (by unfold maxLen; omega) (by omega) (by simp) ?_)
      intro v' w4 own' grow' nil'
      have hv : v' ≠ .slice none 0 0 := fun e => by first | exact nil' e | (have := (nil'.1 e).1; cases this)
      have B4 : Below w.heap.size w w4 := (box_below0).grown grow' (by simp) (fun r q => by simp [Value.ownBlock] at q; omega)
      try rw [Nat.zero_add, List.nil_append] at own'
      obtain ⟨g, c, rfl⟩ : ∃ g c, v' = .slice (some ⟨g, 0, none⟩) n c := by
        rcases own'.2 with ⟨e, _⟩ | ⟨g3, c3, _, e3, _⟩
        · exact absurd e hv
        · exact ⟨g3, c3, e3⟩
      obtain ⟨q1, q2, q3, q4⟩ := HGR.out _ _ _ own'
      go_wp2_with fail
      go_meet
      first | exact ⟨_, _, rfl, q1, q2, q3, q4, B4⟩ | exact ⟨_, ⟨_, _, rfl, q1, q2, q3, q4, B4⟩, rfl⟩ | ((repeat apply Exists.intro); exact ⟨⟨_, _, rfl, q1, q2, q3, q4, B4⟩, rfl⟩)
  case rest =>
    obtain ⟨g, c, rfl, HI, hgc, hcm, hg0, B4⟩ := hcut
    clear hgr hW0 O0 B0 hz0
    have hul : u.length = n := hlen
    go_wp2
    go_loopw [9] (fun i wr => ∃ k : Nat, k ≤ n ∧ i = .int .i64 k ∧ Hid (useOk u k) ∧ Hid (IntB wr g n u) ∧ Below w.heap.size w wr) (fun i _ => n - (intOf i).toNat)
    case atStart => exact ⟨0, by omega, rfl, fun j hj => by omega, HI.out, B4⟩
    case round =>
      obtain ⟨k, hk, rfl, hok, HIr, hw⟩ := hrel
      rename World => wr
      have hnl : ∀ W : World, Below w.heap.size w W → ChA w (W.alloc (.cells #[] 2)) (some ⟨W.heap.size, 0, none⟩) 0 0 false none := fun W hW => ⟨rfl, rfl, Or.inr ⟨W.heap.size, rfl, hW.size, ⟨#[], heap_alloc_new _ _, Nat.zero_le _, fun i hi => by omega⟩, Nat.zero_le _, Nat.zero_le _⟩⟩
      have HNL : Hid _ := hnl
      clear hnl
      by_cases hlt : k < n
      · have hlt' : (k : Int) < (n : Int) := by omega
        have z0 := HIr.out.cell hlt
        rcases q1 : inB (zg u k) 0 1073741824 with _ | _
        · have E : Hid (an = none) := HA.out.trans (by
            unfold chF
            rw [if_neg]
            intro h9
            have := uoB_t h9 k (by omega)
            have := nin_f q1; omega)
          go_wp2_with (go_at_call 29; refine (l1In_any _ _ _ _).mono ?_; rw [q1]; rintro e w' ⟨rfl, hq⟩; have hq' := hq.symm; clear hq; subst hq')
          go_ret2
          first | exact ⟨_, _, _, false, rfl, hw.alloc hw.size _, by rw [E.out]; exact HNL.out _ hw⟩ | exact ⟨_, _, _, Or.inl ⟨rfl, hw.alloc hw.size _, by rw [E.out]; exact HNL.out _ hw⟩⟩
        · have N : Hid (useOk u (k + 1)) := fun j hj9 => by
            by_cases e : j = k
            · subst e; exact nin_t q1
            · exact hok.out j (by omega)
          go_wp2_with (go_at_call 29; refine (l1In_any _ _ _ _).mono ?_; rw [q1]; rintro e w' ⟨rfl, hq⟩; have hq' := hq.symm; clear hq; subst hq')
          go_roundw
          case rel => exact ⟨k + 1, by omega, by go_num, N, HIr.out, hw⟩
          case measure => simp [intOf]; omega
      · obtain rfl : k = n := by omega
        have hlt' : ¬ (k : Int) < (k : Int) := by omega
        have huo : useOk u u.length := by rw [hlen]; exact hok.out
        have E : Hid (an = chK u ps sign ps.length) := HA.out.trans (by unfold chF; rw [if_pos (uoB_mk huo)])
        have HUO : Hid (useOk u u.length) := huo
        clear huo hlt HI B4
        go_wp2
        go_loopw [10] (fun i wq => ∃ (j : Nat) (o : List Int), j ≤ nb ∧ i = .int .i64 j ∧ Hid (chK u ps sign j = some o) ∧ Hid (IntB wq g k o) ∧ Below w.heap.size w wq) (fun i _ => nb - (intOf i).toNat)
        case atStart => exact ⟨0, u, by omega, rfl, rfl, HIr.out, hw⟩
        case round =>
          obtain ⟨j, o, hjn, rfl, HK, HIq, hwq⟩ := hrel
          rename World => wq
          clear HIr hw
          obtain ⟨ol, ob⟩ := chK_bd hs HUO.out j o HK.out
          have Hob : Hid _ := ob
          clear ob
          by_cases hlt2 : j < nb
          · have hlt2' : (j : Int) < (nb : Int) := by omega
            obtain ⟨b1, off1, rfl, hbw1, hat1⟩ := (HP.out _ hwq).at_ (by omega)
            obtain ⟨x0, x1⟩ := hat1.row (i := j) (by omega)
            clear hat1
            obtain ⟨pn, hpn⟩ : ∃ pn, pn = (ptg ps j).node := ⟨_, rfl⟩
            obtain ⟨pc, hpc⟩ : ∃ pc, pc = (ptg ps j).cores := ⟨_, rfl⟩
            have HPN : Hid (pn = (ptg ps j).node) := hpn
            have HPC : Hid (pc = (ptg ps j).cores) := hpc
            have e1 : Part1 wq b1 (off1 + j * 2) (ptg ps j) = (wq.cell? ⟨b1, off1 + j * 2, none⟩ = some (.int .i64 (ptg ps j).node) ∧ wq.cell? ⟨b1, off1 + j * 2 + 1, none⟩ = some (.int .i64 (ptg ps j).cores)) := rfl
            clear e1
            rw [← hpn] at x0
            rw [← hpc] at x1
            clear hpn hpc
            have wn : IntKind.i64.wrap ((k : Int) - 1) = (k : Int) - 1 := by rw [IntKind.wrap_i64]; omega
            rcases q1 : inB pn 0 ((k : Int) - 1) with _ | _
            · have E2 : Hid (an = none) := E.out.trans (chK_no (k := j + 1) (by
                rw [chK_s HK.out]; unfold ch1; rw [if_neg]
                have := nin_f q1
                have := HPN.out; omega) (by omega))
              go_wp2_with (go_at_call 29; refine (l1In_any _ _ _ _).mono ?_; rw [q1]; rintro e w' ⟨rfl, rfl⟩)
              go_ret2
              have hwb := hwq.alloc hwq.size (.cells #[.int .i64 pn, .int .i64 pc] 85)
              have ez : (wq.alloc (.cells #[.int .i64 pn, .int .i64 pc] 85)).heap.size = wq.heap.size + 1 := by simp
              have hLN := HNL.out _ hwb
              rw [ez] at hLN
              first | exact ⟨_, _, _, false, rfl, hwb.alloc hwb.size _, by rw [E2.out]; exact hLN⟩ | exact ⟨_, _, _, Or.inl ⟨rfl, hwb.alloc hwb.size _, by rw [E2.out]; exact hLN⟩⟩
            · rcases q2 : inB pc 0 1073741824 with _ | _
              · have E2 : Hid (an = none) := E.out.trans (chK_no (k := j + 1) (by
                  rw [chK_s HK.out]; unfold ch1; rw [if_neg]
                  have := nin_f q2
                  have := HPC.out; omega) (by omega))
                go_wp2_with (go_at_call 29; refine (l1In_any _ _ _ _).mono ?_; (first | rw [q1] | rw [q2]); rintro e w' ⟨rfl, rfl⟩)
                go_ret2
                have hwb := hwq.alloc hwq.size (.cells #[.int .i64 pn, .int .i64 pc] 85)
                have ez : (wq.alloc (.cells #[.int .i64 pn, .int .i64 pc] 85)).heap.size = wq.heap.size + 1 := by simp
                have hLN := HNL.out _ hwb
                rw [ez] at hLN
                first | exact ⟨_, _, _, false, rfl, hwb.alloc hwb.size _, by rw [E2.out]; exact hLN⟩ | exact ⟨_, _, _, Or.inl ⟨rfl, hwb.alloc hwb.size _, by rw [E2.out]; exact hLN⟩⟩
              · obtain ⟨n0, n1⟩ := nin_t q1
                obtain ⟨p0, p1⟩ := nin_t q2
                obtain ⟨m, rfl⟩ : ∃ m : Nat, pn = m := ⟨pn.toNat, by omega⟩
                have hm : m < k := by omega
                have hob := Hob.out m (by omega)
                go_upto_region 13 with (go_at_call 29; refine (l1In_any _ _ _ _).mono ?_; (first | rw [q1] | rw [q2]); rintro e w' ⟨rfl, rfl⟩)
                have hv9 : -2200000000000000 ≤ zg o m + sign * pc ∧ zg o m + sign * pc ≤ 2200000000000000 := by
                  have h9 : 1073741824 * ((j : Int) + 1) ≤ 1073741824 * 2000001 := by omega
                  rcases hs with rfl | rfl <;> omega
                have hm9 : -1073741824 ≤ sign * pc ∧ sign * pc ≤ 1073741824 := by rcases hs with rfl | rfl <;> omega
                have wm : IntKind.i64.wrap (sign * pc) = sign * pc := by rw [IntKind.wrap_i64]; omega
                have wa : IntKind.i64.wrap (zg o m + sign * pc) = zg o m + sign * pc := by rw [IntKind.wrap_i64]; omega
                obtain ⟨W1, hW1⟩ : ∃ W1, W1 = wq.alloc (.cells #[.int .i64 (m : Int), .int .i64 pc] 85) := ⟨_, rfl⟩
                have B1 : Below w.heap.size w W1 := by rw [hW1]; exact hwq.alloc hwq.size _
                have I1 : IntB W1 g k o := by rw [hW1]; exact HIq.out.below box_below0
                have K1 : W1.heap[wq.heap.size]? = some (.cells #[.int .i64 (m : Int), .int .i64 pc] 85 (0, 0)) := by rw [hW1]; exact heap_alloc_new _ _
                have hgq : g < wq.heap.size := HIq.out.lt
                rw [← hW1]
                clear hW1 x0 x1
                have y0 : W1.cell? ⟨wq.heap.size, 0, none⟩ = some (.int .i64 (m : Int)) := by simp [World.cell?, K1]
                have y1 : W1.cell? ⟨wq.heap.size, 1, none⟩ = some (.int .i64 pc) := by simp [World.cell?, K1]
                have z0 := I1.cell hm
                have zf := I1.free1 m
                have hmk : (m : Int) < (k : Int) := by omega
                have I2 : IntB (W1.setCell ⟨g, m, none⟩ (.int .i64 (zg o m + sign * pc))) g k (o.set m (zg o m + sign * pc)) := I1.put1 (by omega) hm _
                have HI2 : Hid (IntB (W1.setCell ⟨g, m, none⟩ (.int .i64 (zg o m + sign * pc))) g k (o.set m (zg o m + sign * pc))) := I2
                have HK1 : Hid _ := K1
                clear I2 K1
                go_cut [] from 52 to 65 (fun wx => Hid (IntB wx g k (o.set m (zg o m + sign * pc))) ∧ wx.cell? ⟨wq.heap.size, 0, none⟩ = some (.int .i64 (m : Int)) ∧ Below w.heap.size w wx)
                case first =>
                  go_region
                  all_goals
                    go_wp2_with fail
                    go_meet
                    have BF : Below w.heap.size w (W1.setCell ⟨g, m, none⟩ (.int .i64 (zg o m + sign * pc))) := B1.setCell (show w.heap.size ≤ g by omega) _
                    have yF : (W1.setCell ⟨g, m, none⟩ (.int .i64 (zg o m + sign * pc))).cell? ⟨wq.heap.size, 0, none⟩ = some (.int .i64 (m : Int)) := (World.cell?_of_block (a := ⟨wq.heap.size, 0, none⟩) (Below.heap_setCell W1 ⟨g, m, none⟩ _ _ (show wq.heap.size ≠ g by omega))).trans y0
                    first | exact ⟨HI2.out.below (Below.refl _ _).drew, yF, BF.drew⟩ | exact ⟨HI2.out, yF, BF⟩ | exact ⟨⟨HI2.out.below (Below.refl _ _).drew, yF, BF.drew⟩, rfl⟩ | ((repeat apply Exists.intro); exact ⟨⟨HI2.out.below (Below.refl _ _).drew, yF, BF.drew⟩, rfl⟩)
                case rest =>
                  obtain ⟨HI5, y5, B5⟩ := hcut
                  clear y0 y1 z0 zf HI2 HK1 I1 B1
                  have hol : m < o.length := by omega
                  have z5 := HI5.out.cell hm
                  rw [zg_set hol, if_pos rfl] at z5
                  by_cases hneg : zg o m + sign * pc < 0
                  · have E2 : Hid (an = none) := E.out.trans (chK_no (k := j + 1) (by
                      rw [chK_s HK.out]; unfold ch1
                      rw [← HPN.out, ← HPC.out, if_pos (by omega), if_pos (by rw [Int.toNat_natCast]; exact hneg)]) (by omega))
                    go_wp2
                    go_ret2
                    first | exact ⟨_, _, _, false, rfl, B5.alloc B5.size _, by rw [E2.out]; exact HNL.out _ B5⟩ | exact ⟨_, _, _, Or.inl ⟨rfl, B5.alloc B5.size _, by rw [E2.out]; exact HNL.out _ B5⟩⟩
                  · have HK2 : Hid (chK u ps sign (j + 1) = some (o.set m (zg o m + sign * pc))) := by
                      unfold Hid
                      rw [chK_s HK.out]; unfold ch1
                      rw [← HPN.out, ← HPC.out, if_pos (by omega), if_neg (by rw [Int.toNat_natCast]; exact hneg), Int.toNat_natCast]
                    go_wp2
                    go_roundw
                    case rel => exact ⟨j + 1, _, by omega, by go_num, HK2.out, HI5.out, B5⟩
                    case measure => simp [intOf]; omega
          · obtain rfl : j = nb := by omega
            have hlt2' : ¬ (j : Int) < (j : Int) := by omega
            have E2 : Hid (an = some o) := by unfold Hid; rw [E.out, hlenp]; exact HK.out
            go_wp2
            go_ret2
            have hL : ChA w wq (some ⟨g, 0, none⟩) k c true (some o) := ⟨rfl, by omega, Or.inr ⟨g, rfl, hg0, HIq.out, hgc, hcm⟩⟩
            first | exact ⟨_, _, _, true, rfl, hwq, by rw [E2.out]; exact hL⟩ | exact ⟨_, _, _, Or.inr ⟨rfl, hwq, by rw [E2.out]; exact hL⟩⟩

theorem chF_len (u : List Int) (ps : List Pt) (sign : Int) : ((chF u ps sign).getD []).length ≤ u.length := by
  rcases h : chF u ps sign with _ | o
  · exact Nat.zero_le _
  · unfold chF at h
    split at h
    · exact Nat.le_of_eq (chK_sum _ o h).1
    · cases h

theorem specTaken_any (a b : Option Addr) (n cap nb capb : Nat) (u : List Int) (ps : List Pt) (w : World) (h : IntS w a n cap u) (hp : PartS w b nb capb ps) (hnil : a = none → cap = 0) (hn : n ≤ 2000000) (hnb : nb ≤ 2000000) :
    Calls Tryz.prog 53 #[.slice a n cap, .slice b nb capb] w fun e w' => ∃ (v : Option Addr) (c' : Nat), e = .returned (.slice v ((chF u ps 1).getD []).length c') ∧ LInt w' w.heap.size v ((chF u ps 1).getD []).length c' ((chF u ps 1).getD []) ∧ Below w.heap.size w w' := by
  obtain ⟨an, han⟩ : ∃ an, an = chF u ps 1 := ⟨_, rfl⟩
  have HA : Hid (an = chF u ps 1) := han
  rw [← han]
  clear han
  obtain ⟨zz, hzz⟩ : ∃ zz, zz = an.getD [] := ⟨_, rfl⟩
  have HZ : Hid (zz = an.getD []) := hzz
  rw [← hzz]
  clear hzz
  go_enter Tryz.func53, Tryz.ntmps53
  go_wp2_with fail
  refine (l11Change_any a b n cap nb capb u ps 1 _ h hp hnil (Or.inl rfl) hn hnb).mono ?_
  rw [← HA.out]
  rintro e w1 ⟨v, n', c', bb, rfl, hb1, hC⟩
  have hL : LInt w1 w.heap.size v n' c' zz := by
    rw [HZ.out]
    cases an with
    | none => exact hC.2
    | some o => exact hC.2
  obtain rfl := hL.1
  clear hC
  go_wp2
  go_ret
  exact ⟨v, c', rfl, hL, hb1⟩

end Go.Proofs.YtdgfkcobhhlfbaaGreat
