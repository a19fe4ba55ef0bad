/- The model's l6Best. -/
import Derived.Test.YtbnocnadlleibaaBestI
namespace Go.Proofs.Ytbnocnadlleibaa
open Go.RowKit Go.Sort

set_option maxRecDepth 8000 in
set_option maxHeartbeats 8000000 in
theorem l6Best_any : ∀ (ls : List Jb) (a : Option Addr) (n cap B m : Nat) (l : List Int) (c : Int) (w : World), JobS w a n cap ls → LdB w B l → l.length = m → 1 ≤ m → m ≤ 10 → LdOk l c → 0 ≤ c → c + 10000 * (ls.length : Int) ≤ 1000000000 → (∀ p ∈ longs ls, 1 ≤ p ∧ p ≤ 10000) → (0 < n → ∀ b off s, a = some ⟨b, off, s⟩ → b ≠ B) →
    Calls Try.prog 49 #[.slice a n cap, .slice (some ⟨B, 0, none⟩) m m] w fun e w' => e = .returned (.int .i64 (bestV (longs ls) l)) ∧ LdB w' B l ∧ But B w w' := by
  intro ls
  induction ls with
  | nil =>
    intro a n cap B m l c w h hL hl hm1 hm2 hok hc hcb hp hne
    have hlen : n = 0 := h.len.symm
    subst hlen
    have CM := l6Most_any B m l w hL (by omega) (by unfold maxLen; omega)
    rw [hl] at CM
    go_enter Try.func49, Try.ntmps49
    go_wp2_with (go_at_call 55; refine CM.mono ?_; rintro e w2 ⟨rfl, rfl⟩)
    go_ret
    exact ⟨rfl, hL, But.refl _ _⟩
  | cons x ls ih =>
    intro a n cap B m l c w h hL hl hm1 hm2 hok hc hcb hp hne
    obtain ⟨n, rfl⟩ : ∃ n', n = n' + 1 := ⟨ls.length, by rw [← h.len]; rfl⟩
    obtain ⟨b, off, rfl, hbw, hat⟩ := h.at_ (by omega)
    have hbB : b ≠ B := hne (by omega) _ _ _ rfl
    have hmx := h.mx
    have hle := h.le
    have hpx := hp x.long (by rw [longs_cons]; exact List.mem_cons_self)
    have hn40 : (ls.length : Int) = n := by have := h.len; simp at this; omega
    unfold maxLen at hmx
    rw [longs_cons]
    have hn1 : ((n : Int) + 1 == 0) = false := by simp; omega
    have hn2 : (1 : Int) ≤ (n : Int) + 1 := by omega
    have hn3 : ((n : Int) + 1) ≤ (cap : Int) := by omega
    rw [List.length_cons] at hcb
    push_cast at hcb
    have HJ : Hid (JobS w (some ⟨b, off, none⟩) (n + 1) cap (x :: ls)) := h
    have HL0 : Hid (LdB w B l) := hL
    have HP : Hid (∀ p ∈ longs ls, 1 ≤ p ∧ p ≤ 10000) := fun p hp' => hp p (by rw [longs_cons]; exact List.mem_cons_of_mem _ hp')
    have HOK : Hid (LdOk l c) := hok
    have HLen : Hid (l.length = m) := hl
    have HIH : Hid _ := ih
    clear ih h hL hat hok hp hl hne
    go_enter Try.func49, Try.ntmps49
    go_wp2
    go_loopw [5, 6, 7] (fun s i _ wr => ∃ k : Nat, k ≤ m ∧ i = .int .i64 k ∧ s = .int .i64 (bestK (fun k => bestV (longs ls) (addAt l k x.long)) k) ∧ Hid (LdB wr B l) ∧ Hid (But B w wr)) (fun _ i _ _ => m - (intOf i).toNat)
    case atStart => exact ⟨0, by omega, rfl, rfl, HL0.out, But.refl _ _⟩
    case round =>
      obtain ⟨k, hk, rfl, rfl, HL, HB⟩ := hrel
      by_cases hlt : k < m
      · have hlt' : (k : Int) < (m : Int) := by omega
        have hJw := HJ.out.but HB.out (fun b' o s e => by injection e with e; injection e with e1 _ _; omega)
        obtain ⟨b', off', e', hbw', hat'⟩ := hJw.at_ (by omega)
        injection e' with e'
        injection e' with e1 e2 _
        subst e1 e2
        obtain ⟨hc0, hc1, hc2, hc3, hc4, hc5, hc6⟩ := hat'.job (i := 0) (by simp)
        rw [jg_zero, show off + 0 * 7 = off by omega] at hc2
        clear hc0 hc1 hc3 hc4 hc5 hc6 hat'
        have lc := HL.out.cell (k := k) (by rw [HLen.out]; exact hlt)
        have lf := HL.out.free k
        obtain ⟨lo0, lo1⟩ := HOK.out k
        rw [← zg_getD] at lo0 lo1
        obtain ⟨v, hv⟩ : ∃ v, zg l k = v := ⟨_, rfl⟩
        rw [hv] at lc lo0 lo1
        have HV : Hid _ := hv
        clear hv
        go_wp2
        go_region
        have L3 : Hid (LdB (wr.setCell ⟨B, k, none⟩ (.int .i64 (v + x.long))).drew B (addAt l k x.long)) := by
          have := HL.out.add k x.long
          rw [HV.out] at this
          exact this
        have B3 : Hid (But B w (wr.setCell ⟨B, k, none⟩ (.int .i64 (v + x.long))).drew) := (HB.out.setCell k _).drewN 1
        obtain ⟨w3, hw3⟩ : ∃ w3, (wr.setCell ⟨B, k, none⟩ (.int .i64 (v + x.long))).drew = w3 := ⟨_, rfl⟩
        rw [hw3] at L3 B3 ⊢
        clear hw3 lc lf hc2
        have hJ3 := HJ.out.but B3.out (fun b' o s e => by injection e with e; injection e with e1 _ _; omega)
        have hok3 := HOK.out.add (k := k) (p := x.long) (by rw [HLen.out]; exact hlt) (by omega)
        have C3 := HIH.out _ n (cap - 1) B m (addAt l k x.long) (c + 10000) w3 hJ3.rest L3.out (by rw [addAt_len]; exact HLen.out) hm1 hm2 (hok3.mono (by omega)) (by omega) (by omega) HP.out
          (fun _ b' o s e => by split at e <;> (injection e with e; injection e with e1 _ _; omega))
        have HLV : Hid (bestK (fun k => bestV (longs ls) (addAt l k x.long)) (k + 1) = if bestK (fun k => bestV (longs ls) (addAt l k x.long)) k < 0 ∨ bestV (longs ls) (addAt l k x.long) < bestK (fun k => bestV (longs ls) (addAt l k x.long)) k then bestV (longs ls) (addAt l k x.long) else bestK (fun k => bestV (longs ls) (addAt l k x.long)) k) := rfl
        have HLe : Hid ((addAt l k x.long).length = m) := by unfold Hid; rw [addAt_len]; exact HLen.out
        have HOK3 : Hid (LdOk (addAt l k x.long) (c + x.long)) := hok3
        clear hJ3 hok3
        obtain ⟨ad, had⟩ : ∃ ad : Option Addr, (if cap = 1 then some (⟨b, off, none⟩ : Addr) else some ⟨b, off + 7, none⟩) = ad := ⟨_, rfl⟩
        rw [had] at C3
        go_wp2_with (go_at_call 49; refine C3.mono ?_; rintro e w4 ⟨rfl, L4, B4⟩)
        have HB4 : Hid (But B w w4) := B3.out.trans B4
        have HL4 : Hid (LdB w4 B (addAt l k x.long)) := L4
        have hJ4 := HJ.out.but HB4.out (fun b' o s e => by injection e with e; injection e with e1 _ _; omega)
        obtain ⟨b', off', e', hbw4, hat4⟩ := hJ4.at_ (by omega)
        injection e' with e'
        injection e' with e1 e2 _
        subst e1 e2
        obtain ⟨_, _, hd2, _, _, _, _⟩ := hat4.job (i := 0) (by simp)
        rw [jg_zero, show off + 0 * 7 = off by omega] at hd2
        have ld := HL4.out.cell (k := k) (by rw [HLe.out]; exact hlt)
        have lg := HL4.out.free k
        obtain ⟨lp0, lp1⟩ := HOK3.out k
        rw [← zg_getD] at lp0 lp1
        have L5 : Hid (LdB (w4.setCell ⟨B, k, none⟩ (.int .i64 (zg (addAt l k x.long) k - x.long))).drew B l) := HL4.out.sub (by rw [HLen.out]; exact hlt)
        have B5 : Hid (But B w (w4.setCell ⟨B, k, none⟩ (.int .i64 (zg (addAt l k x.long) k - x.long))).drew) := (HB4.out.setCell k _).drewN 1
        obtain ⟨u, hu⟩ : ∃ u, zg (addAt l k x.long) k = u := ⟨_, rfl⟩
        rw [hu] at ld lp0 lp1 L5 B5
        clear hu had L4 B4 hat4 hJ4
        go_region
        obtain ⟨w5, hw5⟩ : ∃ w5, (w4.setCell ⟨B, k, none⟩ (.int .i64 (u - x.long))).drew = w5 := ⟨_, rfl⟩
        rw [hw5] at L5 B5 ⊢
        clear hw5 ld lg hd2
        obtain ⟨bk, hbk⟩ : ∃ bk, bestK (fun k => bestV (longs ls) (addAt l k x.long)) k = bk := ⟨_, rfl⟩
        obtain ⟨nv, hnv⟩ : ∃ nv, bestV (longs ls) (addAt l k x.long) = nv := ⟨_, rfl⟩
        rw [hbk, hnv] at HLV
        rw [hbk, hnv]
        clear hbk hnv
        by_cases c1 : bk < 0
        · have HV5 : Hid (bestK (fun k => bestV (longs ls) (addAt l k x.long)) (k + 1) = nv) := by rw [HLV.out, if_pos (Or.inl c1)]; rfl
          go_wp2
          go_roundw
          case rel => first | exact ⟨k + 1, by omega, by go_num, by rw [HV5.out], L5, B5⟩ | ((repeat apply Exists.intro); exact ⟨⟨k + 1, by omega, by go_num, by rw [HV5.out], L5, B5⟩, rfl⟩)
          case measure => simp [intOf]; omega
        · by_cases c2 : nv < bk
          · have HV5 : Hid (bestK (fun k => bestV (longs ls) (addAt l k x.long)) (k + 1) = nv) := by rw [HLV.out, if_pos (Or.inr c2)]; rfl
            go_wp2
            go_roundw
            case rel => first | exact ⟨k + 1, by omega, by go_num, by rw [HV5.out], L5, B5⟩ | ((repeat apply Exists.intro); exact ⟨⟨k + 1, by omega, by go_num, by rw [HV5.out], L5, B5⟩, rfl⟩)
            case measure => simp [intOf]; omega
          · have HV5 : Hid (bestK (fun k => bestV (longs ls) (addAt l k x.long)) (k + 1) = bk) := by rw [HLV.out, if_neg (by omega)]; rfl
            go_wp2
            go_roundw
            case rel => first | exact ⟨k + 1, by omega, by go_num, by rw [HV5.out], L5, B5⟩ | ((repeat apply Exists.intro); exact ⟨⟨k + 1, by omega, by go_num, by rw [HV5.out], L5, B5⟩, rfl⟩)
            case measure => simp [intOf]; omega
      · have e : k = m := by omega
        subst e
        go_wp2
        go_ret
        exact ⟨by rw [← HLen.out]; rfl, HL.out, HB.out⟩

end Go.Proofs.Ytbnocnadlleibaa
