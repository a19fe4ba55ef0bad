/- Several texts in one. -/
import Derived.Test.YtcomohobkjkhiaaL6S
import Derived.Test.YtcomohobkjkhiaaCmp
import Derived.Shelf.SlSortCmp.Insertion
import Derived.Test.YtcomohobkjkhiaaWorlds
import Derived.BigRegion
/- The best, as the program reckons it; the rest of a slice of jobs. -/
namespace Go.Proofs.Ytcomohobkjkhiaa
open Go.RowKit Go.Sort

def lstK (f : Nat → Int) : Nat → Int
  | 0 => 1000000000
  | n + 1 => min (lstK f n) (f n)
/-- the least of all ways, from l on -/
def leastV : List Int → List Int → Int
  | [], l => mostV l
  | p :: ps, l => lstK (fun k => leastV ps (addAt l k p)) l.length

theorem lst_best {f g : Nat → Int} : ∀ n, 1 ≤ n → (∀ k, k < n → f k = g k ∧ 0 ≤ g k ∧ g k ≤ 1000000000) → lstK f n = bestK g n ∧ 0 ≤ bestK g n
  | 0, h, _ => by omega
  | n + 1, _, h => by
    have hn := h n (by omega)
    have e : bestK g (n + 1) = if bestK g n < 0 ∨ g n < bestK g n then g n else bestK g n := rfl
    have e2 : lstK f (n + 1) = min (lstK f n) (f n) := rfl
    by_cases h0 : n = 0
    · subst h0
      have e3 : bestK g 1 = g 0 := by rw [e]; exact if_pos (Or.inl (show (-1 : Int) < 0 by omega))
      rw [e2, e3]
      show min 1000000000 (f 0) = g 0 ∧ _
      omega
    · have ih := lst_best n (by omega) (fun k hk => h k (by omega))
      rw [e2, e, ih.1]
      split <;> omega
theorem bestK_le {g : Nat → Int} {T : Int} : ∀ n, 1 ≤ n → (∀ k, k < n → 0 ≤ g k ∧ g k ≤ T) → 0 ≤ bestK g n ∧ bestK g n ≤ T
  | 0, h, _ => by omega
  | n + 1, _, h => by
    have hn := h n (by omega)
    have e : bestK g (n + 1) = if bestK g n < 0 ∨ g n < bestK g n then g n else bestK g n := rfl
    rw [e]
    by_cases h0 : n = 0
    · subst h0
      have e3 : bestK g 0 = -1 := rfl
      rw [if_pos (by left; rw [e3]; omega)]; exact hn
    · have ih := bestK_le n (by omega) (fun k hk => h k (by omega))
      split <;> omega
theorem least_best : ∀ (ps l : List Int) (c : Int), 1 ≤ l.length → LdOk l c → 0 ≤ c → c + 10000 * (ps.length : Int) ≤ 1000000000 → (∀ p ∈ ps, 0 ≤ p ∧ p ≤ 10000) →
    leastV ps l = bestV ps l ∧ 0 ≤ bestV ps l ∧ bestV ps l ≤ c + 10000 * (ps.length : Int)
  | [], l, c, _, h, hc, _, _ => ⟨rfl, mostV_nonneg l, by have := h.most hc; simp only [List.length_nil]; show mostV l ≤ _; omega⟩
  | p :: ps, l, c, hl, h, hc, hb, hp => by
    have hp0 := hp p List.mem_cons_self
    rw [List.length_cons] at hb ⊢
    push_cast at hb ⊢
    have ih : ∀ k, k < l.length → leastV ps (addAt l k p) = bestV ps (addAt l k p) ∧ 0 ≤ bestV ps (addAt l k p) ∧ bestV ps (addAt l k p) ≤ (c + 10000) + 10000 * (ps.length : Int) := fun k hk =>
      least_best ps (addAt l k p) (c + 10000) (by rw [addAt_len]; exact hl) ((h.add hk hp0.1).mono (by omega)) (by omega) (by omega) (fun q hq => hp q (List.mem_cons_of_mem _ hq))
    have h1 := lst_best (f := fun k => leastV ps (addAt l k p)) (g := fun k => bestV ps (addAt l k p)) l.length hl (fun k hk => by have := ih k hk; exact ⟨this.1, this.2.1, by have := this.2.2; omega⟩)
    have h2 := bestK_le (g := fun k => bestV ps (addAt l k p)) (T := (c + 10000) + 10000 * (ps.length : Int)) l.length hl (fun k hk => (ih k hk).2)
    exact ⟨h1.1, h1.2, by show bestK _ _ ≤ _; omega⟩

theorem longs_cons (x : Jb) (ls : List Jb) : longs (x :: ls) = x.long :: longs ls := rfl
theorem jg_zero (x : Jb) (ls : List Jb) : jg (x :: ls) 0 = x := rfl
theorem jg_succ (x : Jb) (ls : List Jb) (i : Nat) : jg (x :: ls) (i + 1) = jg ls i := by simp [jg]

/-- all but the first -/
theorem JobS.rest {w : World} {b off n cap : Nat} {x : Jb} {ls : List Jb} (h : JobS w (some ⟨b, off, none⟩) (n + 1) cap (x :: ls)) : JobS w (if cap = 1 then some ⟨b, off, none⟩ else some ⟨b, off + 7, none⟩) n (cap - 1) ls := by
  have hl := h.len
  have hle := h.le
  have hmx := h.mx
  refine ⟨by simpa using hl, by omega, by omega, fun e => (by split at e <;> cases e), fun i hi => ?_, fun hn => ?_⟩
  · rw [← jg_succ x]; exact h.wf (i + 1) (by omega)
  · obtain ⟨b', off', e, hb, hat⟩ := h.at_ (by omega)
    injection e with e
    injection e with e1 e2 _
    subst e1 e2
    refine ⟨b, off + 7, if_neg (by omega), hb, fun i hi c hc => ?_⟩
    have := hat (i + 1) (by simpa using hi) c hc
    rw [jg_succ, show off + (i + 1) * 7 + c = off + 7 + i * 7 + c by omega] at this
    exact this

end Go.Proofs.Ytcomohobkjkhiaa

/- The program's leastSpan. -/
namespace Go.Proofs.Ytcomohobkjkhiaa
open Go.RowKit Go.Sort

theorem JobS.but {w w' : World} {a : Option Addr} {n cap cb : Nat} {ls : List Jb} (h : JobS w a n cap ls) (hb : But cb w w') (hne : ∀ b off s, a = some ⟨b, off, s⟩ → b ≠ cb) : JobS w' a n cap ls :=
  ⟨h.len, h.le, h.mx, h.nil, h.wf, fun hn => by
    obtain ⟨b, off, e, h1, h2⟩ := h.at_ hn
    exact ⟨b, off, e, Nat.lt_of_lt_of_le h1 hb.size, fun i hi c hc => (World.cell?_of_block (a := ⟨b, off + i * 7 + c, none⟩) (hb.block b h1 (hne _ _ _ e))).trans (h2 i hi c hc)⟩⟩
theorem LdB.sub {w : World} {B : Nat} {l : List Int} {k : Nat} {p : Int} (h : LdB w B (addAt l k p)) (hk : k < l.length) : LdB (w.setCell ⟨B, k, none⟩ (.int .i64 (zg (addAt l k p) k - p))) B l := by
  have := h.add k (-p)
  rw [addAt_back hk, ← Int.sub_eq_add_neg] at this
  exact this

set_option maxRecDepth 8000 in
set_option maxHeartbeats 8000000 in
theorem leastSpan_any : ∀ (ls : List Jb) (a : Option Addr) (n cap B m : Nat) (l : List Int) (c : Int) (w : World), JobS w a n cap ls → LdB w B l → l.length = m → 1 ≤ m → m ≤ 10 → LdOk l c → 0 ≤ c → c + 10000 * (ls.length : Int) ≤ 1000000000 → (∀ p ∈ longs ls, 1 ≤ p ∧ p ≤ 10000) → (0 < n → ∀ b off s, a = some ⟨b, off, s⟩ → b ≠ B) →
    Calls Try.prog 26 #[.slice a n cap, .slice (some ⟨B, 0, none⟩) m m] w fun e w' => e = .returned (.int .i64 (leastV (longs ls) l)) ∧ LdB w' B l ∧ But B w w' := by
  intro ls
  induction ls with
  | nil =>
    intro a n cap B m l c w h hL hl hm1 hm2 hok hc hcb hp hne
    have hlen : n = 0 := h.len.symm
    subst hlen
    have CM := slMost_any B m l c w hL hok (by omega) (by omega) (by unfold maxLen; omega)
    rw [hl] at CM
    go_enter Try.func26, Try.ntmps26
    go_wp2_with (go_at_call 39; refine CM.mono ?_; rintro e w2 ⟨rfl, rfl⟩)
    go_ret
    exact ⟨rfl, hL, But.refl _ _⟩
  | cons x ls ih =>
    intro a n cap B m l c w h hL hl hm1 hm2 hok hc hcb hp hne
    obtain ⟨n, rfl⟩ : ∃ n', n = n' + 1 := ⟨ls.length, by rw [← h.len]; rfl⟩
    obtain ⟨b, off, rfl, hbw, hat⟩ := h.at_ (by omega)
    have hbB : b ≠ B := hne (by omega) _ _ _ rfl
    have hmx := h.mx
    have hle := h.le
    have hpx := hp x.long (by rw [longs_cons]; exact List.mem_cons_self)
    have hn40 : (ls.length : Int) = n := by have := h.len; simp at this; omega
    unfold maxLen at hmx
    rw [longs_cons]
    have hn1 : ((n : Int) + 1 == 0) = false := by simp; omega
    have hn2 : (1 : Int) ≤ (n : Int) + 1 := by omega
    have hn3 : ((n : Int) + 1) ≤ (cap : Int) := by omega
    rw [List.length_cons] at hcb
    push_cast at hcb
    have HJ : Hid (JobS w (some ⟨b, off, none⟩) (n + 1) cap (x :: ls)) := h
    have HL0 : Hid (LdB w B l) := hL
    have HP : Hid (∀ p ∈ longs ls, 1 ≤ p ∧ p ≤ 10000) := fun p hp' => hp p (by rw [longs_cons]; exact List.mem_cons_of_mem _ hp')
    have HOK : Hid (LdOk l c) := hok
    have HLen : Hid (l.length = m) := hl
    have HIH : Hid _ := ih
    clear ih h hL hat hok hp hl hne
    go_enter Try.func26, Try.ntmps26
    go_wp2
    go_loopw [5, 6, 14] (fun s _ i wr => ∃ k : Nat, k ≤ m ∧ i = .int .i64 k ∧ s = .int .i64 (lstK (fun k => leastV (longs ls) (addAt l k x.long)) k) ∧ Hid (LdB wr B l) ∧ Hid (But B w wr)) (fun _ _ i _ => m - (intOf i).toNat)
    case atStart => exact ⟨0, by omega, rfl, rfl, HL0.out, But.refl _ _⟩
    case round =>
      obtain ⟨k, hk, rfl, rfl, HL, HB⟩ := hrel
      by_cases hlt : k < m
      · have hlt' : (k : Int) < (m : Int) := by omega
        have hJw := HJ.out.but HB.out (fun b' o s e => by injection e with e; injection e with e1 _ _; omega)
        obtain ⟨b', off', e', hbw', hat'⟩ := hJw.at_ (by omega)
        injection e' with e'
        injection e' with e1 e2 _
        subst e1 e2
        obtain ⟨hc0, hc1, hc2, hc3, hc4, hc5, hc6⟩ := hat'.job (i := 0) (by simp)
        rw [jg_zero, show off + 0 * 7 = off by omega] at hc2
        clear hc0 hc1 hc3 hc4 hc5 hc6 hat'
        have lc := HL.out.cell (k := k) (by rw [HLen.out]; exact hlt)
        have lf := HL.out.free k
        obtain ⟨lo0, lo1⟩ := HOK.out k
        rw [← zg_getD] at lo0 lo1
        obtain ⟨v, hv⟩ : ∃ v, zg l k = v := ⟨_, rfl⟩
        rw [hv] at lc lo0 lo1
        have HV : Hid _ := hv
        clear hv
        go_wp2
        go_region
        have L3 : Hid (LdB (wr.setCell ⟨B, k, none⟩ (.int .i64 (v + x.long))).drew B (addAt l k x.long)) := by
          have := HL.out.add k x.long
          rw [HV.out] at this
          exact this
        have B3 : Hid (But B w (wr.setCell ⟨B, k, none⟩ (.int .i64 (v + x.long))).drew) := (HB.out.setCell k _).drewN 1
        obtain ⟨w3, hw3⟩ : ∃ w3, (wr.setCell ⟨B, k, none⟩ (.int .i64 (v + x.long))).drew = w3 := ⟨_, rfl⟩
        rw [hw3] at L3 B3 ⊢
        clear hw3 lc lf hc2
        have hJ3 := HJ.out.but B3.out (fun b' o s e => by injection e with e; injection e with e1 _ _; omega)
        have hok3 := HOK.out.add (k := k) (p := x.long) (by rw [HLen.out]; exact hlt) (by omega)
        have C3 := HIH.out _ n (cap - 1) B m (addAt l k x.long) (c + 10000) w3 hJ3.rest L3.out (by rw [addAt_len]; exact HLen.out) hm1 hm2 (hok3.mono (by omega)) (by omega) (by omega) HP.out
          (fun _ b' o s e => by split at e <;> (injection e with e; injection e with e1 _ _; omega))
        have HLV : Hid (lstK (fun k => leastV (longs ls) (addAt l k x.long)) (k + 1) = min (lstK (fun k => leastV (longs ls) (addAt l k x.long)) k) (leastV (longs ls) (addAt l k x.long))) := rfl
        have HLe : Hid ((addAt l k x.long).length = m) := by unfold Hid; rw [addAt_len]; exact HLen.out
        have HOK3 : Hid (LdOk (addAt l k x.long) (c + x.long)) := hok3
        clear hJ3 hok3
        obtain ⟨ad, had⟩ : ∃ ad : Option Addr, (if cap = 1 then some (⟨b, off, none⟩ : Addr) else some ⟨b, off + 7, none⟩) = ad := ⟨_, rfl⟩
        rw [had] at C3
        go_wp2_with (go_at_call 26; refine C3.mono ?_; rintro e w4 ⟨rfl, L4, B4⟩)
        have HB4 : Hid (But B w w4) := B3.out.trans B4
        have HL4 : Hid (LdB w4 B (addAt l k x.long)) := L4
        have hJ4 := HJ.out.but HB4.out (fun b' o s e => by injection e with e; injection e with e1 _ _; omega)
        obtain ⟨b', off', e', hbw4, hat4⟩ := hJ4.at_ (by omega)
        injection e' with e'
        injection e' with e1 e2 _
        subst e1 e2
        obtain ⟨_, _, hd2, _, _, _, _⟩ := hat4.job (i := 0) (by simp)
        rw [jg_zero, show off + 0 * 7 = off by omega] at hd2
        have ld := HL4.out.cell (k := k) (by rw [HLe.out]; exact hlt)
        have lg := HL4.out.free k
        obtain ⟨lp0, lp1⟩ := HOK3.out k
        rw [← zg_getD] at lp0 lp1
        have L5 : Hid (LdB (w4.setCell ⟨B, k, none⟩ (.int .i64 (zg (addAt l k x.long) k - x.long))).drew B l) := HL4.out.sub (by rw [HLen.out]; exact hlt)
        have B5 : Hid (But B w (w4.setCell ⟨B, k, none⟩ (.int .i64 (zg (addAt l k x.long) k - x.long))).drew) := (HB4.out.setCell k _).drewN 1
        obtain ⟨u, hu⟩ : ∃ u, zg (addAt l k x.long) k = u := ⟨_, rfl⟩
        rw [hu] at ld lp0 lp1 L5 B5
        clear hu had L4 B4 hat4 hJ4
        go_region
        obtain ⟨w5, hw5⟩ : ∃ w5, (w4.setCell ⟨B, k, none⟩ (.int .i64 (u - x.long))).drew = w5 := ⟨_, rfl⟩
        rw [hw5] at L5 B5 ⊢
        clear hw5 ld lg hd2
        go_wp2
        go_roundw
        case rel => first | exact ⟨k + 1, by omega, by go_num, by rw [HLV.out], L5, B5⟩ | ((repeat apply Exists.intro); exact ⟨⟨k + 1, by omega, by go_num, by rw [HLV.out], L5, B5⟩, rfl⟩)
        case measure => simp [intOf]; omega
      · have e : k = m := by omega
        subst e
        go_wp2
        go_ret
        exact ⟨by rw [← HLen.out]; rfl, HL.out, HB.out⟩

end Go.Proofs.Ytcomohobkjkhiaa

/- The model's l6Best. -/
namespace Go.Proofs.Ytcomohobkjkhiaa
open Go.RowKit Go.Sort

set_option maxRecDepth 8000 in
set_option maxHeartbeats 8000000 in
theorem l6Best_any : ∀ (ls : List Jb) (a : Option Addr) (n cap B m : Nat) (l : List Int) (c : Int) (w : World), JobS w a n cap ls → LdB w B l → l.length = m → 1 ≤ m → m ≤ 10 → LdOk l c → 0 ≤ c → c + 10000 * (ls.length : Int) ≤ 1000000000 → (∀ p ∈ longs ls, 1 ≤ p ∧ p ≤ 10000) → (0 < n → ∀ b off s, a = some ⟨b, off, s⟩ → b ≠ B) →
    Calls Try.prog 34 #[.slice a n cap, .slice (some ⟨B, 0, none⟩) m m] w fun e w' => e = .returned (.int .i64 (bestV (longs ls) l)) ∧ LdB w' B l ∧ But B w w' := by
  intro ls
  induction ls with
  | nil =>
    intro a n cap B m l c w h hL hl hm1 hm2 hok hc hcb hp hne
    have hlen : n = 0 := h.len.symm
    subst hlen
    have CM := l6Most_any B m l w hL (by omega) (by unfold maxLen; omega)
    rw [hl] at CM
    go_enter Try.func34, Try.ntmps34
    go_wp2_with (go_at_call 40; refine CM.mono ?_; rintro e w2 ⟨rfl, rfl⟩)
    go_ret
    exact ⟨rfl, hL, But.refl _ _⟩
  | cons x ls ih =>
    intro a n cap B m l c w h hL hl hm1 hm2 hok hc hcb hp hne
    obtain ⟨n, rfl⟩ : ∃ n', n = n' + 1 := ⟨ls.length, by rw [← h.len]; rfl⟩
    obtain ⟨b, off, rfl, hbw, hat⟩ := h.at_ (by omega)
    have hbB : b ≠ B := hne (by omega) _ _ _ rfl
    have hmx := h.mx
    have hle := h.le
    have hpx := hp x.long (by rw [longs_cons]; exact List.mem_cons_self)
    have hn40 : (ls.length : Int) = n := by have := h.len; simp at this; omega
    unfold maxLen at hmx
    rw [longs_cons]
    have hn1 : ((n : Int) + 1 == 0) = false := by simp; omega
    have hn2 : (1 : Int) ≤ (n : Int) + 1 := by omega
    have hn3 : ((n : Int) + 1) ≤ (cap : Int) := by omega
    rw [List.length_cons] at hcb
    push_cast at hcb
    have HJ : Hid (JobS w (some ⟨b, off, none⟩) (n + 1) cap (x :: ls)) := h
    have HL0 : Hid (LdB w B l) := hL
    have HP : Hid (∀ p ∈ longs ls, 1 ≤ p ∧ p ≤ 10000) := fun p hp' => hp p (by rw [longs_cons]; exact List.mem_cons_of_mem _ hp')
    have HOK : Hid (LdOk l c) := hok
    have HLen : Hid (l.length = m) := hl
    have HIH : Hid _ := ih
    clear ih h hL hat hok hp hl hne
    go_enter Try.func34, Try.ntmps34
    go_wp2
    go_loopw [5, 6, 7] (fun s i _ wr => ∃ k : Nat, k ≤ m ∧ i = .int .i64 k ∧ s = .int .i64 (bestK (fun k => bestV (longs ls) (addAt l k x.long)) k) ∧ Hid (LdB wr B l) ∧ Hid (But B w wr)) (fun _ i _ _ => m - (intOf i).toNat)
    case atStart => exact ⟨0, by omega, rfl, rfl, HL0.out, But.refl _ _⟩
    case round =>
      obtain ⟨k, hk, rfl, rfl, HL, HB⟩ := hrel
      by_cases hlt : k < m
      · have hlt' : (k : Int) < (m : Int) := by omega
        have hJw := HJ.out.but HB.out (fun b' o s e => by injection e with e; injection e with e1 _ _; omega)
        obtain ⟨b', off', e', hbw', hat'⟩ := hJw.at_ (by omega)
        injection e' with e'
        injection e' with e1 e2 _
        subst e1 e2
        obtain ⟨hc0, hc1, hc2, hc3, hc4, hc5, hc6⟩ := hat'.job (i := 0) (by simp)
        rw [jg_zero, show off + 0 * 7 = off by omega] at hc2
        clear hc0 hc1 hc3 hc4 hc5 hc6 hat'
        have lc := HL.out.cell (k := k) (by rw [HLen.out]; exact hlt)
        have lf := HL.out.free k
        obtain ⟨lo0, lo1⟩ := HOK.out k
        rw [← zg_getD] at lo0 lo1
        obtain ⟨v, hv⟩ : ∃ v, zg l k = v := ⟨_, rfl⟩
        rw [hv] at lc lo0 lo1
        have HV : Hid _ := hv
        clear hv
        go_wp2
        go_region
        have L3 : Hid (LdB (wr.setCell ⟨B, k, none⟩ (.int .i64 (v + x.long))).drew B (addAt l k x.long)) := by
          have := HL.out.add k x.long
          rw [HV.out] at this
          exact this
        have B3 : Hid (But B w (wr.setCell ⟨B, k, none⟩ (.int .i64 (v + x.long))).drew) := (HB.out.setCell k _).drewN 1
        obtain ⟨w3, hw3⟩ : ∃ w3, (wr.setCell ⟨B, k, none⟩ (.int .i64 (v + x.long))).drew = w3 := ⟨_, rfl⟩
        rw [hw3] at L3 B3 ⊢
        clear hw3 lc lf hc2
        have hJ3 := HJ.out.but B3.out (fun b' o s e => by injection e with e; injection e with e1 _ _; omega)
        have hok3 := HOK.out.add (k := k) (p := x.long) (by rw [HLen.out]; exact hlt) (by omega)
        have C3 := HIH.out _ n (cap - 1) B m (addAt l k x.long) (c + 10000) w3 hJ3.rest L3.out (by rw [addAt_len]; exact HLen.out) hm1 hm2 (hok3.mono (by omega)) (by omega) (by omega) HP.out
          (fun _ b' o s e => by split at e <;> (injection e with e; injection e with e1 _ _; omega))
        have HLV : Hid (bestK (fun k => bestV (longs ls) (addAt l k x.long)) (k + 1) = if bestK (fun k => bestV (longs ls) (addAt l k x.long)) k < 0 ∨ bestV (longs ls) (addAt l k x.long) < bestK (fun k => bestV (longs ls) (addAt l k x.long)) k then bestV (longs ls) (addAt l k x.long) else bestK (fun k => bestV (longs ls) (addAt l k x.long)) k) := rfl
        have HLe : Hid ((addAt l k x.long).length = m) := by unfold Hid; rw [addAt_len]; exact HLen.out
        have HOK3 : Hid (LdOk (addAt l k x.long) (c + x.long)) := hok3
        clear hJ3 hok3
        obtain ⟨ad, had⟩ : ∃ ad : Option Addr, (if cap = 1 then some (⟨b, off, none⟩ : Addr) else some ⟨b, off + 7, none⟩) = ad := ⟨_, rfl⟩
        rw [had] at C3
        go_wp2_with (go_at_call 34; refine C3.mono ?_; rintro e w4 ⟨rfl, L4, B4⟩)
        have HB4 : Hid (But B w w4) := B3.out.trans B4
        have HL4 : Hid (LdB w4 B (addAt l k x.long)) := L4
        have hJ4 := HJ.out.but HB4.out (fun b' o s e => by injection e with e; injection e with e1 _ _; omega)
        obtain ⟨b', off', e', hbw4, hat4⟩ := hJ4.at_ (by omega)
        injection e' with e'
        injection e' with e1 e2 _
        subst e1 e2
        obtain ⟨_, _, hd2, _, _, _, _⟩ := hat4.job (i := 0) (by simp)
        rw [jg_zero, show off + 0 * 7 = off by omega] at hd2
        have ld := HL4.out.cell (k := k) (by rw [HLe.out]; exact hlt)
        have lg := HL4.out.free k
        obtain ⟨lp0, lp1⟩ := HOK3.out k
        rw [← zg_getD] at lp0 lp1
        have L5 : Hid (LdB (w4.setCell ⟨B, k, none⟩ (.int .i64 (zg (addAt l k x.long) k - x.long))).drew B l) := HL4.out.sub (by rw [HLen.out]; exact hlt)
        have B5 : Hid (But B w (w4.setCell ⟨B, k, none⟩ (.int .i64 (zg (addAt l k x.long) k - x.long))).drew) := (HB4.out.setCell k _).drewN 1
        obtain ⟨u, hu⟩ : ∃ u, zg (addAt l k x.long) k = u := ⟨_, rfl⟩
        rw [hu] at ld lp0 lp1 L5 B5
        clear hu had L4 B4 hat4 hJ4
        go_region
        obtain ⟨w5, hw5⟩ : ∃ w5, (w4.setCell ⟨B, k, none⟩ (.int .i64 (u - x.long))).drew = w5 := ⟨_, rfl⟩
        rw [hw5] at L5 B5 ⊢
        clear hw5 ld lg hd2
        obtain ⟨bk, hbk⟩ : ∃ bk, bestK (fun k => bestV (longs ls) (addAt l k x.long)) k = bk := ⟨_, rfl⟩
        obtain ⟨nv, hnv⟩ : ∃ nv, bestV (longs ls) (addAt l k x.long) = nv := ⟨_, rfl⟩
        rw [hbk, hnv] at HLV
        rw [hbk, hnv]
        clear hbk hnv
        by_cases c1 : bk < 0
        · have HV5 : Hid (bestK (fun k => bestV (longs ls) (addAt l k x.long)) (k + 1) = nv) := by rw [HLV.out, if_pos (Or.inl c1)]; rfl
          go_wp2
          go_roundw
          case rel => first | exact ⟨k + 1, by omega, by go_num, by rw [HV5.out], L5, B5⟩ | ((repeat apply Exists.intro); exact ⟨⟨k + 1, by omega, by go_num, by rw [HV5.out], L5, B5⟩, rfl⟩)
          case measure => simp [intOf]; omega
        · by_cases c2 : nv < bk
          · have HV5 : Hid (bestK (fun k => bestV (longs ls) (addAt l k x.long)) (k + 1) = nv) := by rw [HLV.out, if_pos (Or.inr c2)]; rfl
            go_wp2
            go_roundw
            case rel => first | exact ⟨k + 1, by omega, by go_num, by rw [HV5.out], L5, B5⟩ | ((repeat apply Exists.intro); exact ⟨⟨k + 1, by omega, by go_num, by rw [HV5.out], L5, B5⟩, rfl⟩)
            case measure => simp [intOf]; omega
          · have HV5 : Hid (bestK (fun k => bestV (longs ls) (addAt l k x.long)) (k + 1) = bk) := by rw [HLV.out, if_neg (by omega)]; rfl
            go_wp2
            go_roundw
            case rel => first | exact ⟨k + 1, by omega, by go_num, by rw [HV5.out], L5, B5⟩ | ((repeat apply Exists.intro); exact ⟨⟨k + 1, by omega, by go_num, by rw [HV5.out], L5, B5⟩, rfl⟩)
            case measure => simp [intOf]; omega
      · have e : k = m := by omega
        subst e
        go_wp2
        go_ret
        exact ⟨by rw [← HLen.out]; rfl, HL.out, HB.out⟩

end Go.Proofs.Ytcomohobkjkhiaa

/- Optimum of the program and of the model. -/
namespace Go.Proofs.Ytcomohobkjkhiaa
open Go.RowKit Go.Sort

/-- are these few enough jobs, for few enough machines -/
noncomputable def optB (ls : List Jb) (m : Int) : Bool := jsB ls && decide (ls.length ≤ 7) && inB m 1 4
noncomputable def optI (ls : List Jb) (m : Int) : Int := if optB ls m = true then optV (longs ls) m.toNat else -1
theorem optB_t {ls : List Jb} {m : Int} (h : optB ls m = true) : JsOk ls ∧ ls.length ≤ 7 ∧ 1 ≤ m ∧ m ≤ 4 := by
  unfold optB inB at h
  simp only [Bool.and_eq_true, decide_eq_true_eq] at h
  exact ⟨jsB_t h.1.1, h.1.2, h.2.1, h.2.2⟩
theorem optI_no {ls : List Jb} {m : Int} (h : ¬ (JsOk ls ∧ ls.length ≤ 7 ∧ 1 ≤ m ∧ m ≤ 4)) : optI ls m = -1 := by
  unfold optI; rw [if_neg (fun h1 => h (optB_t h1))]
theorem optI_yes {ls : List Jb} {m : Nat} (h : JsOk ls) (h1 : ls.length ≤ 7) (h2 : 1 ≤ m) (h3 : m ≤ 4) : optI ls m = bestV (longs ls) (List.replicate m 0) := by
  unfold optI
  rw [if_pos]
  · rfl
  · unfold optB inB
    rw [jsB_mk h]
    simp; omega
theorem opt_least {ls : List Jb} {m : Nat} (h : JsOk ls) (h1 : ls.length ≤ 7) (h2 : 1 ≤ m) (h3 : m ≤ 4) : leastV (longs ls) (List.replicate m 0) = optI ls m := by
  rw [optI_yes h h1 h2 h3]
  have hl := longs_len ls
  exact (least_best (longs ls) (List.replicate m 0) 0 (by simpa using h2) (LdOk.rep m) (Int.le_refl _) (by rw [hl]; omega) (fun p hp => by have := longs_bd h p hp; omega)).1

theorem below_of_but {w w1 w2 w' : World} {B : Nat} (h : Below w.heap.size w w1) (hb : But B w2 w') (hB : w1.heap.size ≤ B) (hx : Below w1.heap.size w1 w2) : Below w.heap.size w w' :=
  (h.then hx h.size).trans (hb.below (by have := h.size; omega) (by have := h.size; have := hx.size; omega))

set_option maxRecDepth 8000 in
set_option maxHeartbeats 4000000 in
theorem implOptimum_any (a : Option Addr) (n cap : Nat) (ls : List Jb) (m : Int) (w : World) (h : JobS w a n cap ls) :
    Calls Try.prog 6 #[.slice a n cap, .int .i64 m] w fun e w' => e = .returned (.int .i64 (optI ls m)) ∧ Below w.heap.size w w' := by
  have hlen := h.len
  have hmx := h.mx
  have hle := h.le
  unfold maxLen at hmx
  rcases hq : shB ls m with _ | _
  · rw [optI_no (fun hh => by have := shB_mk (jsB_mk hh.1) hh.2.2.1 (by omega : m ≤ 10); rw [hq] at this; cases this)]
    go_enter Try.func6, Try.ntmps6
    go_wp2_with (go_at_call 25; refine (shareOk_any a n cap ls m _ h).mono ?_; rw [hq]; rintro e w1 ⟨rfl, hb1⟩)
    go_ret
    exact ⟨rfl, hb1⟩
  · obtain ⟨hjs, hm1, hm2⟩ := shB_t hq
    by_cases hn7 : n ≤ 7
    · have hn7' : ¬ ((7 : Int) < (n : Int)) := by omega
      by_cases hm4 : m ≤ 4
      · have hm4' : ¬ (4 < m) := by omega
        obtain ⟨m, rfl⟩ : ∃ m' : Nat, m = m' := ⟨m.toNat, by omega⟩
        rw [← opt_least hjs (by omega) (by omega) (by omega)]
        have hmk := run_makeM m (by omega)
        have hl := longs_len ls
        have hpb : ∀ p ∈ longs ls, 1 ≤ p ∧ p ≤ 10000 := longs_bd hjs
        have HP : Hid _ := hpb
        have HLS : Hid (ls.length = n) := hlen
        clear hpb hl hlen
        go_enter Try.func6, Try.ntmps6
        go_wp2_with (first
          | (go_at_call 25; refine (shareOk_any a n cap ls m _ h).mono ?_; rw [hq]; rintro e w1 ⟨rfl, hb1⟩
             have bx1 : Below w1.heap.size w1 (w1.alloc (.cells (madeCells #[.int .i64 0] m) 2)) := box_below
             have C2 := leastSpan_any ls a n cap w1.heap.size m (List.replicate m 0) 0 _ ((h.below hb1).below bx1) (LdB.made w1 m) (by simp) (by omega) (by omega) (LdOk.rep m) (Int.le_refl _) (by rw [HLS.out]; omega) HP.out (fun h0 b off s e => by
               obtain ⟨b', off', e', hb', _⟩ := (h.below hb1).at_ h0
               rw [e] at e'; injection e' with e'; injection e' with e1 _ _; omega))
          | (go_at_call 26; refine C2.mono ?_; rintro e w2 ⟨rfl, _, B2⟩))
        go_ret
        exact ⟨rfl, below_of_but hb1 B2 (Nat.le_refl _) bx1⟩
      · have hm4' : 4 < m := by omega
        rw [optI_no (fun hh => by omega)]
        go_enter Try.func6, Try.ntmps6
        go_wp2_with (go_at_call 25; refine (shareOk_any a n cap ls m _ h).mono ?_; rw [hq]; rintro e w1 ⟨rfl, hb1⟩)
        go_ret
        exact ⟨rfl, hb1⟩
    · have hn7' : (7 : Int) < (n : Int) := by omega
      rw [optI_no (fun hh => by omega)]
      go_enter Try.func6, Try.ntmps6
      go_wp2_with (go_at_call 25; refine (shareOk_any a n cap ls m _ h).mono ?_; rw [hq]; rintro e w1 ⟨rfl, hb1⟩)
      go_ret
      exact ⟨rfl, hb1⟩

theorem specOptimum_no (a : Option Addr) (n cap : Nat) (ls : List Jb) (m : Int) (w : World) (h : JobS w a n cap ls) (hq : ¬ (JsOk ls ∧ ls.length ≤ 7 ∧ 1 ≤ m ∧ m ≤ 4)) :
    Calls Try.prog 11 #[.slice a n cap, .int .i64 m] w fun e w' => e = .returned (.int .i64 (-1)) ∧ Below w.heap.size w w' := by
  have hlen := h.len
  rcases hj : jsB ls with _ | _
  · go_enter Try.func11, Try.ntmps11
    go_wp2_with (go_at_call 32; refine (specJobsOk_any a n cap ls _ h).mono ?_; rw [hj]; rintro e w1 ⟨rfl, hb1⟩)
    go_ret
    exact ⟨rfl, hb1⟩
  · have hjs := jsB_t hj
    by_cases hn7 : n ≤ 7
    · have hn7' : ¬ ((7 : Int) < (n : Int)) := by omega
      have hin : inB m 1 4 = false := by unfold inB; simp; intro h1; have : ¬ (m ≤ 4) := fun h2 => hq ⟨hjs, by omega, h1, h2⟩; omega
      go_enter Try.func11, Try.ntmps11
      go_wp2_with (first
        | (go_at_call 32; refine (specJobsOk_any a n cap ls _ h).mono ?_; rw [hj]; rintro e w1 ⟨rfl, hb1⟩)
        | (go_at_call 33; refine (l1In_any _ _ _ _).mono ?_; rw [hin]; rintro e w2 ⟨rfl, rfl⟩))
      go_ret
      exact ⟨rfl, hb1⟩
    · have hn7' : (7 : Int) < (n : Int) := by omega
      go_enter Try.func11, Try.ntmps11
      go_wp2_with (go_at_call 32; refine (specJobsOk_any a n cap ls _ h).mono ?_; rw [hj]; rintro e w1 ⟨rfl, hb1⟩)
      go_ret
      exact ⟨rfl, hb1⟩

set_option maxRecDepth 8000 in
set_option maxHeartbeats 4000000 in
theorem specOptimum_any (a : Option Addr) (n cap : Nat) (ls : List Jb) (m : Int) (w : World) (h : JobS w a n cap ls) :
    Calls Try.prog 11 #[.slice a n cap, .int .i64 m] w fun e w' => e = .returned (.int .i64 (optI ls m)) ∧ Below w.heap.size w w' := by
  have hlen := h.len
  have hmx := h.mx
  have hle := h.le
  unfold maxLen at hmx
  by_cases hq : JsOk ls ∧ ls.length ≤ 7 ∧ 1 ≤ m ∧ m ≤ 4
  · obtain ⟨hjs, hn7, hm1, hm4⟩ := hq
    have hjq := jsB_mk hjs
    have hn7' : ¬ ((7 : Int) < (n : Int)) := by omega
    have hin : inB m 1 4 = true := by unfold inB; simp; omega
    obtain ⟨m, rfl⟩ : ∃ m' : Nat, m = m' := ⟨m.toNat, by omega⟩
    rw [optI_yes hjs hn7 (by omega) (by omega)]
    have hmk := run_makeM m (by omega)
    have hpb : ∀ p ∈ longs ls, 1 ≤ p ∧ p ≤ 10000 := longs_bd hjs
    have HP : Hid _ := hpb
    have HLS : Hid (ls.length = n) := hlen
    clear hpb hlen
    go_enter Try.func11, Try.ntmps11
    go_wp2_with (first
      | (go_at_call 32; refine (specJobsOk_any a n cap ls _ h).mono ?_; rw [hjq]; rintro e w0 ⟨rfl, hb1⟩)
      | (go_at_call 33; refine (l1In_any _ _ _ _).mono ?_; rw [hin]; rintro e w1 ⟨rfl, rfl⟩
         have bx1 : Below w1.heap.size w1 (w1.alloc (.cells (madeCells #[.int .i64 0] m) 2)) := box_below
         have C2 := l6Best_any ls a n cap w1.heap.size m (List.replicate m 0) 0 _ ((h.below hb1).below bx1) (LdB.made w1 m) (by simp) (by omega) (by omega) (LdOk.rep m) (Int.le_refl _) (by rw [HLS.out]; omega) HP.out (fun h0 b off s e => by
           obtain ⟨b', off', e', hb', _⟩ := (h.below hb1).at_ h0
           rw [e] at e'; injection e' with e'; injection e' with e1 _ _; omega))
      | (go_at_call 34; refine C2.mono ?_; rintro e w2 ⟨rfl, _, B2⟩))
    go_ret
    exact ⟨rfl, below_of_but hb1 B2 (Nat.le_refl _) bx1⟩
  · rw [optI_no hq]
    exact specOptimum_no a n cap ls m w h hq

end Go.Proofs.Ytcomohobkjkhiaa
