/- Earliest of the program. -/
import Derived.Test.YtmaojjjdepgaeaaHpIJ
import Derived.Test.YtmaojjjdepgaeaaTaskBy
import Derived.Test.YtmaojjjdepgaeaaEars
import Derived.Test.YtmaojjjdepgaeaaLInt
namespace Go.Proofs.Ytmaojjjdepgaeaa
open Go.RowKit Go.Sort Go.Shelf

theorem jg_hd (x : Jb) (ls : List Jb) : jg (x :: ls) 0 = x := rfl
theorem jg_tl (x : Jb) (ls : List Jb) (i : Nat) : jg (x :: ls) (i + 1) = jg ls i := by simp [jg]
/-- all but the first -/
theorem JobS.tail_ {w : World} {b off n cap : Nat} {x : Jb} {ls : List Jb} (h : JobS w (some ⟨b, off, none⟩) (n + 1) cap (x :: ls)) : JobS w (if cap = 1 then some ⟨b, off, none⟩ else some ⟨b, off + 7, none⟩) n (cap - 1) ls := by
  have hl := h.len
  have hle := h.le
  have hmx := h.mx
  refine ⟨by simpa using hl, by omega, by omega, fun e => (by split at e <;> cases e), fun i hi => ?_, fun hn => ?_⟩
  · rw [← jg_tl x]; exact h.wf (i + 1) (by omega)
  · obtain ⟨b', off', e, hb, hat⟩ := h.at_ (by omega)
    injection e with e
    injection e with e1 e2 _
    subst e1 e2
    refine ⟨b, off + 7, if_neg (by omega), hb, fun i hi c hc => ?_⟩
    have := hat (i + 1) (by simpa using hi) c hc
    rw [jg_tl, show off + (i + 1) * 7 + c = off + 7 + i * 7 + c by omega] at this
    exact this
theorem earM_bd {ls : List Jb} (h : TsOk ls) : earM ls 0 ≤ 800 := by
  have h1 : ∀ k, k ≤ ls.length → sumN (fun i => (jg ls i).long) k ≤ 50 * (k : Int) := fun k => by
    induction k with
    | zero => intro _; exact Int.le_refl _
    | succ k ih =>
      intro hk
      have := ih (by omega)
      have hb := h.bd (i := k) (by omega)
      rw [show sumN (fun i => (jg ls i).long) (k + 1) = sumN (fun i => (jg ls i).long) k + (jg ls k).long from rfl]
      push_cast; omega
  have h2 := h1 ls.length (Nat.le_refl _)
  have h3 := h.n
  unfold earM
  rw [sumT_0]
  omega
/-- the row of what is told, beside the heap -/
structure WkR (w : World) (P g uc t : Nat) (a : Option Addr) (zs : List Int) : Prop where
  own : w.ownsRow P 2 1 (.slice (some ⟨g, 0, none⟩) t uc) t (zs.map (Value.int .i64))
  neP : g ≠ P
  neA : ∀ g', a = some ⟨g', 0, none⟩ → g ≠ g'
theorem WkR.turn {w w' : World} {P g uc t : Nat} {a a' : Option Addr} {zs : List Int} (h : WkR w P g uc t a zs) (T : Turn w w' P a a') : WkR w' P g uc t a' zs := by
  have hl := h.own.lt g rfl
  refine ⟨ownI_keep h.own (T.block g hl.2 h.neP h.neA), h.neP, fun g' e => ?_⟩
  rcases T.row with e2 | ⟨g2, e2, h2⟩
  · exact h.neA g' (e2 ▸ e)
  · rw [e2] at e; injection e with e; injection e with e _ _; omega

/-- behind an hour: who is open, where the heap lies -/
def ErD (w w' : World) (ls C : List Jb) (P bo bn t : Nat) (a : Option Addr) : Prop := ∃ a' cap' G, HpW w' P P bo bn a' cap' G ∧ IsHp G G.length ∧ EU ls (t + 1) G C ∧ Turn w w' P a a'
theorem er_work {w : World} {ls C H : List Jb} {P bo bn t cap : Nat} {a : Option Addr} (ho : TsOk ls) (h : HpW w P P bo bn a cap H) (hs : IsHp H H.length) (hE : EU ls t H C) (hc : ∀ j ∈ C, (t : Int) < j.at_) (hn : ls.length ≤ 12) :
    Calls Try.prog 80 #[.pointer (some ⟨P, 0, none⟩)] w fun e w' => e = .returned (.int .i64 (outT ls t)) ∧ Hid (ErD w w' ls C P bo bn t a) := by
  have hlen := hE.len
  by_cases hH : H = []
  · subst hH
    obtain ⟨hb, hE2⟩ := hE.idle ho hc
    refine (workedAt_none P P bo bn cap a w h).mono ?_
    rintro e w' ⟨rfl, rfl⟩
    exact ⟨by rw [outT_none hb], a, cap, [], h, hs, hE2, Turn.refl _ _ _⟩
  · have h0 : 0 < H.length := List.length_pos_iff.2 hH
    obtain ⟨g, rfl⟩ := h.some_of h0
    have hroot := hs.root
    have hall : ∀ j ∈ H, mle (mg H 0) j := fun j hj => by
      obtain ⟨i, hi, rfl⟩ := List.getElem_of_mem hj
      rw [← mg_get hi]; exact hroot i hi
    have hbd : 1 ≤ (mg H 0).long ∧ (mg H 0).long ≤ 50 := by
      cases H with
      | nil => exact absurd rfl hH
      | cons y r =>
        have := hE.work (r := r) (f := y) ho hc (List.Perm.refl _) hall
        exact ⟨this.1, this.2.1⟩
    refine (workedAt_some P P bo bn g cap (H.length - 1) H w h (by have := h.ltP; omega) (by omega) (by omega) hs (by omega) (by omega)).mono ?_
    rintro e w' ⟨rfl, g', cap', zs, r, H2, hp, hz1, hz2, hs2, T2⟩
    obtain ⟨_, _, ho2, k1, k2⟩ := hE.work ho hc hp hall
    refine ⟨by rw [ho2], some ⟨g', 0, none⟩, cap', zs, H2, hs2, ?_, T2⟩
    by_cases hl : 0 < (mg H 0).long - 1
    · exact k1 zs hl (hz1 hl)
    · exact k2 zs hl (hz2 hl)
theorem er_done {wv w3 w4 : World} {P bo bn g uc t cap : Nat} {a : Option Addr} {G : List Jb} {zs : List Int} {V : Int} {v4 : Value} {o : Obj} (h : HpW wv P P bo bn a cap G) (hw : WkR wv P g uc t a zs) (hb : Below w3.heap.size w3 wv) (hP : w3.heap.size ≤ P)
    (own4 : w4.ownsRow P 2 1 v4 (t + 1) (zs.map (Value.int .i64) ++ [.int .i64 V])) (grow4 : (wv.alloc o).grownBy w4 (Value.slice (some ⟨g, 0, none⟩) t uc).ownBlock) (at4 : v4.ownBlock = (Value.slice (some ⟨g, 0, none⟩) t uc).ownBlock ∨ v4.ownBlock = some (wv.heap.size + 1)) :
    ∃ g4 c4, v4 = .slice (some ⟨g4, 0, none⟩) (t + 1) c4 ∧ HpW w4 P P bo bn a cap G ∧ WkR w4 P g4 c4 (t + 1) a (zs ++ [V]) ∧ Below w3.heap.size w3 w4 := by
  obtain ⟨g4, c4, rfl⟩ := own_form own4 (by omega)
  have hPl := h.ltP
  have hneP := hw.neP
  have hgl := hw.own.lt g rfl
  have hbz := hb.size
  have za : (wv.alloc o).heap.size = wv.heap.size + 1 := by simp
  have hg4 : g4 = g ∨ g4 = wv.heap.size + 1 := by
    rcases at4 with e | e
    · exact Or.inl (Option.some.inj e)
    · exact Or.inr (Option.some.inj e)
  have hk : ∀ k, k < wv.heap.size → k ≠ g → w4.heap[k]? = wv.heap[k]? := fun k h0 h1 => (grow4.block k (by omega) (by simpa [Value.ownBlock] using h1)).trans (Below.heap_alloc _ _ _ h0)
  refine ⟨g4, c4, rfl, h.keep (hk P hPl (Ne.symm hw.neP)) (fun g' e => ?_) (fun k h0 => ?_), ⟨by rw [List.map_append]; exact own4, ?_, fun g' e => ?_⟩, ⟨grow4.os.trans hb.os, grow4.tape.trans hb.tape, grow4.output.trans hb.output, by have := grow4.size; omega, fun k h0 => (hk k (by omega) (by omega)).trans (hb.block k h0)⟩⟩
  · have := hw.neA g' e
    subst e
    exact hk g' h.ltg.2 (Ne.symm this)
  · exact hk k (by omega) (by omega)
  · rcases hg4 with e | e
    · rw [e]; exact hw.neP
    · omega
  · have h1 := hw.neA g' e
    have h2 : g' < wv.heap.size := by subst e; exact h.ltg.2
    rcases hg4 with e2 | e2 <;> omega

def sliceLen : Value → Nat
  | .slice _ n _ => n
  | _ => 0

set_option maxRecDepth 8000 in
set_option maxHeartbeats 4000000 in
theorem implEarliest_any (a : Option Addr) (n cap : Nat) (ls : List Jb) (w : World) (h : JobS w a n cap ls) :
    Calls Try.prog 30 #[.slice a n cap] w fun e w' => ∃ v c zs, e = .returned (.slice v zs.length c) ∧ IsEar ls zs ∧ LInt w' w.heap.size v zs.length c zs ∧ Below w.heap.size w w' := by
  rcases hq : tsB ls with _ | _
  · go_enter Try.func30, Try.ntmps30
    go_wp2_with (go_at_call 39; refine (implTasksOk_any _ _ _ _ _ h).mono ?_; rw [hq]; rintro e w1 ⟨rfl, hb1⟩)
    go_ret
    exact ⟨none, 0, [], rfl, Or.inl ⟨hq, rfl⟩, ⟨rfl, Or.inl ⟨rfl, rfl, rfl⟩⟩, hb1⟩
  have ho := tsB_t hq
  have hlen := h.len
  have hn := ho.n
  have HQ : Hid _ := hq
  obtain ⟨i1, hj, hj0, hj1, hj2⟩ := info_parts infoI
  clear hq
  go_enter Try.func30, Try.ntmps30
  go_wp2_with (first
    | (go_at_call 39; refine (implTasksOk_any _ _ _ _ _ h).mono ?_; rw [HQ.out]; rintro e w1 ⟨rfl, hb1⟩)
    | (go_at_call 73; refine (sortedAt_any _ _ _ _ _ (h.below hb1) ho).mono ?_; rintro e w3 ⟨B1, ys, rfl, hB1, hp1, hl1, hs1, hJ1, hb3⟩)
    | (go_at_call 76; refine (then_make _ _ _).mono ?_; rintro e w4 ⟨rfl, rfl⟩))
  have e0 : ((w3.alloc (.cells #[.func (.func 74) #[] #[]] 78)).alloc (.cells #[.func (.func 77) #[] #[]] 78)).alloc (.cells #[.func (.func 103) #[] #[.pointer (some ⟨w3.heap.size, 0, none⟩), .pointer (some ⟨w3.heap.size + 1, 0, none⟩)], .slice none 0 0] 82) = openW w3 := rfl
  rw [e0]
  clear e0
  have z0 := open_size w3
  obtain ⟨W0, hW0⟩ : ∃ W0, W0 = (openW w3).alloc (.cells #[] 2) := ⟨_, rfl⟩
  have JY : Hid (JobS w3 (some ⟨B1, 0, none⟩) n n ys) := hJ1.toS hl1 (by omega) (fun i hi => by
    obtain ⟨j, hj, e⟩ := jg_mem hp1 (i := i) (by omega)
    rw [← e]; exact h.wf j (by omega))
  have HU0 : Hid (EU ls 0 [] ys) := EU.start ho hp1 (by
    rw [List.pairwise_iff_getElem]
    intro i j hi hj hij
    have := hs1 i j (by omega) hj
    rwa [jg_get hi, jg_get hj] at this)
  have HH0 : Hid (HpW W0 (w3.heap.size + 2) (w3.heap.size + 2) w3.heap.size (w3.heap.size + 1) none 0 []) := by rw [hW0]; exact (open_start w3).below box_below0
  have HB0 : Hid (Below w3.heap.size w3 W0) := by rw [hW0]; exact (open_below w3).alloc (by rw [z0]; omega) _
  have HW0 : Hid (WkR W0 (w3.heap.size + 2) (w3.heap.size + 3) 0 0 none (earL ls 0)) := by
    refine ⟨?_, by omega, fun g' e => by cases e⟩
    have := World.ownsRow_made (base := w3.heap.size + 2) (e := 2) (size := 1) (openW w3) #[] 0 (by rw [z0]; omega) (Nat.zero_le _) rfl
    rw [z0] at this
    rw [hW0]; exact this
  have HUP : Hid (Below w.heap.size w w3) := hb1.then hb3 hb1.size
  have hz31 : w.heap.size ≤ w3.heap.size := HUP.out.size
  clear hJ1 hp1 hs1 hb3
  go_wp2
  rw [← hW0]
  clear hW0 z0
  go_loopw [3, 5, 6] (fun s u q wr => ∃ (t : Nat) (ad : Option Addr) (m cc : Nat) (C H : List Jb) (a : Option Addr) (cap g uc : Nat), s = .slice ad m cc ∧ u = .slice (some ⟨g, 0, none⟩) t uc ∧ q = .int .i64 t ∧ Hid (JobS w3 ad m cc C) ∧ Hid (HpW wr (w3.heap.size + 2) (w3.heap.size + 2) w3.heap.size (w3.heap.size + 1) a cap H) ∧ Hid (IsHp H H.length) ∧ Hid (EU ls t H C) ∧ Hid (WkR wr (w3.heap.size + 2) g uc t a (earL ls t)) ∧ Hid (Below w3.heap.size w3 wr) ∧ Hid (∀ s, s < t → 0 < sumT ls s)) (fun _ _ q _ => earM ls (intOf q).toNat)
  case atStart => exact ⟨0, _, n, n, ys, [], none, 0, w3.heap.size + 3, 0, rfl, rfl, rfl, JY.out, HH0.out, (fun c _ h => absurd h (by simp)), HU0.out, HW0.out, HB0.out, fun s hs => by omega⟩
  case round =>
    obtain ⟨t, ad, m, cc, C, H, ah, caph, g, uc, rfl, rfl, rfl, HC, HH, HS, HE, HW, HB, HT⟩ := hrel
    rename World => wr
    have hCl := HC.out.len
    have hHl := HE.out.len
    have hte := earM_all ho t HT.out
    have htb := earM_bd ho
    have ht : t ≤ 800 := by omega
    clear hte htb
    have HT1 : 0 < sumT ls t → Hid (∀ s, s < t + 1 → 0 < sumT ls s) := fun hp s hs => by
      by_cases e : s = t
      · subst e; exact hp
      · exact HT.out s (by omega)
    have HT1 : 0 < sumT ls t → Hid (∀ s, s < t + 1 → 0 < sumT ls s) := fun hp s hs => by
      by_cases e : s = t
      · subst e; exact hp
      · exact HT.out s (by omega)
    have HT1 : 0 < sumT ls t → Hid (∀ s, s < t + 1 → 0 < sumT ls s) := fun hp s hs => by
      by_cases e : s = t
      · subst e; exact hp
      · exact HT.out s (by omega)
    by_cases hm : 0 < m
    · have hm' : ((0 : Nat) : Int) < (m : Int) := by omega
      have HP : Hid (0 < sumT ls t) := HE.out.left ho (Or.inr (by intro e; subst e; simp at hCl; omega))
      have HT1 := HT1 HP.out
      go_wp2
      go_loopw [3] (fun s wi => ∃ (ad : Option Addr) (m cc : Nat) (C H : List Jb) (a : Option Addr) (cap : Nat), s = .slice ad m cc ∧ Hid (JobS w3 ad m cc C) ∧ Hid (HpW wi (w3.heap.size + 2) (w3.heap.size + 2) w3.heap.size (w3.heap.size + 1) a cap H) ∧ Hid (IsHp H H.length) ∧ Hid (EU ls t H C) ∧ Hid (WkR wi (w3.heap.size + 2) g uc t a (earL ls t)) ∧ Hid (Below w3.heap.size w3 wi)) (fun s _ => sliceLen s)
      case atStart => exact ⟨ad, m, cc, C, H, ah, caph, rfl, HC.out, HH.out, HS.out, HE.out, HW.out, HB.out⟩
      case round =>
        clear HC HH HS HE HW HB hm hm' hCl hHl
        obtain ⟨ad, m, cc, C, H, ah, caph, rfl, HC, HH, HS, HE, HW, HB⟩ := hrel
        rename World => wi
        have hCl := HC.out.len
        have hHl := HE.out.len
        have hPl := HH.out.ltP
        by_cases hm : ∃ x C', C = x :: C' ∧ x.at_ ≤ t
        · obtain ⟨x, C', rfl, hxt⟩ := hm
          obtain rfl : m = C'.length + 1 := by rw [← hCl]; rfl
          clear hCl
          obtain ⟨b, off, rfl, hbw, hat⟩ := HC.out.at_ (by omega)
          obtain ⟨hc0, hc1, hc2, hc3, hc4, hc5, hc6⟩ := (hat.below HB.out hbw).job (i := 0) (by simp)
          clear hat
          rw [jg_hd] at hc0 hc1 hc2 hc3 hc4 hc5 hc6
          rw [show off + 0 * 7 = off by omega] at hc0 hc1 hc2 hc3 hc4 hc5 hc6
          have HCt := HC.out.tail_
          obtain ⟨ad2, had⟩ : ∃ ad2 : Option Addr, (if cc = 1 then some (⟨b, off, none⟩ : Addr) else some ⟨b, off + 7, none⟩) = ad2 := ⟨_, rfl⟩
          rw [had] at HCt
          have HCt' : Hid _ := HCt
          have hlc : ((0 : Nat) : Int) < ((C'.length + 1 : Nat) : Int) := by omega
          have hle := HC.out.le
          have hmx := HC.out.mx
          have CQ := heapPush_any (w3.heap.size + 2) (w3.heap.size + 2) w3.heap.size (w3.heap.size + 1) caph ah H x wi HH.out (by omega) (by omega) HS.out
          clear HCt
          go_wp2_with (go_at_call 79; refine CQ.mono ?_; rintro e w5 ⟨rfl, g5, c5, zs, H5, hp5, hs5, T5⟩)
          have HH5 : Hid _ := H5
          have HS5 : Hid _ := hs5
          have HE5 : Hid _ := HE.out.push hxt hp5
          have HW5 : Hid _ := HW.out.turn T5
          have HB5 : Hid (Below w3.heap.size w3 w5) := HB.out.trans ((HH.out.turnB T5).mono (by omega))
          clear H5 hp5 hs5 T5 CQ
          go_roundw
          case rel => first | exact ⟨ad2, C'.length, cc - 1, C', zs, _, c5, rfl, HCt'.out, HH5.out, HS5.out, HE5.out, HW5.out, HB5.out⟩ | exact ⟨ad2, C'.length, cc - 1, C', zs, _, c5, by first | rfl | (congr 1 <;> omega) | (simp; done), HCt'.out, HH5.out, HS5.out, HE5.out, HW5.out, HB5.out⟩
          case measure => simp [sliceLen]
        · have hnx : ∀ j ∈ C, (t : Int) < j.at_ := HE.out.next (fun x hx hxt => hm ⟨x, C.tail, by cases C with | nil => cases hx | cons y r => (injection hx with hx; subst hx; rfl), hxt⟩)
          obtain ⟨V, hV⟩ : ∃ V, V = outT ls t := ⟨_, rfl⟩
          have CW : Calls Try.prog 80 #[.pointer (some ⟨w3.heap.size + 2, 0, none⟩)] wi fun e w' => e = .returned (.int .i64 V) ∧ Hid (ErD wi w' ls C (w3.heap.size + 2) w3.heap.size (w3.heap.size + 1) t ah) := by
            rw [hV]; exact er_work ho HH.out HS.out HE.out hnx hn
          have HV : Hid _ := hV
          clear hV
          by_cases hm0 : m = 0
          · subst hm0
            go_wp2_with (first
              | (go_at_call 80; refine CW.mono ?_; rintro e w5 ⟨rfl, HD5⟩
                 obtain ⟨a5, cap5, G, H5, hs5, hE5, T5⟩ := HD5.out
                 have HW5 : Hid _ := HW.out.turn T5
                 have HB5 : Hid (Below w3.heap.size w3 w5) := HB.out.trans ((HH.out.turnB T5).mono (by omega))
                 have HH5 : Hid _ := H5
                 have HS5 : Hid _ := hs5
                 have HE5 : Hid _ := hE5
                 have hz5 := HB5.out.size
                 have hz6 : w3.heap.size + 2 ≤ w5.heap.size := by have := T5.size; omega
                 have hgr : (w5.alloc (.cells #[.int .i64 V] 2)).ownsRow (w3.heap.size + 2) 2 1 (.slice (some ⟨g, 0, none⟩) t uc) t ((earL ls t).map (Value.int .i64)) := HW5.out.own.alloc _
                 clear H5 hs5 hE5 T5 CW)
              | (at_builtin; refine wpList_append_own_at _ rfl (.tmp 46) (.tmp 49) 28 rfl (w3.heap.size + 2) 2 i1 (.int .i64 0) 1 8 Try.underlying28 hj hj0 hj1 hj2 rfl (by decide) _ _ _ rfl hgr ⟨w5.heap.size, 0, none⟩ 1 1 [.int .i64 V] rfl rfl (own_one _ _ _) (by intro u hu; simp at hu; subst hu; rfl) (by unfold maxLen; omega) (by omega) (by simp; omega) ?_))
            intro v6 w6 own6 grow6 nil6 at6
            obtain ⟨g6, c6, rfl, H6, W6, B6⟩ := er_done HH5.out HW5.out HB5.out (by omega) own6 grow6 at6
            have HH6 : Hid _ := H6
            have HW6 : Hid (WkR w6 (w3.heap.size + 2) g6 c6 (t + 1) a5 (earL ls (t + 1))) := by
              unfold Hid; rw [earL_succ, ← HV.out]; exact W6
            have HB6 : Hid _ := B6
            clear own6 grow6 nil6 at6 hgr H6 W6 B6
            go_wp2
            go_roundw
            case rel => first | exact ⟨t + 1, ad, 0, cc, C, G, a5, cap5, g6, c6, rfl, rfl, by go_num, HC.out, HH6.out, HS5.out, HE5.out, HW6.out, HB6.out, HT1.out⟩ | ((repeat apply Exists.intro); exact ⟨⟨t + 1, ad, 0, cc, C, G, a5, cap5, g6, c6, rfl, rfl, by go_num, HC.out, HH6.out, HS5.out, HE5.out, HW6.out, HB6.out, HT1.out⟩, rfl⟩)
            case measure =>
              have e1 : (intOf (Value.int .i64 ((t : Int) + 1))).toNat = t + 1 := by show ((t : Int) + 1).toNat = t + 1; omega
              have e2 : (intOf (Value.int .i64 (t : Int))).toNat = t := by show (t : Int).toNat = t; omega
              first
                | (show earM ls (intOf (Value.int .i64 ((t : Int) + 1))).toNat < earM ls (intOf (Value.int .i64 (t : Int))).toNat; rw [e1, e2]; exact earM_step ho HP.out)
                | (simp only [e1, e2]; exact earM_step ho HP.out)
          · have hm1 : ((0 : Nat) : Int) < (m : Int) := by omega
            obtain ⟨x, C', hx⟩ : ∃ x C', C = x :: C' := by
              cases C with
              | nil => simp at hCl; omega
              | cons x C' => exact ⟨x, C', rfl⟩
            have hxt : ¬ x.at_ ≤ (t : Int) := by have := hnx x (by rw [hx]; exact List.mem_cons_self); omega
            obtain ⟨b, off, rfl, hbw, hat⟩ := HC.out.at_ (by omega)
            obtain ⟨_, _, _, _, _, _, hc6⟩ := (hat.below HB.out hbw).job (i := 0) (by omega)
            clear hat
            rw [hx, jg_hd, show off + 0 * 7 = off by omega] at hc6
            clear hx hm
            go_wp2_with (first
              | (go_at_call 80; refine CW.mono ?_; rintro e w5 ⟨rfl, HD5⟩
                 obtain ⟨a5, cap5, G, H5, hs5, hE5, T5⟩ := HD5.out
                 have HW5 : Hid _ := HW.out.turn T5
                 have HB5 : Hid (Below w3.heap.size w3 w5) := HB.out.trans ((HH.out.turnB T5).mono (by omega))
                 have HH5 : Hid _ := H5
                 have HS5 : Hid _ := hs5
                 have HE5 : Hid _ := hE5
                 have hz5 := HB5.out.size
                 have hz6 : w3.heap.size + 2 ≤ w5.heap.size := by have := T5.size; omega
                 have hgr : (w5.alloc (.cells #[.int .i64 V] 2)).ownsRow (w3.heap.size + 2) 2 1 (.slice (some ⟨g, 0, none⟩) t uc) t ((earL ls t).map (Value.int .i64)) := HW5.out.own.alloc _
                 clear H5 hs5 hE5 T5 CW)
              | (at_builtin; refine wpList_append_own_at _ rfl (.tmp 46) (.tmp 49) 28 rfl (w3.heap.size + 2) 2 i1 (.int .i64 0) 1 8 Try.underlying28 hj hj0 hj1 hj2 rfl (by decide) _ _ _ rfl hgr ⟨w5.heap.size, 0, none⟩ 1 1 [.int .i64 V] rfl rfl (own_one _ _ _) (by intro u hu; simp at hu; subst hu; rfl) (by unfold maxLen; omega) (by omega) (by simp; omega) ?_))
            intro v6 w6 own6 grow6 nil6 at6
            obtain ⟨g6, c6, rfl, H6, W6, B6⟩ := er_done HH5.out HW5.out HB5.out (by omega) own6 grow6 at6
            have HH6 : Hid _ := H6
            have HW6 : Hid (WkR w6 (w3.heap.size + 2) g6 c6 (t + 1) a5 (earL ls (t + 1))) := by
              unfold Hid; rw [earL_succ, ← HV.out]; exact W6
            have HB6 : Hid _ := B6
            clear own6 grow6 nil6 at6 hgr H6 W6 B6
            go_wp2
            go_roundw
            case rel => first | exact ⟨t + 1, some ⟨b, off, none⟩, m, cc, C, G, a5, cap5, g6, c6, rfl, rfl, by go_num, HC.out, HH6.out, HS5.out, HE5.out, HW6.out, HB6.out, HT1.out⟩ | ((repeat apply Exists.intro); exact ⟨⟨t + 1, some ⟨b, off, none⟩, m, cc, C, G, a5, cap5, g6, c6, rfl, rfl, by go_num, HC.out, HH6.out, HS5.out, HE5.out, HW6.out, HB6.out, HT1.out⟩, rfl⟩)
            case measure =>
              have e1 : (intOf (Value.int .i64 ((t : Int) + 1))).toNat = t + 1 := by show ((t : Int) + 1).toNat = t + 1; omega
              have e2 : (intOf (Value.int .i64 (t : Int))).toNat = t := by show (t : Int).toNat = t; omega
              first
                | (show earM ls (intOf (Value.int .i64 ((t : Int) + 1))).toNat < earM ls (intOf (Value.int .i64 (t : Int))).toNat; rw [e1, e2]; exact earM_step ho HP.out)
                | (simp only [e1, e2]; exact earM_step ho HP.out)
    · have hm0 : m = 0 := by omega
      subst hm0
      have hC0 : C = [] := List.eq_nil_of_length_eq_zero hCl
      have CL := lenH_any _ _ _ _ _ _ _ _ HH.out
      by_cases hH : H = []
      · have HZ : Hid (sumT ls t = 0) := by
          have := HE.out
          rw [hC0, hH] at this
          exact this.done ho
        rw [hH] at CL
        have HL : Hid (LInt wr w.heap.size (some ⟨g, 0, none⟩) (earL ls t).length uc (earL ls t)) := (LInt.own (by rw [earL_len]; exact HW.out.own)).low (by omega)
        have HR : Hid (IsEar ls (earL ls t)) := Or.inr ⟨HQ.out, t, HT.out, HZ.out, rfl⟩
        clear HT1
        go_wp2_with (go_at_call 78; refine CL.mono ?_; rintro e w5 ⟨rfl, rfl⟩)
        go_ret
        exact ⟨some ⟨g, 0, none⟩, uc, earL ls t, by rw [earL_len]; rfl, HR.out, HL.out, HUP.out.then HB.out HUP.out.size⟩
      · have hHp : 0 < H.length := List.length_pos_iff.2 hH
        have hHp' : ((0 : Nat) : Int) < (H.length : Int) := by omega
        have HP : Hid (0 < sumT ls t) := HE.out.left ho (Or.inl hH)
        have HT1 := HT1 HP.out
        clear hm
        go_wp2_with (go_at_call 78; refine CL.mono ?_; rintro e w5 ⟨rfl, rfl⟩)
        go_loopw [3] (fun s wi => ∃ (ad : Option Addr) (m cc : Nat) (C H : List Jb) (a : Option Addr) (cap : Nat), s = .slice ad m cc ∧ Hid (JobS w3 ad m cc C) ∧ Hid (HpW wi (w3.heap.size + 2) (w3.heap.size + 2) w3.heap.size (w3.heap.size + 1) a cap H) ∧ Hid (IsHp H H.length) ∧ Hid (EU ls t H C) ∧ Hid (WkR wi (w3.heap.size + 2) g uc t a (earL ls t)) ∧ Hid (Below w3.heap.size w3 wi)) (fun s _ => sliceLen s)
        case atStart => exact ⟨ad, 0, cc, C, H, ah, caph, rfl, HC.out, HH.out, HS.out, HE.out, HW.out, HB.out⟩
        case round =>
          clear HC HH HS HE HW HB hCl hHl hC0 CL hH hHp hHp'
          obtain ⟨ad, m, cc, C, H, ah, caph, rfl, HC, HH, HS, HE, HW, HB⟩ := hrel
          rename World => wi
          have hCl := HC.out.len
          have hHl := HE.out.len
          have hPl := HH.out.ltP
          by_cases hm : ∃ x C', C = x :: C' ∧ x.at_ ≤ t
          · obtain ⟨x, C', rfl, hxt⟩ := hm
            obtain rfl : m = C'.length + 1 := by rw [← hCl]; rfl
            clear hCl
            obtain ⟨b, off, rfl, hbw, hat⟩ := HC.out.at_ (by omega)
            obtain ⟨hc0, hc1, hc2, hc3, hc4, hc5, hc6⟩ := (hat.below HB.out hbw).job (i := 0) (by simp)
            clear hat
            rw [jg_hd] at hc0 hc1 hc2 hc3 hc4 hc5 hc6
            rw [show off + 0 * 7 = off by omega] at hc0 hc1 hc2 hc3 hc4 hc5 hc6
            have HCt := HC.out.tail_
            obtain ⟨ad2, had⟩ : ∃ ad2 : Option Addr, (if cc = 1 then some (⟨b, off, none⟩ : Addr) else some ⟨b, off + 7, none⟩) = ad2 := ⟨_, rfl⟩
            rw [had] at HCt
            have HCt' : Hid _ := HCt
            have hlc : ((0 : Nat) : Int) < ((C'.length + 1 : Nat) : Int) := by omega
            have hle := HC.out.le
            have hmx := HC.out.mx
            have CQ := heapPush_any (w3.heap.size + 2) (w3.heap.size + 2) w3.heap.size (w3.heap.size + 1) caph ah H x wi HH.out (by omega) (by omega) HS.out
            clear HCt
            go_wp2_with (go_at_call 79; refine CQ.mono ?_; rintro e w5 ⟨rfl, g5, c5, zs, H5, hp5, hs5, T5⟩)
            have HH5 : Hid _ := H5
            have HS5 : Hid _ := hs5
            have HE5 : Hid _ := HE.out.push hxt hp5
            have HW5 : Hid _ := HW.out.turn T5
            have HB5 : Hid (Below w3.heap.size w3 w5) := HB.out.trans ((HH.out.turnB T5).mono (by omega))
            clear H5 hp5 hs5 T5 CQ
            go_roundw
            case rel => first | exact ⟨ad2, C'.length, cc - 1, C', zs, _, c5, rfl, HCt'.out, HH5.out, HS5.out, HE5.out, HW5.out, HB5.out⟩ | exact ⟨ad2, C'.length, cc - 1, C', zs, _, c5, by first | rfl | (congr 1 <;> omega) | (simp; done), HCt'.out, HH5.out, HS5.out, HE5.out, HW5.out, HB5.out⟩
            case measure => simp [sliceLen]
          · have hnx : ∀ j ∈ C, (t : Int) < j.at_ := HE.out.next (fun x hx hxt => hm ⟨x, C.tail, by cases C with | nil => cases hx | cons y r => (injection hx with hx; subst hx; rfl), hxt⟩)
            obtain ⟨V, hV⟩ : ∃ V, V = outT ls t := ⟨_, rfl⟩
            have CW : Calls Try.prog 80 #[.pointer (some ⟨w3.heap.size + 2, 0, none⟩)] wi fun e w' => e = .returned (.int .i64 V) ∧ Hid (ErD wi w' ls C (w3.heap.size + 2) w3.heap.size (w3.heap.size + 1) t ah) := by
              rw [hV]; exact er_work ho HH.out HS.out HE.out hnx hn
            have HV : Hid _ := hV
            clear hV
            by_cases hm0 : m = 0
            · subst hm0
              go_wp2_with (first
                | (go_at_call 80; refine CW.mono ?_; rintro e w5 ⟨rfl, HD5⟩
                   obtain ⟨a5, cap5, G, H5, hs5, hE5, T5⟩ := HD5.out
                   have HW5 : Hid _ := HW.out.turn T5
                   have HB5 : Hid (Below w3.heap.size w3 w5) := HB.out.trans ((HH.out.turnB T5).mono (by omega))
                   have HH5 : Hid _ := H5
                   have HS5 : Hid _ := hs5
                   have HE5 : Hid _ := hE5
                   have hz5 := HB5.out.size
                   have hz6 : w3.heap.size + 2 ≤ w5.heap.size := by have := T5.size; omega
                   have hgr : (w5.alloc (.cells #[.int .i64 V] 2)).ownsRow (w3.heap.size + 2) 2 1 (.slice (some ⟨g, 0, none⟩) t uc) t ((earL ls t).map (Value.int .i64)) := HW5.out.own.alloc _
                   clear H5 hs5 hE5 T5 CW)
                | (at_builtin; refine wpList_append_own_at _ rfl (.tmp 46) (.tmp 49) 28 rfl (w3.heap.size + 2) 2 i1 (.int .i64 0) 1 8 Try.underlying28 hj hj0 hj1 hj2 rfl (by decide) _ _ _ rfl hgr ⟨w5.heap.size, 0, none⟩ 1 1 [.int .i64 V] rfl rfl (own_one _ _ _) (by intro u hu; simp at hu; subst hu; rfl) (by unfold maxLen; omega) (by omega) (by simp; omega) ?_))
              intro v6 w6 own6 grow6 nil6 at6
              obtain ⟨g6, c6, rfl, H6, W6, B6⟩ := er_done HH5.out HW5.out HB5.out (by omega) own6 grow6 at6
              have HH6 : Hid _ := H6
              have HW6 : Hid (WkR w6 (w3.heap.size + 2) g6 c6 (t + 1) a5 (earL ls (t + 1))) := by
                unfold Hid; rw [earL_succ, ← HV.out]; exact W6
              have HB6 : Hid _ := B6
              clear own6 grow6 nil6 at6 hgr H6 W6 B6
              go_wp2
              go_roundw
              case rel => first | exact ⟨t + 1, ad, 0, cc, C, G, a5, cap5, g6, c6, rfl, rfl, by go_num, HC.out, HH6.out, HS5.out, HE5.out, HW6.out, HB6.out, HT1.out⟩ | ((repeat apply Exists.intro); exact ⟨⟨t + 1, ad, 0, cc, C, G, a5, cap5, g6, c6, rfl, rfl, by go_num, HC.out, HH6.out, HS5.out, HE5.out, HW6.out, HB6.out, HT1.out⟩, rfl⟩)
              case measure =>
                have e1 : (intOf (Value.int .i64 ((t : Int) + 1))).toNat = t + 1 := by show ((t : Int) + 1).toNat = t + 1; omega
                have e2 : (intOf (Value.int .i64 (t : Int))).toNat = t := by show (t : Int).toNat = t; omega
                first
                  | (show earM ls (intOf (Value.int .i64 ((t : Int) + 1))).toNat < earM ls (intOf (Value.int .i64 (t : Int))).toNat; rw [e1, e2]; exact earM_step ho HP.out)
                  | (simp only [e1, e2]; exact earM_step ho HP.out)
            · have hm1 : ((0 : Nat) : Int) < (m : Int) := by omega
              obtain ⟨x, C', hx⟩ : ∃ x C', C = x :: C' := by
                cases C with
                | nil => simp at hCl; omega
                | cons x C' => exact ⟨x, C', rfl⟩
              have hxt : ¬ x.at_ ≤ (t : Int) := by have := hnx x (by rw [hx]; exact List.mem_cons_self); omega
              obtain ⟨b, off, rfl, hbw, hat⟩ := HC.out.at_ (by omega)
              obtain ⟨_, _, _, _, _, _, hc6⟩ := (hat.below HB.out hbw).job (i := 0) (by omega)
              clear hat
              rw [hx, jg_hd, show off + 0 * 7 = off by omega] at hc6
              clear hx hm
              go_wp2_with (first
                | (go_at_call 80; refine CW.mono ?_; rintro e w5 ⟨rfl, HD5⟩
                   obtain ⟨a5, cap5, G, H5, hs5, hE5, T5⟩ := HD5.out
                   have HW5 : Hid _ := HW.out.turn T5
                   have HB5 : Hid (Below w3.heap.size w3 w5) := HB.out.trans ((HH.out.turnB T5).mono (by omega))
                   have HH5 : Hid _ := H5
                   have HS5 : Hid _ := hs5
                   have HE5 : Hid _ := hE5
                   have hz5 := HB5.out.size
                   have hz6 : w3.heap.size + 2 ≤ w5.heap.size := by have := T5.size; omega
                   have hgr : (w5.alloc (.cells #[.int .i64 V] 2)).ownsRow (w3.heap.size + 2) 2 1 (.slice (some ⟨g, 0, none⟩) t uc) t ((earL ls t).map (Value.int .i64)) := HW5.out.own.alloc _
                   clear H5 hs5 hE5 T5 CW)
                | (at_builtin; refine wpList_append_own_at _ rfl (.tmp 46) (.tmp 49) 28 rfl (w3.heap.size + 2) 2 i1 (.int .i64 0) 1 8 Try.underlying28 hj hj0 hj1 hj2 rfl (by decide) _ _ _ rfl hgr ⟨w5.heap.size, 0, none⟩ 1 1 [.int .i64 V] rfl rfl (own_one _ _ _) (by intro u hu; simp at hu; subst hu; rfl) (by unfold maxLen; omega) (by omega) (by simp; omega) ?_))
              intro v6 w6 own6 grow6 nil6 at6
              obtain ⟨g6, c6, rfl, H6, W6, B6⟩ := er_done HH5.out HW5.out HB5.out (by omega) own6 grow6 at6
              have HH6 : Hid _ := H6
              have HW6 : Hid (WkR w6 (w3.heap.size + 2) g6 c6 (t + 1) a5 (earL ls (t + 1))) := by
                unfold Hid; rw [earL_succ, ← HV.out]; exact W6
              have HB6 : Hid _ := B6
              clear own6 grow6 nil6 at6 hgr H6 W6 B6
              go_wp2
              go_roundw
              case rel => first | exact ⟨t + 1, some ⟨b, off, none⟩, m, cc, C, G, a5, cap5, g6, c6, rfl, rfl, by go_num, HC.out, HH6.out, HS5.out, HE5.out, HW6.out, HB6.out, HT1.out⟩ | ((repeat apply Exists.intro); exact ⟨⟨t + 1, some ⟨b, off, none⟩, m, cc, C, G, a5, cap5, g6, c6, rfl, rfl, by go_num, HC.out, HH6.out, HS5.out, HE5.out, HW6.out, HB6.out, HT1.out⟩, rfl⟩)
              case measure =>
                have e1 : (intOf (Value.int .i64 ((t : Int) + 1))).toNat = t + 1 := by show ((t : Int) + 1).toNat = t + 1; omega
                have e2 : (intOf (Value.int .i64 (t : Int))).toNat = t := by show (t : Int).toNat = t; omega
                first
                  | (show earM ls (intOf (Value.int .i64 ((t : Int) + 1))).toNat < earM ls (intOf (Value.int .i64 (t : Int))).toNat; rw [e1, e2]; exact earM_step ho HP.out)
                  | (simp only [e1, e2]; exact earM_step ho HP.out)

end Go.Proofs.Ytmaojjjdepgaeaa
