/- The program's Planned and Strict. -/
import Derived.Test.YtfepkchopndpeaaPlcI
import Derived.Test.YtfepkchopndpeaaPlanW
import Derived.Test.YtfepkchopndpeaaLInt
import Derived.Test.YtfepkchopndpeaaInts
import Derived.Deep.Cut
import Derived.Deep.CutRange
namespace Go.Proofs.Ytfepkchopndpeaa
open Go.RowKit Go.Sort

/-- the profile that is left in its box, the starts of the first k in a row of the call's own -/
structure PnW (w W : World) (P g nb k : Nat) (T : Int) (v : Option Addr) (n' c' : Nat) (l : List Lev) (f : Nat → Int) : Prop where
  bel : Below w.heap.size w W
  box : W.heap[P]? = some (.cells #[.int .i64 T, .slice v n' c'] 26 (0, 0))
  lev : LevS W v n' c' l
  far : ∀ b off, v = some ⟨b, off, none⟩ → b ≠ P ∧ b ≠ g
  row : ∃ cur : Array Value, W.heap[g]? = some (.cells cur 2 (0, 0)) ∧ nb ≤ cur.size ∧ ∀ i, i < k → cur[i]? = some (.int .i64 (f i))
  p0 : w.heap.size ≤ P
  g0 : w.heap.size ≤ g
  ne : g ≠ P
variable {w W W' : World} {P g nb k : Nat} {T : Int} {v : Option Addr} {n' c' : Nat} {l : List Lev} {f : Nat → Int}
theorem PnW.below (h : PnW w W P g nb k T v n' c' l f) (hb : Below W.heap.size W W') : PnW w W' P g nb k T v n' c' l f :=
  ⟨h.bel.then hb h.bel.size, (hb.block P (lt_of_block h.box)).trans h.box, h.lev.below hb, h.far, by obtain ⟨cur, h1, h2⟩ := h.row; exact ⟨cur, (hb.block g (lt_of_block h1)).trans h1, h2⟩, h.p0, h.g0, h.ne⟩
theorem PnW.step (h : PnW w W P g nb k T v n' c' l f) (hb : Below W.heap.size W W') (hk : k < nb) {v2 : Option Addr} {n2 c2 : Nat} {l2 : List Lev} (hl : LevS W' v2 n2 c2 l2) (hv : v2 = v ∨ ∃ r : Nat, v2 = some ⟨r, 0, none⟩ ∧ W.heap.size ≤ r) :
    PnW w (((W'.setCell ⟨g, k, none⟩ (.int .i64 (f k))).setCell ⟨P, 0, none⟩ (.int .i64 T)).setCell ⟨P, 1, none⟩ (.slice v2 n2 c2)) P g nb (k + 1) T v2 n2 c2 l2 f := by
  have h' := h.below hb
  obtain ⟨cur, r1, r2, r3⟩ := h'.row
  have hgP := h.ne
  have zP := lt_of_block h.box
  obtain ⟨cur0, r0, _⟩ := h.row
  have zg := lt_of_block r0
  have hfar : ∀ b off, v2 = some ⟨b, off, none⟩ → b ≠ P ∧ b ≠ g := fun b off e => by
    rcases hv with q | ⟨r, q, hr⟩
    · exact h.far b off (q ▸ e)
    · rw [q] at e; cases e
      exact ⟨by omega, by omega⟩
  have hB : (W'.setCell ⟨g, k, none⟩ (.int .i64 (f k))).heap[P]? = some (.cells #[.int .i64 T, .slice v n' c'] 26 (0, 0)) := (Below.heap_setCell _ _ _ _ (Ne.symm hgP)).trans h'.box
  obtain ⟨q0, q1⟩ := Proofs.Ytfepkchopndpeaa.set2 hB (.int .i64 T) (.slice v2 n2 c2)
  have hR := blk_set (j := k) r1 (.int .i64 (f k))
  refine ⟨((h'.bel.setCell h.g0 _).setCell h.p0 _).setCell h.p0 _, q0, ?_, hfar, ⟨_, (q1 g hgP).trans hR, by simp; omega, fun i hi => ?_⟩, h.p0, h.g0, hgP⟩
  · refine hl.blkS (by simp [World.setCell]) (fun b off e => ?_)
    have := hfar b off e
    exact (q1 b this.1).trans (Below.heap_setCell _ _ _ _ this.2)
  · simp only [Array.getElem?_setIfInBounds]
    by_cases e : i = k
    · subst e; rw [if_pos rfl, if_pos (by omega)]
    · rw [if_neg (by omega)]; exact r3 i (by omega)

set_option maxRecDepth 8000 in
set_option maxHeartbeats 4000000 in
theorem planned_any (T now : Int) (st : Bool) (a b : Option Addr) (n cap nb capb : Nat) (ls : List Lev) (js : List Jb) (w : World) (h : LevS w a n cap ls) (hjs : JobS w b nb capb js) :
    Calls Try.prog 28 #[.agg #[.int .i64 T, .slice a n cap], .slice b nb capb, .int .i64 now, .bool st] w fun e w' => ∃ v c, e = .returned (.slice v (plF T st ls js now).length c) ∧ LInt w' w.heap.size v (plF T st ls js now).length c (plF T st ls js now) ∧ Below w.heap.size w w' := by
  have hlenb := hjs.len
  have hmxb := hjs.mx
  have hleb := hjs.le
  have LL : Hid (∀ W, Below w.heap.size w W → LevS W a n cap ls) := fun W hb => h.below hb
  have B0 : Below w.heap.size w (w.alloc (.cells #[.int .i64 T, .slice a n cap] 26)) := box_below
  by_cases hq : (poB T ls && (okB now && okB now)) = true
  · obtain ⟨hp, hn⟩ : poB T ls = true ∧ okB now = true := by simpa using hq
    obtain ⟨n0, n1⟩ := okB_t hn
    have po := poB_t hp
    rcases hj : jsB js with _ | _
    · have E : Hid (plF T st ls js now = []) := plF_j hj
      go_enter Try.func28, Try.ntmps28
      go_wp2_with fail
      refine (stretchOk_any T now now a n cap ls _ (LL.out _ B0)).mono ?_
      rw [hq]
      rintro e w1 ⟨rfl, hb1⟩
      go_wp2_with fail
      refine (implJobsOk_any b nb capb js _ ((hjs.below B0).below hb1)).mono ?_
      rw [hj]
      rintro e w2 ⟨rfl, hb2⟩
      have V1 := B0.then hb1 B0.size
      have V2 := V1.then hb2 V1.size
      go_wp2
      go_ret
      rw [E.out]
      exact ⟨none, 0, rfl, ⟨rfl, Or.inl ⟨rfl, rfl, rfl⟩⟩, V2⟩
    · have js_ := jsB_t hj
      have ok : PlOk T ls now := ⟨po, n0, n1⟩
      have hnb := js_.n
      have E : Hid (plF T st ls js now = staK T st ls now js js.length) := plF_t hp hj hn
      obtain ⟨zz, hzz⟩ : ∃ zz, zz = plF T st ls js now := ⟨_, rfl⟩
      rw [← hzz] at E ⊢
      clear hzz
      go_enter Try.func28, Try.ntmps28
      go_wp2_with fail
      refine (stretchOk_any T now now a n cap ls _ (LL.out _ B0)).mono ?_
      rw [hq]
      rintro e w1 ⟨rfl, hb1⟩
      go_wp2_with fail
      refine (implJobsOk_any b nb capb js _ ((hjs.below B0).below hb1)).mono ?_
      rw [hj]
      rintro e w2 ⟨rfl, hb2⟩
      have V1 := B0.then hb1 B0.size
      have V2 := V1.then hb2 V1.size
      have hmk := run_makeM nb (by omega)
      obtain ⟨W3, hW3⟩ : ∃ W3, W3 = w2.alloc (.cells (madeCells #[.int .i64 0] nb) 2) := ⟨_, rfl⟩
      have B3 : Below w2.heap.size w2 W3 := by rw [hW3]; exact box_below
      have zb1 : w.heap.size < w2.heap.size := by have := hb1.size; have := hb2.size; simp at *; omega
      have box2 : w2.heap[w.heap.size]? = some (.cells #[.int .i64 T, .slice a n cap] 26 (0, 0)) := (hb2.block _ (by have := hb1.size; simp at *; omega)).trans ((hb1.block _ (by simp)).trans (heap_alloc_new _ _))
      have H0 : PnW w W3 w.heap.size w2.heap.size nb 0 T a n cap ls (at10 T st ls now js) := by
        refine ⟨V2.then B3 V2.size, (B3.block _ zb1).trans box2, LL.out _ (V2.then B3 V2.size), fun b' off e => ?_, ⟨_, by rw [hW3]; exact heap_alloc_new _ _, by simp [madeCells], fun i hi => by omega⟩, Nat.le_refl _, by omega, by omega⟩
        obtain ⟨b2, off2, e2, hlt, _⟩ := h.at_ (by have := po.n1; have := h.len; omega)
        rw [e2] at e; cases e
        exact ⟨by omega, by omega⟩
      clear box2
      go_wp2
      rw [← hW3]
      clear hW3
      clear hmk B3 hq hp hj
      have HH0 : Hid _ := H0
      clear H0
      have HJ : Hid (∀ W, Below w.heap.size w W → JobS W b nb capb js) := fun W hb => hjs.below hb
      clear hjs
      generalize hg : w2.heap.size = g at HH0 zb1 ⊢
      have Hg : Hid _ := hg
      clear hg
      generalize hP : w.heap.size = P at HH0 zb1 ⊢
      have HP : Hid (w.heap.size = P) := hP
      clear hP
      go_loopw [2, 27] (fun nw i wr => ∃ (k : Nat) (V' : Option Addr) (N' C' : Nat), k ≤ nb ∧ i = .int .i64 k ∧ nw = .int .i64 (nowK T st ls now js k) ∧ Hid (PnW w wr P g nb k T V' N' C' (lefK T st ls now js k) (at10 T st ls now js))) (fun _ i _ => nb - (intOf i).toNat)
      case atStart => exact ⟨0, a, n, cap, by omega, rfl, rfl, HH0.out⟩
      case round =>
        obtain ⟨k, V', N', C', hk, rfl, rfl, HW⟩ := hrel
        rename World => wr
        clear HH0
        by_cases hlt : k < nb
        · have P1 := ok.all (st := st) (js := js) k
          have hjk := (js_.ok k (by omega)).1
          have hB := HW.out.bel
          have hz := hB.size
          obtain ⟨b1, off, rfl, hbw, hat⟩ := (HJ.out _ hB).at_ (by omega)
          obtain ⟨hc0, hc1, hc2, hc3, hc4, hc5, hc6⟩ := hat.job (i := k) (by omega)
          have hlt' : (k : Int) < (nb : Int) := by omega
          obtain ⟨p0, p1, _, _⟩ := boxed HW.out.box
          have zP := lt_of_block HW.out.box
          obtain ⟨L', hL'⟩ : ∃ L', L' = lefK T st ls now js k := ⟨_, rfl⟩
          obtain ⟨now', hnow'⟩ : ∃ now', now' = nowK T st ls now js k := ⟨_, rfl⟩
          have EA : Hid (at10 T st ls now js k = plT T L' now' (jg js k)) := by unfold Hid; rw [hL', hnow']; rfl
          have EL : Hid (lefK T st ls now js (k + 1) = plL L' (jg js k) (at10 T st ls now js k)) := by unfold Hid; rw [hL']; exact lefK_s k
          have EN : Hid (nowK T st ls now js (k + 1) = plN st now' (at10 T st ls now js k)) := by unfold Hid; rw [hnow']; exact nowK_s k
          rw [← hL', ← hnow'] at P1
          rw [← hL'] at HW
          rw [← hnow']
          clear hL' hnow'
          go_upto_region 7 with fail
          have D1' : PnW w (wr.alloc (.cells #[.int .i64 (jg js k).id, .int .i64 (jg js k).cores, .int .i64 (jg js k).long, .int .i64 (jg js k).due, .int .i64 (jg js k).wt, .int .i64 (jg js k).rank, .int .i64 (jg js k).at_] 44)) P g nb k T V' N' C' L' (at10 T st ls now js) := HW.out.below box_below0
          have HDB' := heap_alloc_new wr (.cells #[.int .i64 (jg js k).id, .int .i64 (jg js k).cores, .int .i64 (jg js k).long, .int .i64 (jg js k).due, .int .i64 (jg js k).wt, .int .i64 (jg js k).rank, .int .i64 (jg js k).at_] 44)
          clear p0 p1 hc0 hc1 hc2 hc3 hc4 hc5 hc6 hat hbw HW
          generalize wr.alloc (.cells #[.int .i64 (jg js k).id, .int .i64 (jg js k).cores, .int .i64 (jg js k).long, .int .i64 (jg js k).due, .int .i64 (jg js k).wt, .int .i64 (jg js k).rank, .int .i64 (jg js k).at_] 44) = W1 at D1' HDB' ⊢
          obtain ⟨p0, p1, _, _⟩ := boxed D1'.box
          obtain ⟨hc0, hc1, hc2, hc3, hc4, hc5, hc6⟩ := job_cells HDB'
          have HD1 : Hid _ := D1'
          clear D1' HDB'
          go_wp2_with fail
          refine (placed_any T now' V' N' C' L' (jg js k) _ HD1.out.lev P1 hjk).mono ?_
          rintro e w5 ⟨v5, n5, c5, rfl, hL5, hb5, hv5⟩
          rw [← EA.out] at hL5 ⊢
          clear p0 p1 hc0 hc1 hc2 hc3 hc4 hc5 hc6
          have D5' := HD1.out.step hb5 hlt hL5 hv5
          have D4 := HD1.out.below hb5
          obtain ⟨cur, r1, r2, _⟩ := D4.row
          obtain ⟨uc, gc⟩ : ∃ uc, w5.cell? ⟨g, k, none⟩ = some uc := ⟨_, cell_of_blk k r1 (by omega)⟩
          have gf := free_of_blk k r1
          obtain ⟨p0, p1, f0, f1⟩ := boxed D4.box
          have hgP := D4.ne
          have hPg : P ≠ g := Ne.symm hgP
          obtain ⟨s, hs⟩ : ∃ s, s = at10 T st ls now js k := ⟨_, rfl⟩
          rw [← hs] at D5' EL EN ⊢
          rw [← EL.out] at D5'
          have HD5 : Hid _ := D5'
          have HSs : Hid (s = at10 T st ls now js k) := hs
          clear hs D5' D4 hb5 hv5 hL5 HD1 EA
          clear r1 r2
          go_upto_region 8 with fail
          generalize ((w5.setCell ⟨g, k, none⟩ (.int .i64 s)).setCell ⟨P, 0, none⟩ (.int .i64 T)).setCell ⟨P, 1, none⟩ (.slice v5 n5 c5) = W9 at HD5 ⊢
          clear gc gf p0 p1 f0 f1
          obtain ⟨cur9, s1, s2, s3⟩ := HD5.out.row
          have gk : W9.cell? ⟨g, k, none⟩ = some (.int .i64 s) := by
            have h9 := s3 k (by omega)
            rw [← HSs.out] at h9
            simp [World.cell?, s1, h9]
          clear s1 s2 s3
          have hbd : 0 ≤ now' := P1.n0
          cases st with
          | false =>
            have EN1 : Hid (nowK T false ls now js (k + 1) = now') := by unfold Hid; rw [EN.out]; unfold plN; rw [if_neg (by simp)]
            clear gk
            go_wp2
            go_roundw
            case rel => exact ⟨k + 1, _, _, _, by omega, by go_num, by rw [EN1.out], HD5.out⟩
            case measure => simp [intOf]; omega
          | true =>
            rcases hin : inB s 0 999999999 with _ | _
            · have EN1 : Hid (nowK T true ls now js (k + 1) = now') := by unfold Hid; rw [EN.out]; unfold plN; rw [if_neg (by have := inB_f hin; omega)]
              go_wp2_with (go_at_call 40; refine (begins_any s _).mono ?_; rw [hin]; rintro e w' ⟨rfl, hq⟩; have hq' := hq.symm; clear hq; subst hq')
              go_roundw
              case rel => exact ⟨k + 1, _, _, _, by omega, by go_num, by rw [EN1.out], HD5.out⟩
              case measure => simp [intOf]; omega
            · have EN1 : Hid (nowK T true ls now js (k + 1) = s) := by unfold Hid; rw [EN.out]; unfold plN; rw [if_pos (by have := inB_t hin; exact ⟨rfl, by omega, by omega⟩)]
              go_wp2_with (go_at_call 40; refine (begins_any s _).mono ?_; rw [hin]; rintro e w' ⟨rfl, hq⟩; have hq' := hq.symm; clear hq; subst hq')
              go_roundw
              case rel => exact ⟨k + 1, _, _, _, by omega, by go_num, by rw [EN1.out], HD5.out⟩
              case measure => simp [intOf]; omega
        · obtain rfl : k = nb := by omega
          have hzl : zz.length = k := by rw [E.out, staK_len]; exact hlenb
          have hnn : ¬ (k : Int) < (k : Int) := by omega
          go_wp2
          go_ret
          obtain ⟨cur, r1, r2, r3⟩ := HW.out.row
          refine ⟨some ⟨g, 0, none⟩, k, (by first | rfl | (rw [hzl]; rfl)), ⟨(by first | exact hzl.symm | rfl), Or.inr ⟨g, rfl, HP.out ▸ HW.out.g0, ⟨cur, r1, by omega, fun i hi => ?_⟩, by omega, by unfold maxLen; omega⟩⟩, HW.out.bel⟩
          rw [r3 i (by omega), E.out, staK_at _ i (by omega)]
  · have E : Hid (plF T st ls js now = []) := by
      unfold Hid plF
      rw [if_neg fun h9 => hq (by rw [h9.1, h9.2.2]; rfl)]
    have hq' : (poB T ls && (okB now && okB now)) = false := by simpa using hq
    clear hq
    go_enter Try.func28, Try.ntmps28
    go_wp2_with fail
    refine (stretchOk_any T now now a n cap ls _ (LL.out _ B0)).mono ?_
    rw [hq']
    rintro e w1 ⟨rfl, hb1⟩
    have V1 := B0.then hb1 B0.size
    go_wp2
    go_ret
    rw [E.out]
    exact ⟨none, 0, rfl, ⟨rfl, Or.inl ⟨rfl, rfl, rfl⟩⟩, V1⟩

theorem implPlanned_any (T now : Int) (a b : Option Addr) (n cap nb capb : Nat) (ls : List Lev) (js : List Jb) (w : World) (h : LevS w a n cap ls) (hjs : JobS w b nb capb js) :
    Calls Try.prog 6 #[.agg #[.int .i64 T, .slice a n cap], .slice b nb capb, .int .i64 now] w fun e w' => ∃ v c, e = .returned (.slice v (plF T false ls js now).length c) ∧ LInt w' w.heap.size v (plF T false ls js now).length c (plF T false ls js now) ∧ Below w.heap.size w w' := by
  have B0 : Below w.heap.size w (w.alloc (.cells #[.int .i64 T, .slice a n cap] 26)) := box_below
  obtain ⟨zz, hzz⟩ : ∃ zz, zz = plF T false ls js now := ⟨_, rfl⟩
  have HZ : Hid _ := hzz
  rw [← hzz]
  clear hzz
  go_enter Try.func6, Try.ntmps6
  go_wp2_with fail
  refine (planned_any T now false a b n cap nb capb ls js _ (h.below B0) (hjs.below B0)).mono ?_
  rw [← HZ.out]
  rintro e w1 ⟨v, c, rfl, hL, hb1⟩
  go_wp2
  go_ret
  exact ⟨v, c, rfl, hL.low B0.size, B0.then hb1 B0.size⟩
theorem implStrict_any (T now : Int) (a b : Option Addr) (n cap nb capb : Nat) (ls : List Lev) (js : List Jb) (w : World) (h : LevS w a n cap ls) (hjs : JobS w b nb capb js) :
    Calls Try.prog 7 #[.agg #[.int .i64 T, .slice a n cap], .slice b nb capb, .int .i64 now] w fun e w' => ∃ v c, e = .returned (.slice v (plF T true ls js now).length c) ∧ LInt w' w.heap.size v (plF T true ls js now).length c (plF T true ls js now) ∧ Below w.heap.size w w' := by
  have B0 : Below w.heap.size w (w.alloc (.cells #[.int .i64 T, .slice a n cap] 26)) := box_below
  obtain ⟨zz, hzz⟩ : ∃ zz, zz = plF T true ls js now := ⟨_, rfl⟩
  have HZ : Hid _ := hzz
  rw [← hzz]
  clear hzz
  go_enter Try.func7, Try.ntmps7
  go_wp2_with fail
  refine (planned_any T now true a b n cap nb capb ls js _ (h.below B0) (hjs.below B0)).mono ?_
  rw [← HZ.out]
  rintro e w1 ⟨v, c, rfl, hL, hb1⟩
  go_wp2
  go_ret
  exact ⟨v, c, rfl, hL.low B0.size, B0.then hb1 B0.size⟩

end Go.Proofs.Ytfepkchopndpeaa
