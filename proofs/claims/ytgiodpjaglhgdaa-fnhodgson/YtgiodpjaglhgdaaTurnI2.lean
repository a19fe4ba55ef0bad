/- Turns of the program. -/
import Derived.Test.YtgiodpjaglhgdaaTurnI
import Derived.Test.YtgiodpjaglhgdaaTurnS3
import Derived.Test.YtgiodpjaglhgdaaJobOk
import Derived.Maps.OwnIn
import Derived.RangeFuncBox
namespace Go.Proofs.Ytgiodpjaglhgdaa
open Go Go.RowKit Go.Shelf
attribute [local go_sem] Oper.semAt_some

theorem RowOk.raise {w : World} {base : Nat} {x : Rw} (h : RowOk w 0 x) (hb : ∀ g, x.o = some g → base ≤ g) : RowOk w base x := by
  refine ⟨h.1, ?_⟩
  rcases h.2 with h2 | ⟨g, cap, cur, e, _, h3⟩
  · exact Or.inl h2
  · refine Or.inr ⟨g, cap, cur, e, hb g ?_, h3⟩
    unfold Rw.val Rw.a at e
    injection e with e1 _ _
    cases ho : x.o with
    | none => rw [ho] at e1; cases e1
    | some g' => rw [ho] at e1; injection e1 with e1; injection e1 with e1; rw [e1]

/-- what the loop over the orders keeps: so many have been taken up -/
structure InvT (L : List (List Int)) (ro : Nat → Prop) (w : World) (Bt k : Nat) (s : Nat → Prop) (V : World) : Prop where
  ex : ∃ (v : Value) (X : List Rw), V.heap[Bt]? = some (.cells #[v] 44 (0, 0)) ∧ RRows V w.heap.size v X ∧ X.map (·.l) = L.take k ∧ (∀ g, v.ownBlock = some g → s g ∧ g ≠ Bt ∧ ¬ ro g) ∧ ∀ x ∈ X, ∀ g, x.o = some g → s g ∧ g ≠ Bt
  bel : Below w.heap.size w V
  old : ∀ b, b < w.heap.size → s b
  bt : s Bt ∧ ¬ ro Bt ∧ w.heap.size ≤ Bt
  sz : ∀ b, ro b → b < V.heap.size

theorem InvT.rest {L : List (List Int)} {ro : Nat → Prop} {w : World} {Bt k : Nat} {s : Nat → Prop} {V1 V2 : World} (h : InvT L ro w Bt k s V1) (hR : Rest s V1 V2) : InvT L ro w Bt k s V2 := by
  obtain ⟨⟨v, X, h1, h2, h3, h4, h5⟩, hb, ho, ht, hsz⟩ := h
  exact ⟨⟨v, X, (hR.block Bt ht.1).trans h1, h2.keep (fun g hg => hR.block g (h4 g hg).1) (fun x hx g hg => hR.block g (h5 x hx g hg).1), h3, h4, h5⟩, hb.trans (hR.below ho), ho, ht, fun b hb' => by have := hsz b hb'; have := hR.size; omega⟩

set_option maxRecDepth 8000 in
set_option maxHeartbeats 8000000 in
theorem implTurns_yes (m : Nat) (h6 : m ≤ 6) (w : World) :
    Calls Try.prog 51 #[.int .i64 (m : Int)] w fun e w' => ∃ v X, e = .returned v ∧ RRows w' w.heap.size v X ∧ X.map (·.l) = turnsL m (upN m) ∧ Below w.heap.size w w' := by
  obtain ⟨i1, hi1, hi2, hi3, hi4⟩ := info_parts infoI
  obtain ⟨j1, hj1, hj2, hj3, hj4⟩ := info_parts infoIS
  have dc : inB (m : Int) 0 6 = true := by unfold inB; simp; omega
  have HU : Hid (∀ k, upN (k + 1) = upN k ++ [(k : Int)]) := upN_succ
  obtain ⟨n, _⟩ : ∃ n : Nat, n = n := ⟨0, rfl⟩
  refine (callsIn_wide (n := n)).1 ?_
  refine callsIn_of_wp_marks Try.func51 rfl trivial ?_ rfl
  simp only [Try.ntmps51, List.size_toArray, List.length_cons, List.length_nil, Nat.reduceAdd, Nat.reduceSub, Array.replicate_succ, Array.replicate_zero, List.push_toArray, List.append_toArray, List.nil_append, List.cons_append]
  gi_wp2_with (refine ⟨trivial, fun h => (by cases h), ?_⟩; refine (callsIn_wide.2 (within_any _ _ _ _)).mono ?_; rw [dc]; rintro e w' ⟨rfl, hq⟩; have hq' := hq.symm; clear hq; subst hq')
  gi_loopw [3, 12] (fun a i wr => ∃ (k : Nat) (x : Rw), k ≤ m ∧ i = .int .i64 k ∧ a = x.val ∧ Hid (x.l = upN k) ∧ Hid (RowOk wr w.heap.size x) ∧ Below w.heap.size w wr) (fun _ i _ => m - (intOf i).toNat)
  case atStart => exact ⟨0, ⟨some w.heap.size, 0, []⟩, by omega, rfl, rfl, rfl, ⟨rfl, Or.inr ⟨w.heap.size, 0, #[], rfl, Nat.le_refl _, heap_alloc_new _ _, Nat.le_refl _, Nat.zero_le _, rfl, rfl⟩⟩, (Below.refl _ _).alloc (Nat.le_refl _) _⟩
  case round =>
    obtain ⟨k, x, hk, rfl, rfl, HX, HR, hw⟩ := hrel
    have HL : Hid (x.l.length = k) := by rw [Hid, HX.out, upN_len]
    have z := hw.size
    by_cases hkt : k < m
    · have hkt' : (k : Int) < (m : Int) := by omega
      have OX := HR.out.below (box_below (cs := #[.int .i64 (k : Int)]) (T := 2))
      have hl := HL.out
      gi_wp2_with (gi_at_builtin; refine wpListIn_append_own_at _ rfl (.tmp 15) (.tmp 17) 38 rfl w.heap.size 2 i1 (.int .i64 0) 1 8 Try.underlying38 hi1 hi2 hi3 hi4 rfl (by decide) _ _ _ rfl OX ⟨wr.heap.size, 0, none⟩ 1 1 [.int .i64 (k : Int)] rfl rfl (cell_one_new _ _ _) (fun u hu => by obtain rfl := List.mem_singleton.1 hu; rfl) (by unfold maxLen; omega) (by omega) (by simp; omega) ?_)
      intro v1 w1 own1 grow1 nil1 at1
      obtain ⟨y, hy0, hyl, hyo, hyb⟩ := rowOk_of (l := x.l ++ [(k : Int)]) own1 (by simp; try omega) (by rw [ints_app]; rfl)
      have HB : Hid (Below w.heap.size w w1) := (hw.alloc z _).grown grow1 (by simp; omega) (fun r e => (World.ownsRow.lt OX r e).1)
      have HYL : Hid (y.l = upN (k + 1)) := by rw [Hid, hyl, HX.out, HU.out]
      subst hy0
      clear own1 grow1 nil1 at1 hyb OX hyl hl
      gi_wp2
      go_roundw
      case rel => exact ⟨k + 1, y, by omega, by go_num, rfl, HYL.out, hyo, HB.out⟩
      case measure => simp [intOf]; omega
    · have e : k = m := by omega
      subst e
      gi_wp2_with (refine ⟨trivial, fun h => (by cases h), ?_⟩; refine (callsIn_wide.2 (orders_any x _)).mono ?_; rintro e w' ⟨rfl, hq⟩; have hq' := hq.symm; clear hq; subst hq')
      obtain ⟨Va, hVa⟩ : ∃ Va, Va = wr.alloc (.cells #[] 38) := ⟨_, rfl⟩
      obtain ⟨Vb, hVb⟩ : ∃ Vb, Vb = Va.alloc (.cells #[.slice (some ⟨wr.heap.size, 0, none⟩) 0 0] 44) := ⟨_, rfl⟩
      obtain ⟨V0, hV0⟩ : ∃ V0, V0 = Vb.alloc (.cells #[x.val] 38) := ⟨_, rfl⟩
      rw [← hVa, ← hVb, ← hV0]
      have za : Va.heap.size = wr.heap.size + 1 := by rw [hVa]; simp
      have zb : Vb.heap.size = wr.heap.size + 2 := by rw [hVb]; simp; omega
      have z0 : V0.heap.size = wr.heap.size + 3 := by rw [hV0]; simp; omega
      have Ba : Below wr.heap.size wr Va := by rw [hVa]; exact box_below
      have Bb : Below Va.heap.size Va Vb := by rw [hVb]; exact box_below
      have B0 : Below Vb.heap.size Vb V0 := by rw [hV0]; exact box_below
      have Bab := Ba.then Bb Ba.size
      have Bab0 := Bab.then B0 Bab.size
      have Bb0 := Bb.then B0 Bb.size
      have RR0 : RRows V0 w.heap.size (.slice (some ⟨wr.heap.size, 0, none⟩) 0 0) [] := by
        have h1 : RRows Va wr.heap.size (.slice (some ⟨wr.heap.size, 0, none⟩) 0 0) [] := by rw [hVa]; exact none_rows wr
        exact (h1.below Bb0).low z
      have bt0 : V0.heap[wr.heap.size + 1]? = some (.cells #[.slice (some ⟨wr.heap.size, 0, none⟩) 0 0] 44 (0, 0)) := by
        have h1 : Vb.heap[Va.heap.size]? = some (.cells #[.slice (some ⟨wr.heap.size, 0, none⟩) 0 0] 44 (0, 0)) := by rw [hVb]; exact heap_alloc_new _ _
        rw [za] at h1
        exact (B0.block _ (by omega)).trans h1
      have bn0 : V0.heap[wr.heap.size + 1 + 1]? = some (.cells #[x.val] 38 (0, 0)) := by
        have h1 : V0.heap[Vb.heap.size]? = some (.cells #[x.val] 38 (0, 0)) := by rw [hV0]; exact heap_alloc_new _ _
        rwa [zb] at h1
      have xo0 : RowOk V0 0 x := (HR.out.below Bab0).low (Nat.zero_le _)
      have xlt : ∀ b, x.o = some b → b < wr.heap.size := fun b hb => (HR.out.lt hb).1
      have BW0 : Below w.heap.size w V0 := hw.then Bab0 z
      have hk6 : (turnsL k x.l).length ≤ 720 := by rw [turnsL_len k x.l HL.out]; exact (factN_le k h6).1
      obtain ⟨Bt, hBt⟩ : ∃ Bt, Bt = wr.heap.size + 1 := ⟨_, rfl⟩
      obtain ⟨Bn, hBn⟩ : ∃ Bn, Bn = wr.heap.size + 1 + 1 := ⟨_, rfl⟩
      rw [← hBt] at bt0
      rw [← hBn] at bn0
      rw [← hBn, ← hBt]
      have q1 : Bt < V0.heap.size := by omega
      have q2 : Bn < V0.heap.size := by omega
      have q3 : Bt ≠ Bn := by omega
      have q4 : wr.heap.size < Bt := by omega
      have q5 : w.heap.size ≤ Bt := by omega
      have q6 : wr.heap.size ≠ Bn := by omega
      clear hVa hVb hV0 hBt hBn za zb Ba Bb B0 Bab Bb0
      refine range_own rfl (fun h => by cases h) (gf := 114) (lb := #[.pointer (some ⟨Bn, 0, none⟩)]) rfl trivial (enters_of Try.func114 (by kernel_rfl) rfl) (orders1_gives k (n - 1) x Bn V0 HL.out h6 xo0 bn0) (Rest.refl _ _)
        (fun b hb => by
          rcases hb with hb | hb
          · omega
          · have := xlt b hb; omega) rfl (InvT (turnsL k x.l) (fun b => b = Bn ∨ x.o = some b) w Bt) (fun k' s W1 W2 h hR => h.rest hR) ?start (fun x' => { tmps := #[.int .i64 k, undef, .slice none 0 0, x.val, u4, .pointer (some ⟨Bt, 0, none⟩), .slice x'.a x'.l.length x'.c, .int .i64 k, .bool true, .bool false, .slice (some ⟨w.heap.size, 0, none⟩) 0 0, .int .i64 k, .int .i64 k, .bool false, u14, u15, u16, u17, u18, u19, .slice (some ⟨wr.heap.size, 0, none⟩) 0 0, x.val, .func (.func 114) #[] #[.pointer (some ⟨Bn, 0, none⟩)], .slice x'.a x'.l.length x'.c, undef, undef, undef, undef, undef], defers := [] }) ?assign ?body ?done
      case start =>
        refine ⟨⟨_, [], bt0, RR0, rfl, fun g hg => ?_, fun x' hx' => by cases hx'⟩, BW0, fun b hb => by have := BW0.size; omega, ⟨q1, fun h => ?_, q5⟩, fun b hb => ?_⟩
        · have e : wr.heap.size = g := Option.some.inj hg
          subst e
          refine ⟨by omega, by omega, fun h => ?_⟩
          rcases h with h | h
          · exact q6 h
          · have := xlt _ h; omega
        · rcases h with h | h
          · exact q3 h
          · have := xlt _ h; omega
        · rcases hb with hb | hb
          · omega
          · have := xlt b hb; omega
      case assign =>
        intro l' x' X K hK
        unfold Rw.val
        gi_wp2
        exact hK
      case body =>
        rintro l' k' s x' V hl' ⟨r, hr⟩ hnl ⟨⟨v, X, hb, hR, hX, hv, hx⟩, hB, hold, ⟨ht, hnt, hgt⟩, hsz⟩ hc
        have oks : RowOk V w.heap.size x' := hc.ok.raise (fun g hg => by
          by_cases c : g < w.heap.size
          · exact absurd (hold g c) (hc.no g hg)
          · omega)
        have zV := hB.size
        have hXl : X.length ≤ 720 := by
          have h1 : X.length = ((turnsL k x.l).take k').length := by rw [← hX]; simp
          rw [h1, List.length_take]; omega
        have lt := lt_of_block hb
        have vlt : ∀ g, v.ownBlock = some g → g < V.heap.size := fun g hg => (World.ownsRow.lt hR.own g hg).2
        have cB : V.cell? ⟨Bt, 0, none⟩ = some v := by simpa using cell_of_blk 0 hb (by simp)
        have BX : Below V.heap.size V (V.alloc (.cells #[.slice x'.a x'.l.length x'.c] 38)) := box_below
        have OR := hR.below BX
        have HV : Hid (V.heap[Bt]? = some (.cells #[v] 44 (0, 0))) := hb
        clear hb
        gi_wp2_with (gi_at_builtin; refine wpListIn_append_own_at _ rfl (.tmp 24) (.tmp 26) 44 rfl w.heap.size 38 j1 (.slice none 0 0) 1 24 Try.underlying44 hj1 hj2 hj3 hj4 rfl (by decide) _ _ _ rfl OR.own ⟨V.heap.size, 0, none⟩ 1 1 [.slice x'.a x'.l.length x'.c] rfl rfl (cell_one_new _ _ _) (fun u hu => by obtain rfl := List.mem_singleton.1 hu; rfl) (by unfold maxLen; omega) (by omega) (by simp; omega) ?_)
        intro v2 W2 own2 grow2 nil2 at2
        replace at2 : v2.ownBlock = v.ownBlock ∨ v2.ownBlock = some (V.alloc (.cells #[.slice x'.a x'.l.length x'.c] 38)).heap.size := by rw [World.size_alloc]; exact at2
        replace grow2 : (V.alloc (.cells #[.slice x'.a x'.l.length x'.c] 38)).grownBy W2 v.ownBlock := grow2
        have zx : (V.alloc (.cells #[.slice x'.a x'.l.length x'.c] 38)).heap.size = V.heap.size + 1 := by simp
        have hfr : ∀ g, x'.o = some g → (∀ y ∈ X, y.o ≠ some g) ∧ v.ownBlock ≠ some g := fun g hg => ⟨fun y hy e => hc.no g hg (hx y hy g e).1, fun e => hc.no g hg (hv g e).1⟩
        have RR2 : RRows W2 w.heap.size v2 (X ++ [x']) := OR.app (oks.below BX) hfr own2 grow2 at2
        obtain ⟨g2, cap2, rfl⟩ := ownsRow_succ own2
        have g2lt := (World.ownsRow.lt own2 g2 rfl).2
        have zg := grow2.size
        have bt2 : W2.heap[Bt]? = some (.cells #[v] 44 (0, 0)) := (grow2.block Bt (by omega) (fun e => (hv Bt e.symm).2.1 rfl)).trans ((BX.block _ lt).trans HV.out)
        have cB2 : W2.cell? ⟨Bt, 0, none⟩ = some v := by simpa using cell_of_blk 0 bt2 (by simp)
        have fB2 : W2.frozen? ⟨Bt, 0, none⟩ = false := free_of_blk 0 bt2
        have F := blk_set (j := 0) bt2 (.slice (some ⟨g2, 0, none⟩) (X.length + 1) cap2)
        have HF : Hid ((W2.setCell ⟨Bt, 0, none⟩ (.slice (some ⟨g2, 0, none⟩) (X.length + 1) cap2)).heap[Bt]? = some (.cells #[.slice (some ⟨g2, 0, none⟩) (X.length + 1) cap2] 44 (0, 0))) := by unfold Hid; simpa using F
        have HRR : Hid _ := RR2
        have HGR : Hid _ := grow2
        have HAT : Hid (some g2 = v.ownBlock ∨ g2 = V.heap.size + 1) := by
          rcases at2 with e | e
          · exact Or.inl e
          · right; have e' : some g2 = some _ := e; injection e' with e'; omega
        have HC : Hid _ := hc
        have HXE : Hid (X.map (·.l) = (turnsL k x.l).take k') := hX
        clear F RR2 own2 grow2 nil2 at2 bt2 OR hc hX
        gi_wp2
        have hkeep : ∀ t : Nat → Prop, (∀ b, t b → b < V.heap.size ∧ b ≠ Bt ∧ v.ownBlock ≠ some b) → Rest t V (W2.setCell ⟨Bt, 0, none⟩ (.slice (some ⟨g2, 0, none⟩) (X.length + 1) cap2)) := fun t ht' => by
          have h1 := (Rest.refl t V).alloc (fun b hb => (ht' b hb).1) (.cells #[.slice x'.a x'.l.length x'.c] 38)
          have h2 : Rest t (V.alloc (.cells #[.slice x'.a x'.l.length x'.c] 38)) W2 := ⟨HGR.out.os, HGR.out.tape, HGR.out.output, HGR.out.size, fun b hb => HGR.out.block b (by have := (ht' b hb).1; omega) (Ne.symm (ht' b hb).2.2)⟩
          have h3 : Rest t W2 (W2.setCell ⟨Bt, 0, none⟩ (.slice (some ⟨g2, 0, none⟩) (X.length + 1) cap2)) := ⟨rfl, rfl, rfl, by simp [World.setCell], fun b hb => Below.heap_setCell _ _ _ _ (ht' b hb).2.1⟩
          exact (h1.trans h2).trans h3
        have zf : (W2.setCell ⟨Bt, 0, none⟩ (.slice (some ⟨g2, 0, none⟩) (X.length + 1) cap2)).heap.size = W2.heap.size := by simp [World.setCell]
        have g2ne : g2 ≠ Bt := by
          rcases HAT.out with e | e
          · exact (hv g2 e.symm).2.1
          · omega
        have x'lt : ∀ g, x'.o = some g → g < V.heap.size ∧ g ≠ Bt := fun g hg => ⟨(oks.lt hg).1, fun e => HC.out.no g hg (e ▸ ht)⟩
        refine ⟨fun b => s b ∨ x'.o = some b ∨ (V.heap.size ≤ b ∧ b < W2.heap.size), ⟨⟨_, X ++ [x'], HF.out, HRR.out.keep (fun g hg => ?_) (fun y hy g hg => ?_), ?_, fun g hg => ?_, fun y hy g hg => ?_⟩, ?_, fun b hb => Or.inl (hold b hb), ⟨Or.inl ht, hnt, hgt⟩, fun b hb => by have := hsz b hb; omega⟩, ?_, ?_, hkeep _ (fun b hb => ⟨hb.1, fun e => hb.2.1 (e ▸ ht), fun e => hb.2.1 (hv b e).1⟩), hkeep _ (fun b hb => ⟨hsz b hb, fun e => hnt (e ▸ hb), fun e => (hv b e).2.2 hb⟩)⟩
        · have e : g2 = g := Option.some.inj hg
          exact Below.heap_setCell _ _ _ _ (fun h => g2ne (e.trans h))
        · refine Below.heap_setCell _ _ _ _ ?_
          rcases List.mem_append.1 hy with hy | hy
          · exact (hx y hy g hg).2
          · obtain rfl := List.mem_singleton.1 hy
            exact (x'lt g hg).2
        · rw [List.map_append, HXE.out, List.take_succ_eq_append_getElem HC.out.lt]
          have e := HC.out.eq
          rw [List.getElem?_eq_getElem HC.out.lt] at e
          simp [e]
        · have e : g2 = g := Option.some.inj hg
          subst e
          rcases HAT.out with e | e
          · have := hv g2 e.symm; exact ⟨Or.inl this.1, this.2⟩
          · exact ⟨Or.inr (Or.inr ⟨by omega, g2lt⟩), g2ne, fun h => by have := hsz _ h; omega⟩
        · rcases List.mem_append.1 hy with hy | hy
          · exact ⟨Or.inl (hx y hy g hg).1, (hx y hy g hg).2⟩
          · obtain rfl := List.mem_singleton.1 hy
            exact ⟨Or.inr (Or.inl hg), (x'lt g hg).2⟩
        · exact hB.trans ((hkeep (fun b => b < w.heap.size) (fun b hb => ⟨by omega, by omega, fun e => by have := (World.ownsRow.lt hR.own b e).1; omega⟩)).below fun b hb => hb)
        · rintro b (h | h | h)
          · exact Or.inl h
          · exact Or.inr (Or.inr h)
          · exact Or.inr (Or.inl h.1)
        · rintro b (h | h | h)
          · have := HC.out.bd b h; omega
          · have := (x'lt b h).1; omega
          · omega
      case done =>
        rintro D s V hD ⟨⟨v, X, hb, hR, hX, hv, hx⟩, hB, hold, ⟨ht, hnt, hgt⟩, hsz⟩ hnD hbd hdf
        have cB : V.cell? ⟨Bt, 0, none⟩ = some v := by simpa using cell_of_blk 0 hb (by simp)
        have HR9 : Hid (RRows V w.heap.size v X) := hR
        have HX9 : Hid (X.map (·.l) = turnsL k (upN k)) := by
          rw [Hid, hX, List.take_length, HX.out]
        have zD : w.heap.size ≤ D := by have := BW0.size; omega
        clear hX hR
        gi_wp2
        refine ⟨by simp, .inl ⟨_, _, rfl, run_takeDeferred hdf, ?_⟩⟩
        refine ⟨_, results_tmp rfl _ _ _, v, X, rfl, HR9.out.keep (fun g hg => World.putObj_heap_other (fun e => hnD (e ▸ (hv g hg).1))) (fun y hy g hg => World.putObj_heap_other (fun e => hnD (e ▸ (hx y hy g hg).1))), HX9.out, hB.trans ((Rest.putObj V _ (s := fun b => b < w.heap.size) (by omega)).below fun b hb => hb)⟩

end Go.Proofs.Ytgiodpjaglhgdaa
