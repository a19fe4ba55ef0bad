/- A State in memory: its value, how it lies there; size, copy, likeness. -/
import Derived.Test.YtdgfkcobhhlfbaaGreatEntTo
import Derived.Test.YtdgfkcobhhlfbaaGreatStBox
import Derived.Test.YtdgfkcobhhlfbaaGreatNodeIn
import Derived.Laws.Rows
import Derived.Laws.ResultCell
namespace Go.Proofs.YtdgfkcobhhlfbaaGreat
open Go.RowKit

/-- its value: Nodes at na with nc of room, Entries at ea with ec of room -/
def stV (s : St) (na : Option Addr) (nc : Nat) (ea : Option Addr) (ec : Nat) : Value := .agg #[.int .i64 s.now, .slice na s.nodes.length nc, .slice ea s.ents.length ec, .int .i64 s.next, .int .i64 s.eps]
structure StS (w : World) (s : St) (na : Option Addr) (nc : Nat) (ea : Option Addr) (ec : Nat) : Prop where
  nd : NodeS w na s.nodes.length nc s.nodes
  en : EntS w ea s.ents.length ec s.ents
theorem StS.below {w w' : World} {s : St} {na : Option Addr} {nc : Nat} {ea : Option Addr} {ec : Nat} (h : StS w s na nc ea ec) (hb : Below w.heap.size w w') : StS w' s na nc ea ec := ⟨h.nd.below hb, h.en.below hb⟩

/-- small enough to be copied -/
def stSmall (s : St) : Prop := s.nodes.length ≤ 1048576 ∧ s.ents.length ≤ 1048576 ∧ ∀ i, i < s.ents.length → (eng s.ents i).ps.length ≤ 1048576
set_option maxHeartbeats 1000000 in
theorem szState_any (s : St) (na : Option Addr) (nc : Nat) (ea : Option Addr) (ec : Nat) (w : World) (h : StS w s na nc ea ec) :
    Calls Tryz.prog 4 #[stV s na nc ea ec, .int .i64 1048576] w fun e w' => ∃ r, e = .returned (.int .i64 r) ∧ (r < 0 ∨ (0 ≤ r ∧ stSmall s)) ∧ Below w.heap.size w w' := by
  unfold stV
  have hmn := h.nd.mx
  have hln := h.nd.le
  by_cases hc : (1048576 : Int) < (s.nodes.length : Int)
  · go_enter Tryz.func4, Tryz.ntmps4
    go_wp2_with (go_at_call 13; refine (szNodeS_any _ _ _ _ _ (by omega) (by omega) (by omega)).mono ?_; rw [if_pos hc]; rintro e w' ⟨rfl, hq⟩; have hq' := hq.symm; clear hq; subst hq')
    go_ret
    exact ⟨-1, rfl, Or.inl (by omega), box_below0⟩
  · obtain ⟨W0, hW0⟩ : ∃ W0, W0 = w.alloc (.cells #[.int .i64 s.now, .slice na s.nodes.length nc, .slice ea s.ents.length ec, .int .i64 s.next, .int .i64 s.eps] 25) := ⟨_, rfl⟩
    have B0 : Below w.heap.size w W0 := by rw [hW0]; exact box_below0
    have x0 : W0.heap[w.heap.size]? = some (.cells #[.int .i64 s.now, .slice na s.nodes.length nc, .slice ea s.ents.length ec, .int .i64 s.next, .int .i64 s.eps] 25 (0, 0)) := by rw [hW0]; exact heap_alloc_new _ _
    obtain ⟨c0, c1, c2, c3, c4, _, _, _, _, _⟩ := box5 x0
    have CE := szEntryS_any ea s.ents.length ec s.ents (1048576 - s.nodes.length) W0 (h.en.below B0) (by omega) (by omega)
    have hd : ¬ (1048576 : Int) - (s.nodes.length : Int) < 0 := by omega
    go_enter Tryz.func4, Tryz.ntmps4
    go_upto_region 1 with fail
    rw [← hW0]
    clear hW0 x0
    go_wp2_with (go_at_call 13; refine (szNodeS_any _ _ _ _ _ (by omega) (by omega) (by omega)).mono ?_; rw [if_neg hc]; rintro e w' ⟨rfl, hq⟩; have hq' := hq.symm; clear hq; subst hq')
    refine CE.mono ?_
    rintro e w1 ⟨r, rfl, hr, hb1⟩
    have HR : Hid (szLeft (1048576 - s.nodes.length) s.ents.length (psum s.ents s.ents.length) r) := hr
    have B1 := B0.then hb1 B0.size
    clear hr CE
    by_cases hn : r < 0
    · go_wp2_with fail
      go_ret
      exact ⟨-1, rfl, Or.inl (by omega), B1⟩
    · have HS : Hid (stSmall s) := by
        rcases HR.out with h1 | ⟨h1, h2⟩
        · omega
        · exact ⟨by omega, by omega, fun i hi => by have := psum_one (ls := s.ents) hi; omega⟩
      go_wp2_with fail
      go_ret
      exact ⟨r, rfl, Or.inr ⟨by omega, HS.out⟩, B1⟩

theorem EntO.keep {w w' : World} {base hi B cap k : Nat} {ls : List En} {H : Nat → Option Nat × Nat} (h : EntO w base hi B cap k ls H) (hb : ∀ r, base ≤ r → r < hi → w'.heap[r]? = w.heap[r]?) : EntO w' base hi B cap k ls H := by
  obtain ⟨cur, h1, h2⟩ := h.blk
  refine ⟨h.lo, h.up, ⟨cur, (hb B h.lo h.up).trans h1, h2⟩, fun i hi => ?_, h.apart⟩
  refine (h.kid i hi).imp id ?_
  rintro ⟨g, q1, q2, q3, q4, q5, q6⟩
  exact ⟨g, q1, q2, q3, q4, q5.blk (hb g q2 q3), q6⟩
theorem EntO.low {w : World} {base base' hi hi' B cap k : Nat} {ls : List En} {H : Nat → Option Nat × Nat} (h : EntO w base hi B cap k ls H) (hb : base' ≤ base) (hh : hi ≤ hi') : EntO w base' hi' B cap k ls H := by
  have := h.lo
  have := h.up
  refine ⟨by omega, by omega, h.blk, fun i hi => ?_, h.apart⟩
  refine (h.kid i hi).imp id ?_
  rintro ⟨g, q1, q2, q3, q4, q5, q6⟩
  exact ⟨g, q1, by omega, by omega, q4, q5, q6⟩
theorem PtOwn.toS {w : World} {base hi B : Nat} {x : Option Nat × Nat} {ps : List Pt} (h : PtOwn w base hi B x ps) (wf : ∀ i, i < ps.length → ptwf (ptg ps i)) : ∃ v m, hdr x ps.length = .slice v ps.length m ∧ PartS w v ps.length m ps := by
  rcases h with ⟨h1, h2, rfl⟩ | ⟨g, h1, h2, h3, h4, h5, h6, h7⟩
  · refine ⟨none, 0, ?_, PartS.nil_ w⟩
    unfold hdr; rw [h1, h2]; rfl
  · refine ⟨some ⟨g, 0, none⟩, x.2, by unfold hdr; rw [h1]; rfl, rfl, h6, h7, (fun h => by cases h), wf, fun hn => ⟨g, 0, rfl, h5.lt, fun i hi c hc => ?_⟩⟩
    obtain ⟨cur, q1, q2, q3⟩ := h5
    have := q3 i hi c hc
    simp only [Nat.zero_add]
    simp [World.cell?, q1, this]
theorem EntO.toS {w : World} {base hi B cap n : Nat} {ls : List En} {H : Nat → Option Nat × Nat} (h : EntO w base hi B cap n ls H) (hl : ls.length = n) (hn : n ≤ cap) (hm : cap ≤ maxLen) (wf : ∀ i, i < n → enwf (eng ls i)) : EntS w (some ⟨B, 0, none⟩) n cap ls := by
  obtain ⟨cur, h1, h2, h3⟩ := h.blk
  refine ⟨hl, hn, hm, (fun h => by cases h), wf, fun _ => ⟨B, 0, rfl, lt_of_block h1, fun i hi => ?_⟩⟩
  have hi' : i < n := by omega
  obtain ⟨q1, q2⟩ := h3 i hi'
  obtain ⟨v, m, e, hp⟩ := (h.kid i hi').toS (wf i hi').2
  refine ⟨fun c hc => ?_, v, m, ?_, hp⟩
  · have := q1 c hc
    simp only [Nat.zero_add]
    simp [World.cell?, h1, this]
  · rw [← e]
    simp only [Nat.zero_add]
    simp [World.cell?, h1, q2]

theorem eqState_same (s : St) (na : Option Addr) (nc : Nat) (ea : Option Addr) (ec : Nat) (na' : Option Addr) (nc' : Nat) (ea' : Option Addr) (ec' : Nat) (w : World) (h : StS w s na nc ea ec) (h' : StS w s na' nc' ea' ec') :
    Calls Tryz.prog 9 #[stV s na nc ea ec, stV s na' nc' ea' ec'] w fun e w' => e = .returned (.bool true) ∧ Below w.heap.size w w' := by
  unfold stV
  obtain ⟨W0, hW0⟩ : ∃ W0, W0 = (w.alloc (.cells #[.int .i64 s.now, .slice na s.nodes.length nc, .slice ea s.ents.length ec, .int .i64 s.next, .int .i64 s.eps] 32)).alloc (.cells #[.int .i64 s.now, .slice na' s.nodes.length nc', .slice ea' s.ents.length ec', .int .i64 s.next, .int .i64 s.eps] 32) := ⟨_, rfl⟩
  have B0 : Below w.heap.size w W0 := by rw [hW0]; exact box_below0.alloc (by simp) _
  have x0 : W0.heap[w.heap.size]? = some (.cells #[.int .i64 s.now, .slice na s.nodes.length nc, .slice ea s.ents.length ec, .int .i64 s.next, .int .i64 s.eps] 32 (0, 0)) := by rw [hW0]; exact (Below.heap_alloc _ _ _ (by simp)).trans (heap_alloc_new _ _)
  have y0 : W0.heap[w.heap.size + 1]? = some (.cells #[.int .i64 s.now, .slice na' s.nodes.length nc', .slice ea' s.ents.length ec', .int .i64 s.next, .int .i64 s.eps] 32 (0, 0)) := by rw [hW0]; exact new_box _ _ _ (by simp)
  have lx := lt_of_block x0
  have ly := lt_of_block y0
  have HX : Hid (∀ W, Below W0.heap.size W0 W → Box5 W w.heap.size (.int .i64 s.now) (.slice na s.nodes.length nc) (.slice ea s.ents.length ec) (.int .i64 s.next) (.int .i64 s.eps)) := fun W hW => box5 ((hW.block _ lx).trans x0)
  have HY : Hid (∀ W, Below W0.heap.size W0 W → Box5 W (w.heap.size + 1) (.int .i64 s.now) (.slice na' s.nodes.length nc') (.slice ea' s.ents.length ec') (.int .i64 s.next) (.int .i64 s.eps)) := fun W hW => box5 ((hW.block _ ly).trans y0)
  clear x0 y0 lx ly
  obtain ⟨c0, c1, c2, c3, c4, _, _, _, _, _⟩ := HX.out W0 (Below.refl _ _)
  obtain ⟨d0, d1, d2, d3, d4, _, _, _, _, _⟩ := HY.out W0 (Below.refl _ _)
  go_enter Tryz.func9, Tryz.ntmps9
  go_upto_region 1 with fail
  rw [← hW0]
  clear hW0
  go_wp2_with fail
  refine (eqNodeS_same _ _ _ _ _ _ _ (h.nd.below B0) (h'.nd.below B0)).mono ?_
  rintro en w1 ⟨rfl, hb1⟩
  have B1 := B0.then hb1 B0.size
  clear c0 c1 c2 c3 c4 d0 d1 d2 d3 d4
  obtain ⟨c0, c1, c2, c3, c4, _, _, _, _, _⟩ := HX.out w1 hb1
  obtain ⟨d0, d1, d2, d3, d4, _, _, _, _, _⟩ := HY.out w1 hb1
  go_wp2_with fail
  refine (eqEntryS_same _ _ _ _ _ _ _ (h.en.below B1) (h'.en.below B1)).mono ?_
  rintro en w2 ⟨rfl, hb2⟩
  have B2 := B1.then hb2 B1.size
  clear c0 c1 c2 c3 c4 d0 d1 d2 d3 d4
  obtain ⟨c0, c1, c2, c3, c4, _, _, _, _, _⟩ := HX.out w2 (hb1.then hb2 hb1.size)
  obtain ⟨d0, d1, d2, d3, d4, _, _, _, _, _⟩ := HY.out w2 (hb1.then hb2 hb1.size)
  go_wp2_with fail
  go_ret
  exact ⟨rfl, B2⟩

/-- a state of the call's own: its Nodes in block Bn, its Entries in block Be -/
structure StO (w : World) (base hi : Nat) (s : St) (Bn cn Be ce : Nat) (H : Nat → Option Nat × Nat) : Prop where
  nd : NodeB w Bn cn s.nodes.length s.nodes
  n0 : base ≤ Bn
  n1 : Bn < hi
  nc : s.nodes.length ≤ cn
  nm : cn ≤ maxLen
  en : EntO w base hi Be ce s.ents.length s.ents H
  ec : s.ents.length ≤ ce
  em : ce ≤ maxLen
  ne : Bn ≠ Be
  na : ∀ i, i < s.ents.length → (H i).1 ≠ some Bn
theorem sizedState : (Tryz.prog.info? 32).map (·.size) = some 5 := by kernel_rfl
theorem NodeB.blk {w w' : World} {g c n : Nat} {ps : List Nd} (h : NodeB w g c n ps) (hb : w'.heap[g]? = w.heap[g]?) : NodeB w' g c n ps := by
  obtain ⟨cur, h1, h2⟩ := h
  exact ⟨cur, hb.trans h1, h2⟩

set_option maxRecDepth 8000 in
set_option maxHeartbeats 4000000 in
theorem toState_any (s : St) (na : Option Addr) (nc : Nat) (ea : Option Addr) (ec : Nat) (w : World) (h : StS w s na nc ea ec) (hs : stSmall s) :
    Calls Tryz.prog 6 #[stV s na nc ea ec] w fun e w' => ∃ Bn Be H, e = .returned (stV s (some ⟨Bn, 0, none⟩) s.nodes.length (some ⟨Be, 0, none⟩) s.ents.length) ∧ StO w' w.heap.size w'.heap.size s Bn s.nodes.length Be s.ents.length H ∧ Below w.heap.size w w' := by
  unfold stV
  obtain ⟨W0, hW0⟩ : ∃ W0, W0 = ((w.alloc (.cells #[.int .i64 s.now, .slice na s.nodes.length nc, .slice ea s.ents.length ec, .int .i64 s.next, .int .i64 s.eps] 25)).alloc (.cells #[.int .i64 0, .slice none 0 0, .slice none 0 0, .int .i64 0, .int .i64 0] 32)).alloc (.cells #[.int .i64 0, .slice none 0 0, .slice none 0 0, .int .i64 0, .int .i64 0] 32) := ⟨_, rfl⟩
  have B0 : Below w.heap.size w W0 := by rw [hW0]; exact (box_below0.alloc (by simp) _).alloc (by simp; omega) _
  have s0 : W0.heap.size = w.heap.size + 3 := by rw [hW0]; simp
  have x0 : W0.heap[w.heap.size]? = some (.cells #[.int .i64 s.now, .slice na s.nodes.length nc, .slice ea s.ents.length ec, .int .i64 s.next, .int .i64 s.eps] 25 (0, 0)) := by rw [hW0]; exact (Below.heap_alloc _ _ _ (by simp; omega)).trans ((Below.heap_alloc _ _ _ (by simp)).trans (heap_alloc_new _ _))
  have r0 : W0.heap[w.heap.size + 1]? = some (.cells #[.int .i64 0, .slice none 0 0, .slice none 0 0, .int .i64 0, .int .i64 0] 32 (0, 0)) := by rw [hW0]; exact (Below.heap_alloc _ _ _ (by simp)).trans (new_box _ _ _ (by simp))
  have o0 : W0.heap[w.heap.size + 1 + 1]? = some (.cells #[.int .i64 0, .slice none 0 0, .slice none 0 0, .int .i64 0, .int .i64 0] 32 (0, 0)) := by rw [hW0]; exact new_box _ _ _ (by simp)
  have HN : Hid (∀ W, Below w.heap.size w W → NodeS W na s.nodes.length nc s.nodes) := fun W hW => h.nd.below hW
  have HE : Hid (∀ W, Below w.heap.size w W → EntS W ea s.ents.length ec s.ents) := fun W hW => h.en.below hW
  obtain ⟨hs1, hs2, hs3⟩ := hs
  clear h
  go_enter Tryz.func6, Tryz.ntmps6
  go_upto_region 2 with fail
  rw [← hW0]
  clear hW0
  generalize hXe : w.heap.size = X at B0 s0 x0 r0 o0 HN HE ⊢
  have HXe : Hid (w.heap.size = X) := hXe
  clear hXe
  obtain ⟨a0, a1, a2, a3, a4, _, _, _, _, _⟩ := box5 x0
  obtain ⟨b0, b1, b2, b3, b4, f0, f1, f2, f3, f4⟩ := box5 o0
  -- the time, then the nodes
  have o1 := pst_0 o0 (.int .i64 s.now)
  have B1 := pst_0_below B0 (show X ≤ X + 1 + 1 by omega) (.int .i64 s.now)
  have x1 := (pst_0_keep (W := W0) (show X ≠ X + 1 + 1 by omega) (.int .i64 s.now)).trans x0
  have r1 := (pst_0_keep (W := W0) (show X + 1 ≠ X + 1 + 1 by omega) (.int .i64 s.now)).trans r0
  go_wp2_with fail
  generalize W0.setCell ⟨X + 1 + 1, 0, none⟩ (.int .i64 s.now) = W1 at o1 B1 x1 r1 ⊢
  have s1 := lt_of_block o1
  clear a0 a1 a2 a3 a4 b0 b1 b2 b3 b4 f0 f1 f2 f3 f4 x0 r0 o0 B0 s0
  refine (toNodeS_any na s.nodes.length nc s.nodes _ (HN.out _ B1) hs1).mono ?_
  rintro e w2 ⟨Bn, rfl, hBn, hNB, hb2⟩
  have o2 := (hb2.block _ s1).trans o1
  have x2 := (hb2.block _ (by omega)).trans x1
  have r2 := (hb2.block _ (by omega)).trans r1
  have B2 : Below X w w2 := B1.trans (hb2.mono (by omega))
  have l2 := hNB.lt
  have s2 : W1.heap.size ≤ w2.heap.size := hb2.size
  clear o1 x1 r1 hb2 B1
  obtain ⟨a0, a1, a2, a3, a4, _, _, _, _, _⟩ := box5 x2
  obtain ⟨b0, b1, b2, b3, b4, f0, f1, f2, f3, f4⟩ := box5 o2
  have o3 := pst_1 o2 (.slice (some ⟨Bn, 0, none⟩) s.nodes.length s.nodes.length)
  have B3 := pst_1_below B2 (show X ≤ X + 1 + 1 by omega) (.slice (some ⟨Bn, 0, none⟩) s.nodes.length s.nodes.length)
  have x3 := (pst_1_keep (W := w2) (show X ≠ X + 1 + 1 by omega) (.slice (some ⟨Bn, 0, none⟩) s.nodes.length s.nodes.length)).trans x2
  have r3 := (pst_1_keep (W := w2) (show X + 1 ≠ X + 1 + 1 by omega) (.slice (some ⟨Bn, 0, none⟩) s.nodes.length s.nodes.length)).trans r2
  have N3 := hNB.blk (pst_1_keep (W := w2) (show Bn ≠ X + 1 + 1 by omega) (.slice (some ⟨Bn, 0, none⟩) s.nodes.length s.nodes.length))
  have z3 : (w2.setCell ⟨X + 1 + 1, 1, none⟩ (.slice (some ⟨Bn, 0, none⟩) s.nodes.length s.nodes.length)).heap.size = w2.heap.size := by simp [World.setCell]
  go_wp2_with fail
  generalize w2.setCell ⟨X + 1 + 1, 1, none⟩ (.slice (some ⟨Bn, 0, none⟩) s.nodes.length s.nodes.length) = W3 at o3 B3 x3 r3 N3 z3 ⊢
  clear a0 a1 a2 a3 a4 b0 b1 b2 b3 b4 f0 f1 f2 f3 f4 x2 r2 o2 B2 hNB
  refine (toEntryS_any ea s.ents.length ec s.ents _ (HE.out _ B3) hs2 hs3).mono ?_
  rintro e w4 ⟨Be, H, rfl, hEO, hb4⟩
  have o4 := (hb4.block _ (by omega)).trans o3
  have x4 := (hb4.block _ (by omega)).trans x3
  have r4 := (hb4.block _ (by omega)).trans r3
  have N4 := N3.below hb4
  have B4 : Below X w w4 := B3.trans (hb4.mono (by omega))
  have s4 : W3.heap.size ≤ w4.heap.size := hb4.size
  clear o3 x3 r3 N3 hb4 B3
  obtain ⟨a0, a1, a2, a3, a4, _, _, _, _, _⟩ := box5 x4
  obtain ⟨b0, b1, b2, b3, b4, f0, f1, f2, f3, f4⟩ := box5 o4
  obtain ⟨d0, d1, d2, d3, d4, q0, q1, q2, q3, q4⟩ := box5 r4
  have HR : Hid _ := pst5 ((pst_4_keep (show X + 1 ≠ X + 1 + 1 by omega) (.int .i64 s.eps)).trans ((pst_3_keep (show X + 1 ≠ X + 1 + 1 by omega) (.int .i64 s.next)).trans ((pst_2_keep (W := w4) (show X + 1 ≠ X + 1 + 1 by omega) (.slice (some ⟨Be, 0, none⟩) s.ents.length s.ents.length)).trans r4))) (.int .i64 s.now) (.slice (some ⟨Bn, 0, none⟩) s.nodes.length s.nodes.length) (.slice (some ⟨Be, 0, none⟩) s.ents.length s.ents.length) (.int .i64 s.next) (.int .i64 s.eps)
  have HB : Hid _ := pst5_below (pst_4_below (pst_3_below (pst_2_below B4 (show X ≤ X + 1 + 1 by omega) (.slice (some ⟨Be, 0, none⟩) s.ents.length s.ents.length)) (show X ≤ X + 1 + 1 by omega) (.int .i64 s.next)) (show X ≤ X + 1 + 1 by omega) (.int .i64 s.eps)) (show X ≤ X + 1 by omega) (.int .i64 s.now) (.slice (some ⟨Bn, 0, none⟩) s.nodes.length s.nodes.length) (.slice (some ⟨Be, 0, none⟩) s.ents.length s.ents.length) (.int .i64 s.next) (.int .i64 s.eps)
  have HK : Hid (∀ r, r ≠ X + 1 + 1 → r ≠ X + 1 → _) := fun r n1 n2 => (pst5_keep n2 (.int .i64 s.now) (.slice (some ⟨Bn, 0, none⟩) s.nodes.length s.nodes.length) (.slice (some ⟨Be, 0, none⟩) s.ents.length s.ents.length) (.int .i64 s.next) (.int .i64 s.eps)).trans ((pst_4_keep n1 (.int .i64 s.eps)).trans ((pst_3_keep n1 (.int .i64 s.next)).trans (pst_2_keep (W := w4) n1 (.slice (some ⟨Be, 0, none⟩) s.ents.length s.ents.length))))
  have HZ : Hid (∀ W : World, W.heap.size = w4.heap.size → w4.heap.size ≤ W.heap.size) := fun W h => by omega
  have HO : Hid (StO w4 X w4.heap.size s Bn s.nodes.length Be s.ents.length H ∧ X + 1 + 1 < Bn ∧ EntO w4 (X + 3) w4.heap.size Be s.ents.length s.ents.length s.ents H) := by
    have l1 := hEO.lo
    refine ⟨⟨N4, by omega, by omega, Nat.le_refl _, by unfold maxLen; omega, hEO.low (by omega) (Nat.le_refl _), Nat.le_refl _, by unfold maxLen; omega, by omega, fun i hi h9 => ?_⟩, by omega, hEO.low (by omega) (Nat.le_refl _)⟩
    rcases hEO.kid i hi with ⟨k1, _⟩ | ⟨g, k1, k2, _⟩
    · rw [k1] at h9; cases h9
    · rw [k1] at h9
      have : g = Bn := Option.some.inj h9
      omega
  clear o4 x4 r4 N4 hEO B4 s4 l2 s2 s1 hBn z3 HN HE
  go_wp2_with fail
  refine bodyPost_ret (results_cell_row rfl _ _ (X + 1) _ _ _ _ rfl HR.out Tryz.underlying32 rfl sizedState) rfl ?_
  obtain ⟨O1, O2, O3⟩ := HO.out
  have hX9 := HXe.out
  subst hX9
  refine ⟨Bn, Be, H, rfl, ⟨O1.nd.blk (HK.out Bn (by omega) (by omega)), O1.n0, ?_, O1.nc, O1.nm, ?_, O1.ec, O1.em, O1.ne, O1.na⟩, HB.out⟩
  · have := O1.n1
    simpa [World.setCell] using this
  · have E9 := O3.keep (w' := _) (fun r h1 h2 => HK.out r (by omega) (by omega))
    refine E9.low (by omega) ?_
    simp [World.setCell]

end Go.Proofs.YtdgfkcobhhlfbaaGreat
