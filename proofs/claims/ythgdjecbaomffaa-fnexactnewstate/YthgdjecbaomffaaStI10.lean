/- The program's chapter 13, tenth part: slices.Clone of Nodes; own of a State without Entries; NewState. -/
import Derived.Test.YthgdjecbaomffaaStI7
import Derived.Test.YthgdjecbaomffaaStateS9
namespace Go.Proofs.Ythgdjecbaomffaa
open Go.RowKit Go.Sort

theorem eqNil_in (w : World) (d : Nat) (t e : TypeId) (a : Option Addr) (l c : Nat) (h : Try.prog.underlying t = some (.slice e)) : (Op.equalIn (d + 1) t (.slice a l c) (.slice none 0 0)).run Try.prog w = .ok a.isNone w := by
  cases a <;> simp [Op.equalIn, run_underlying h]
theorem eqNil (w : World) (t e : TypeId) (a : Option Addr) (l c : Nat) (h : Try.prog.underlying t = some (.slice e)) : (binOp .eql t (.slice a l c) (.slice none 0 0)).run Try.prog w = .ok (.bool a.isNone) w := by
  have h9 : (Op.equal t (.slice a l c) (.slice none 0 0)).run Try.prog w = .ok a.isNone w := eqNil_in w 9999 t e a l c h
  simp [binOp, h9]

set_option maxRecDepth 8000 in
set_option maxHeartbeats 2000000 in
theorem cloneNode_any (a : Option Addr) (n cap : Nat) (l : List Nd) (w : World) (h : NodeS w a n cap l) (hn : n ≤ 1048576) :
    Calls Try.prog 68 #[.slice a n cap] w fun e w' => ∃ v c, e = .returned (.slice v n c) ∧ LNode w' w.heap.size v n c l ∧ Below w.heap.size w w' := by
  obtain ⟨i1, hj, hj0, hj1, hj2⟩ := info_parts infoNode
  have hlen := h.len
  rcases a with _ | ad
  · have hc := h.nil rfl
    have hle := h.le
    obtain rfl : n = 0 := by omega
    have hl : l = [] := List.eq_nil_of_length_eq_zero hlen
    subst hl
    subst hc
    have hnil := fun W => eqNil W 28 _ none 0 0 Try.underlying28
    clear h
    go_enter Try.func68, Try.ntmps68
    go_wp2
    go_ret
    exact ⟨none, 0, rfl, ⟨rfl, Or.inl ⟨rfl, rfl, rfl⟩⟩, Below.refl _ _⟩
  · obtain ⟨W1, hW1⟩ : ∃ W1, W1 = w.alloc (.cells #[] 68) := ⟨_, rfl⟩
    have O1 : W1.ownsRow w.heap.size 68 2 (.slice (some ⟨w.heap.size, 0, none⟩) 0 0) 0 [] := by rw [hW1]; exact World.ownsRow_made w #[] 0 (Nat.le_refl _) (Nat.zero_le _) rfl
    have B1 : Below w.heap.size w W1 := by rw [hW1]; exact box_below0
    have s1 := B1.size
    have hnl := ndcells_len l
    have hsrc : ∀ j y, (ndcells l)[j]? = some y → W1.cell? (ad.add j) = some y := fun j y hjy => by
      obtain ⟨q1, rfl⟩ := ndcells_get hjy
      obtain ⟨b, off, e, hbw, hat⟩ := h.at_ (by omega)
      obtain rfl : ad = ⟨b, off, none⟩ := Option.some.inj e
      have hadd : (⟨b, off, none⟩ : Addr).add j = ⟨b, off + j, none⟩ := by unfold Addr.add; split <;> simp_all
      have := (B1.cell (p := ⟨b, off + j / 2 * 2 + j % 2, none⟩) hbw).trans (hat (j / 2) q1 (j % 2) (by omega))
      rw [hadd, show off + j = off + j / 2 * 2 + j % 2 by omega]; exact this
    have hnil := fun W => eqNil W 28 _ (some ad) n cap Try.underlying28
    clear h
    go_enter Try.func68, Try.ntmps68
    go_wp2_with (at_builtin; rw [← hW1]; refine wpList_append_own _ rfl (.tmp 5) (.tmp 6) 28 rfl w.heap.size 68 i1 (.agg #[.int .i64 0, .int .i64 0]) 2 16 Try.underlying28 hj hj0 hj1 hj2 rfl (by decide) _ _ _ rfl O1 ad n cap (ndcells l) rfl (by omega) hsrc (by intro y hy; obtain ⟨i, hi, rfl⟩ := List.getElem_of_mem hy; obtain ⟨_, e⟩ := ndcells_get (List.getElem?_eq_getElem hi); rw [e]; rfl) (by unfold maxLen; omega) (by omega) (by omega) ?_)
    intro v' w4 own' grow' nil'
    try rw [← hW1] at grow'
    have B4 : Below w.heap.size w w4 := B1.grown grow' (by omega) (fun r q => by simp [Value.ownBlock] at q; omega)
    have own2 : w4.ownsRow w.heap.size 68 2 v' l.length (ndcells l) := by rw [hlen]; simpa using own'
    obtain ⟨g, c, rfl, LN⟩ := LNode.of own2
    have HLN : Hid (LNode w4 w.heap.size g l.length c l) := LN
    have HL : Hid (l.length = n) := hlen
    clear own' own2 grow' nil' O1 hsrc LN hlen hnl
    go_wp2
    go_ret
    exact ⟨g, c, by rw [← HL.out]; rfl, by rw [← HL.out]; exact HLN.out, B4⟩

theorem cloneNoEnt (w : World) : Calls Try.prog 69 #[.slice none 0 0] w fun e w' => e = .returned (.slice none 0 0) ∧ w' = w := by
  have hnil := fun W => eqNil W 29 _ none 0 0 Try.underlying29
  go_enter Try.func69, Try.ntmps69
  go_wp2
  go_ret
  exact ⟨rfl, rfl⟩

theorem LNode.keepN {w w' : World} {base : Nat} {v : Option Addr} {n c : Nat} {ys : List Nd} (h : LNode w base v n c ys) (hb : ∀ g, base ≤ g → g < w.heap.size → w'.heap[g]? = w.heap[g]?) (hs : w.heap.size ≤ w'.heap.size) : LNode w' base v n c ys :=
  ⟨h.1, h.2.imp id fun ⟨g, e, O⟩ => ⟨g, e, O.keepN (hb g O.base O.lt) hs⟩⟩

set_option maxRecDepth 8000 in
set_option maxHeartbeats 2000000 in
theorem own0_any (a : Option Addr) (n cap : Nat) (l : List Nd) (w : World) (h : NodeS w a n cap l) (hn : n ≤ 1048576) :
    Calls Try.prog 44 #[.agg #[.int .i64 0, .slice a n cap, .slice none 0 0, .int .i64 1, .int .i64 0]] w fun e w' => ∃ v c, e = .returned (.agg #[.int .i64 0, .slice v n c, .slice none 0 0, .int .i64 1, .int .i64 0]) ∧ LNode w' w.heap.size v n c l ∧ Below w.heap.size w w' := by
  obtain ⟨Wa, hWa⟩ : ∃ Wa, Wa = w.alloc (.cells #[.int .i64 0, .slice a n cap, .slice none 0 0, .int .i64 1, .int .i64 0] 31) := ⟨_, rfl⟩
  have ba : Below w.heap.size w Wa := by rw [hWa]; exact box_below0
  have xa : Wa.heap[w.heap.size]? = some (.cells #[.int .i64 0, .slice a n cap, .slice none 0 0, .int .i64 1, .int .i64 0] 31 (0, 0)) := by rw [hWa]; exact heap_alloc_new _ _
  obtain ⟨W0, hW0⟩ : ∃ W0, W0 = Wa.alloc (.cells #[.int .i64 0, .slice none 0 0, .slice none 0 0, .int .i64 0, .int .i64 0] 31) := ⟨_, rfl⟩
  have bb : Below Wa.heap.size Wa W0 := by rw [hW0]; exact box_below0
  have la := lt_of_block xa
  have x0 := (bb.block _ la).trans xa
  have r0 : W0.heap[w.heap.size + 1]? = some (.cells #[.int .i64 0, .slice none 0 0, .slice none 0 0, .int .i64 0, .int .i64 0] 31 (0, 0)) := by rw [hW0]; exact new_box _ _ _ (by rw [hWa]; simp)
  have B0 : Below w.heap.size w W0 := ba.then bb ba.size
  have lr := lt_of_block r0
  have CC := cloneNode_any a n cap l W0 (h.below B0) hn
  obtain ⟨c0, c1, c2, c3, c4, f0, f1, f2, f3, f4⟩ := box5 x0
  rw [hWa] at hW0
  clear hWa xa la ba bb h
  go_enter Try.func44, Try.ntmps44
  go_upto_region 1 with fail
  rw [← hW0]
  clear hW0
  -- the nodes
  go_wp2_with fail
  refine CC.mono ?_
  rintro e w1 ⟨v, c, rfl, hLN, hb1⟩
  have x1 := (hb1.block _ (lt_of_block x0)).trans x0
  have r1 := (hb1.block _ lr).trans r0
  have B1 := B0.then hb1 B0.size
  have l1 : W0.heap.size ≤ w1.heap.size := hb1.size
  clear c0 c1 c2 c3 c4 f0 f1 f2 f3 f4 x0 r0 CC
  obtain ⟨c0, c1, c2, c3, c4, f0, f1, f2, f3, f4⟩ := box5 x1
  have x2 := pst_1 x1 (.slice v n c)
  have r2 := (pst_1_keep (W := w1) (show w.heap.size + 1 ≠ w.heap.size by omega) (.slice v n c)).trans r1
  have B2 := pst_1_below B1 (Nat.le_refl w.heap.size) (.slice v n c)
  have N2 : LNode (w1.setCell ⟨w.heap.size, 1, none⟩ (.slice v n c)) W0.heap.size v n c l := hLN.keepN (fun g h1 _ => pst_1_keep (by omega) _) (by simp [World.setCell])
  have z2 : (w1.setCell ⟨w.heap.size, 1, none⟩ (.slice v n c)).heap.size = w1.heap.size := by simp [World.setCell]
  go_upto_region 2 with fail
  generalize w1.setCell ⟨w.heap.size, 1, none⟩ (.slice v n c) = W2 at x2 r2 B2 N2 z2 ⊢
  clear c0 c1 c2 c3 c4 f0 f1 f2 f3 f4 x1 r1 hLN
  obtain ⟨c0, c1, c2, c3, c4, f0, f1, f2, f3, f4⟩ := box5 x2
  have x3 := pst_2 x2 (.slice none 0 0)
  have r3 := (pst_2_keep (W := W2) (show w.heap.size + 1 ≠ w.heap.size by omega) (.slice none 0 0)).trans r2
  have B3 := pst_2_below B2 (Nat.le_refl w.heap.size) (.slice none 0 0)
  have N3 : LNode (W2.setCell ⟨w.heap.size, 2, none⟩ (.slice none 0 0)) W0.heap.size v n c l := N2.keepN (fun g h1 _ => pst_2_keep (by omega) _) (by simp [World.setCell])
  have z3 : (W2.setCell ⟨w.heap.size, 2, none⟩ (.slice none 0 0)).heap.size = W2.heap.size := by simp [World.setCell]
  go_upto_region 3 with (go_at_call 69; refine (cloneNoEnt _).mono ?_; rintro e9 w9 ⟨rfl, hq⟩; have hq' := hq.symm; clear hq; subst hq')
  generalize W2.setCell ⟨w.heap.size, 2, none⟩ (.slice none 0 0) = W3 at x3 r3 B3 N3 z3 ⊢
  clear c0 c1 c2 c3 c4 f0 f1 f2 f3 f4 x2 r2 N2
  obtain ⟨c0, c1, c2, c3, c4, _, _, _, _, _⟩ := box5 x3
  obtain ⟨_, _, _, _, _, f0, f1, f2, f3, f4⟩ := box5 r3
  obtain ⟨q0, q1, q2, q3, q4, _, _, _, _, _⟩ := box5 r3
  have HE : Hid _ := set5 r3 (.int .i64 0) (.slice v n c) (.slice none 0 0) (.int .i64 1) (.int .i64 0)
  have HB : Hid _ := below5 B3 (show w.heap.size ≤ w.heap.size + 1 by omega) (.int .i64 0) (.slice v n c) (.slice none 0 0) (.int .i64 1) (.int .i64 0)
  have HN : Hid (LNode (((((W3.setCell ⟨w.heap.size + 1, 0, none⟩ (.int .i64 0)).setCell ⟨w.heap.size + 1, 1, none⟩ (.slice v n c)).setCell ⟨w.heap.size + 1, 2, none⟩ (.slice none 0 0)).setCell ⟨w.heap.size + 1, 3, none⟩ (.int .i64 1)).setCell ⟨w.heap.size + 1, 4, none⟩ (.int .i64 0)) w.heap.size v n c l) :=
    (N3.keepN (fun g h1 _ => set5_other (by omega) _ _ _ _ _) (by simp [World.setCell])).low (by omega)
  clear x3 r3 B3 N3
  go_wp2
  refine wp_loop_rounds 1 ?_
  rw [rounds_succ]
  go_wp2
  refine bodyPost_ret (results_cell_row rfl _ _ (w.heap.size + 1) _ _ _ _ rfl HE.out Try.underlying31 rfl sizedState) rfl ?_
  exact ⟨v, c, rfl, HN.out, HB.out⟩

/-- a State without Entries is right just where its Nodes are -/
theorem so_new (l : List Nd) : soB ⟨0, l, [], 1, 0⟩ = nsB l := by
  rcases q : nsB l with _ | _
  · exact soB_no fun h => nsB_f q h.nd
  · have hn := nsB_t q
    refine soB_mk ⟨⟨by simp, by simp⟩, hn, ⟨by simp [jbK], fun i hi => by simp [jbK] at hi⟩, ⟨by simp, by simp⟩, ⟨by simp, by simp⟩, fun i hi => by simp at hi, ⟨hn, by simp [iuK], fun i hi => ?_⟩⟩
    have h0 : zg (iuK ⟨0, l, [], 1, 0⟩ 0) i = 0 := by simp [iuK, zg, hi]
    have := (nOk_t (hn.ok i hi)).1
    show 0 ≤ zg (iuK ⟨0, l, [], 1, 0⟩ 0) i ∧ zg (iuK ⟨0, l, [], 1, 0⟩ 0) i ≤ _
    rw [h0]
    exact ⟨Int.le_refl _, by show (0 : Int) ≤ (ndg l i).cores; omega⟩

set_option maxRecDepth 8000 in
set_option maxHeartbeats 2000000 in
theorem implNewState_any (a : Option Addr) (n cap : Nat) (l : List Nd) (w : World) (h : NodeS w a n cap l) :
    Calls Try.prog 15 #[.slice a n cap] w fun e w' => ∃ v c ea ec, e = .returned (.tuple #[.agg #[.int .i64 0, .slice v (nsS l).nodes.length c, .slice ea 0 ec, .int .i64 (nsS l).next, .int .i64 0], .bool (nsB l)]) ∧ LNode w' w.heap.size v (nsS l).nodes.length c (nsS l).nodes ∧ EntS w' ea 0 ec [] ∧ Below w.heap.size w w' := by
  have hlen := h.len
  obtain ⟨Wa, hWa⟩ : ∃ Wa, Wa = w.alloc (.cells #[.int .i64 0, .slice none 0 0, .slice none 0 0, .int .i64 0, .int .i64 0] 31) := ⟨_, rfl⟩
  have ba : Below w.heap.size w Wa := by rw [hWa]; exact box_below0
  have xa : Wa.heap[w.heap.size]? = some (.cells #[.int .i64 0, .slice none 0 0, .slice none 0 0, .int .i64 0, .int .i64 0] 31 (0, 0)) := by rw [hWa]; exact heap_alloc_new _ _
  obtain ⟨W0, hW0⟩ : ∃ W0, W0 = Wa.alloc (.cells #[.int .i64 0, .slice a n cap, .slice none 0 0, .int .i64 1, .int .i64 0] 31) := ⟨_, rfl⟩
  have bb : Below Wa.heap.size Wa W0 := by rw [hW0]; exact box_below0
  have la := lt_of_block xa
  have r0 := (bb.block _ la).trans xa
  have x0 : W0.heap[w.heap.size + 1]? = some (.cells #[.int .i64 0, .slice a n cap, .slice none 0 0, .int .i64 1, .int .i64 0] 31 (0, 0)) := by rw [hW0]; exact new_box _ _ _ (by rw [hWa]; simp)
  have B0 : Below w.heap.size w W0 := ba.then bb ba.size
  have hS : StS W0 ⟨0, l, [], 1, 0⟩ a cap none 0 := ⟨by show NodeS W0 a l.length cap l; rw [hlen]; exact h.below B0, EntS.nil_ _⟩
  have C1 := implStateOk_w ⟨0, l, [], 1, 0⟩ a cap none 0 W0 hS (by simp) (by simp)
  have C2 : ∀ W, Below w.heap.size w W → n ≤ 1048576 → _ := fun W hW h1 => own0_any a n cap l W (h.below hW) h1
  rw [so_new] at C1
  unfold stV at C1
  simp only [hlen, List.length_nil] at C1
  obtain ⟨c0, c1, c2, c3, c4, _, _, _, _, _⟩ := box5 x0
  rw [hWa] at hW0
  clear hWa xa la ba bb h hS
  rcases hq : nsB l with _ | _
  · have E : nsS l = ⟨0, [], [], 0, 0⟩ := by unfold nsS; rw [hq]; rfl
    rw [E]
    rw [hq] at C1
    clear C2 E
    go_enter Try.func15, Try.ntmps15
    go_upto_region 2 with fail
    rw [← hW0]
    clear hW0
    go_wp2_with fail
    refine C1.mono ?_
    rintro e w1 ⟨rfl, hb1⟩
    have r1 := (hb1.block _ (lt_of_block r0)).trans r0
    have B1 := B0.then hb1 B0.size
    have HE : Hid _ := set5 r1 (.int .i64 0) (.slice none 0 0) (.slice none 0 0) (.int .i64 0) (.int .i64 0)
    have HB : Hid _ := below5 B1 (Nat.le_refl _) (.int .i64 0) (.slice none 0 0) (.slice none 0 0) (.int .i64 0) (.int .i64 0)
    obtain ⟨g0, g1, g2, g3, g4, f0, f1, f2, f3, f4⟩ := box5 r1
    clear r1 r0 x0 c0 c1 c2 c3 c4
    go_wp2
    refine bodyPost_ret (results_ct rfl _ _ w.heap.size _ _ _ _ rfl HE.out Try.underlying31 rfl sizedState _ rfl) rfl ?_
    exact ⟨none, 0, none, 0, rfl, ⟨rfl, Or.inl ⟨rfl, rfl, rfl⟩⟩, EntS.nil_ _, HB.out⟩
  · have E : nsS l = ⟨0, l, [], 1, 0⟩ := by unfold nsS; rw [hq]; rfl
    have hn8 := (nsB_t hq).n2
    rw [E]
    rw [hq] at C1
    clear E
    go_enter Try.func15, Try.ntmps15
    go_upto_region 2 with fail
    rw [← hW0]
    clear hW0
    go_wp2_with fail
    refine C1.mono ?_
    rintro e w1 ⟨rfl, hb1⟩
    have r1 := (hb1.block _ (lt_of_block r0)).trans r0
    have B1 := B0.then hb1 B0.size
    obtain ⟨d0, d1, d2, d3, d4, _, _, _, _, _⟩ := box5 ((hb1.block _ (lt_of_block x0)).trans x0)
    have C3 := C2 w1 B1 (by omega)
    have l1 : w.heap.size + 1 < w1.heap.size := Nat.lt_of_lt_of_le (lt_of_block x0) hb1.size
    clear C1 C2 r0 x0 c0 c1 c2 c3 c4
    go_wp2_with fail
    refine C3.mono ?_
    rintro e w2 ⟨v, c, rfl, hLN, hb2⟩
    have r2 := (hb2.block _ (lt_of_block r1)).trans r1
    have B2 := B1.then hb2 B1.size
    have HE : Hid _ := set5 r2 (.int .i64 0) (.slice v n c) (.slice none 0 0) (.int .i64 1) (.int .i64 0)
    have HB : Hid _ := below5 B2 (Nat.le_refl _) (.int .i64 0) (.slice v n c) (.slice none 0 0) (.int .i64 1) (.int .i64 0)
    have HN : Hid (LNode (((((w2.setCell ⟨w.heap.size, 0, none⟩ (.int .i64 0)).setCell ⟨w.heap.size, 1, none⟩ (.slice v n c)).setCell ⟨w.heap.size, 2, none⟩ (.slice none 0 0)).setCell ⟨w.heap.size, 3, none⟩ (.int .i64 1)).setCell ⟨w.heap.size, 4, none⟩ (.int .i64 0)) w.heap.size v n c l) :=
      (hLN.keepN (fun g h1 _ => set5_other (by omega) _ _ _ _ _) (by simp [World.setCell])).low (by omega)
    obtain ⟨g0, g1, g2, g3, g4, f0, f1, f2, f3, f4⟩ := box5 r2
    have HL : Hid (l.length = n) := hlen
    clear r1 r2 d0 d1 d2 d3 d4 hLN hlen
    go_wp2
    refine bodyPost_ret (results_ct rfl _ _ w.heap.size _ _ _ _ rfl HE.out Try.underlying31 rfl sizedState _ rfl) rfl ?_
    exact ⟨v, c, none, 0, by rw [HL.out]; rfl, by rw [HL.out]; exact HN.out, EntS.nil_ _, HB.out⟩

end Go.Proofs.Ythgdjecbaomffaa
