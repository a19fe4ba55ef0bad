/- Parts drawn; DrawTaken, DrawGiven. -/
import Derived.Test.YtkkbfblgnejonaaNodeDr
import Derived.Test.YtkkbfblgnejonaaPartMk
namespace Go.Proofs.Ytkkbfblgnejonaa
open Go.RowKit Go.Sort

theorem PLst.own {w : World} {base : Nat} {v : Option Addr} {n c : Nat} {ps : List Pt} (h : PLst w base v n c ps) : w.ownsRow base 37 2 (.slice v n c) n (ptcells ps) := by
  obtain ⟨rfl, ⟨rfl, rfl, rfl⟩ | ⟨g, rfl, O⟩⟩ := h
  · exact ⟨rfl, .inl ⟨rfl, rfl⟩⟩
  · exact O.own
theorem PLst.but {w w' : World} {cb base : Nat} {v : Option Addr} {n c : Nat} {ps : List Pt} (h : PLst w base v n c ps) (hb : But cb w w') (hc : cb < base) : PLst w' base v n c ps := by
  obtain ⟨e, h⟩ := h
  refine ⟨e, h.imp id ?_⟩
  rintro ⟨g, e, O⟩
  have := O.base
  exact ⟨g, e, O.blk (hb.block g O.lt (by omega))⟩
theorem LInt.but {w w' : World} {cb base : Nat} {v : Option Addr} {n c : Nat} {ys : List Int} (h : LInt w base v n c ys) (hb : But cb w w') (hc : cb < base) : LInt w' base v n c ys := by
  obtain ⟨e, h⟩ := h
  refine ⟨e, h.imp id ?_⟩
  rintro ⟨g, e1, hg, hI, r⟩
  exact ⟨g, e1, hg, (by obtain ⟨cur, q1, q2⟩ := hI; exact ⟨cur, (hb.block g (lt_of_block q1) (by omega)).trans q1, q2⟩), r⟩
theorem LInt.blk {w w' : World} {base g : Nat} {n c : Nat} {ys : List Int} (h : LInt w base (some ⟨g, 0, none⟩) n c ys) (hb : w'.heap[g]? = w.heap[g]?) : LInt w' base (some ⟨g, 0, none⟩) n c ys := by
  obtain ⟨e, ⟨e1, _⟩ | ⟨g', e1, hg, hI, r⟩⟩ := h
  · cases e1
  · injection e1 with e2; injection e2 with e3; subst e3
    exact ⟨e, Or.inr ⟨g, rfl, hg, (by obtain ⟨cur, q1, q2⟩ := hI; exact ⟨cur, hb.trans q1, q2⟩), r⟩⟩
theorem LInt.lt {w : World} {base g : Nat} {n c : Nat} {ys : List Int} (h : LInt w base (some ⟨g, 0, none⟩) n c ys) : g < w.heap.size := by
  obtain ⟨e, ⟨e1, _⟩ | ⟨g', e1, hg, hI, r⟩⟩ := h
  · cases e1
  · injection e1 with e2; injection e2 with e3; subst e3
    obtain ⟨cur, q1, q2⟩ := hI
    exact lt_of_block q1
/-- whose block a call's own row is -/
theorem PLst.above {w : World} {base : Nat} {v : Option Addr} {n c : Nat} {ps : List Pt} (h : PLst w base v n c ps) : ∀ r, some r = (Value.slice v n c).ownBlock → base ≤ r := fun r e => (World.ownsRow.lt h.own r e.symm).1
theorem LInt.nil {w : World} {base : Nat} {v : Option Addr} {n c : Nat} {ys : List Int} (h : LInt w base v n c ys) : v = none → c = 0 := by
  intro hv
  obtain ⟨_, ⟨_, e, _⟩ | ⟨g, e, _⟩⟩ := h
  · exact e
  · rw [hv] at e; cases e

/-- drawn parts: none claims more than a node has -/
structure PtDr (ps : List Pt) : Prop where
  len : ps.length ≤ 9
  co : ∀ i, i < ps.length → -1 ≤ (ptg ps i).cores ∧ (ptg ps i).cores ≤ 101
  nd : ∀ i, i < ps.length → -1 ≤ (ptg ps i).node ∧ (ptg ps i).node ≤ 101
theorem PtDr.wf {ps : List Pt} (h : PtDr ps) : ∀ i, i < ps.length → ptwf (ptg ps i) := fun i hi c hc => by
  have h1 := h.co i hi
  have h2 := h.nd i hi
  rcases c with _ | _ | c
  · show -9223372036854775808 ≤ (ptg ps i).node ∧ (ptg ps i).node ≤ 9223372036854775807
    omega
  · show -9223372036854775808 ≤ (ptg ps i).cores ∧ (ptg ps i).cores ≤ 9223372036854775807
    omega
  · omega
theorem pkl_dr (l : List Nd) (u : List Int) (x : Int) : (pkl l u x).length ≤ 8 ∧ PtDr (pkl l u x) := by
  have h8 := (pkl_ok l u x).1
  refine ⟨h8, by omega, ?_, ?_⟩
  all_goals
    unfold pkl
    rcases e : (pkF l u x).isSome with _ | _
    · have : pkF l u x = none := by simpa using e
      rw [this]
      exact fun i hi => by simp at hi
    · obtain ⟨us, h1, h2, h3⟩ := pkF_some e
      rw [h3]
      have hn := us.ns.n2
      intro i hi
      simp only [Option.getD_some] at hi ⊢
      obtain ⟨j, hj, e1, e2, e3, e4⟩ := (pkP_at us (by omega) l.length (Nat.le_refl _)).1 i hi
      have hb := pkN_bd (c := x) (by omega) us hj
      omega
theorem PtDr.snoc {ps : List Pt} {a b : Int} (h : PtDr ps) (h8 : ps.length ≤ 8) (a0 : -1 ≤ a) (a1 : a ≤ 101) (b0 : -1 ≤ b) (b1 : b ≤ 101) : PtDr (ps ++ [⟨a, b⟩]) := by
  have key : ∀ i, i < (ps ++ [(⟨a, b⟩ : Pt)]).length → (i < ps.length ∧ ptg (ps ++ [⟨a, b⟩]) i = ptg ps i) ∨ ptg (ps ++ [⟨a, b⟩]) i = ⟨a, b⟩ := by
    intro i hi
    rw [List.length_append, List.length_singleton] at hi
    by_cases e : i < ps.length
    · exact Or.inl ⟨e, by unfold ptg; rw [List.getElem?_append_left e]⟩
    · obtain rfl : i = ps.length := by omega
      exact Or.inr (by unfold ptg; simp)
  refine ⟨by simp; omega, fun i hi => ?_, fun i hi => ?_⟩
  · rcases key i hi with ⟨h1, e⟩ | e
    · rw [e]; exact h.co i h1
    · rw [e]; exact ⟨b0, b1⟩
  · rcases key i hi with ⟨h1, e⟩ | e
    · rw [e]; exact h.nd i h1
    · rw [e]; exact ⟨a0, a1⟩

set_option maxRecDepth 8000 in
set_option maxHeartbeats 1000000 in
theorem l11DrawParts_any (cb : Nat) (a : Option Addr) (n cap : Nat) (zs : List Int) (w : World) (h : CurAt w cb a n cap zs) :
    Calls Try.prog 63 #[.pointer (some ⟨cb, 0, none⟩)] w fun e w' => ∃ (g2 c2 : Nat) (us : List Int) (v : Option Addr) (cp : Nat) (ps : List Pt), e = .returned (.tuple #[.slice (some ⟨g2, 0, none⟩) us.length c2, .slice v ps.length cp]) ∧ LInt w' w.heap.size (some ⟨g2, 0, none⟩) us.length c2 us ∧ us.length ≤ 9 ∧ usmall us ∧ PLst w' w.heap.size v ps.length cp ps ∧ PtDr ps ∧ CurAt w' cb a n cap zs ∧ But cb w w' := by
  obtain ⟨i1, hj, hj0, hj1, hj2⟩ := info_parts infoPart
  have hcb := h.lt
  go_enter Try.func63, Try.ntmps63
  go_wp2_with fail
  refine (l11Draw_any cb a n cap zs _ h).mono ?_
  rintro e w2 ⟨g, c, ys, rfl, O, hy, hA, c2, b2⟩
  have hgb := O.base
  go_wp2_with fail
  refine (l11DrawUsed_any cb a n cap zs g c _ ys _ c2 O (by omega) hy hA).mono ?_
  rintro e w3 ⟨g2, k2, us, rfl, L, hul, hus, c3, b3⟩
  have HN : Hid (NuA w3 w.heap.size g c g2 k2 ys us) := NuA.drawn hcb O hy hA b2 L hul hus b3
  have B3 := b2.trans b3
  clear O b2 b3 L hgb c2
  have hu9 : us.length ≤ 9 := by omega
  clear hul hy
  go_wp2_with fail
  refine (l1Below_any cb a n cap zs 5 _ c3 (by omega) (by omega)).mono ?_
  rintro e w4 ⟨x, rfl, x0, x1, c4, b4⟩
  have HN4 : Hid (NuA w4 w.heap.size g c g2 k2 ys us) := HN.out.but b4 hcb
  have B4 := B3.trans b4
  clear HN B3 b4 c3
  go_wp2_with fail
  refine (specPicked_any _ _ _ _ _ _ ys us (1 + x) _ HN4.out.toS HN4.out.toI).mono ?_
  rintro e w5 ⟨v, np, cp, b, rfl, hb5, pk⟩
  obtain ⟨eb, en, hL⟩ := pk.lst
  clear pk
  obtain ⟨hp8, hpd⟩ := pkl_dr ys us (1 + x)
  obtain ⟨ps, hps⟩ : ∃ ps, ps = pkl ys us (1 + x) := ⟨_, rfl⟩
  rw [← hps] at en hL hp8 hpd
  clear hps eb
  subst en
  have hcb4 := c4.lt
  have z4 := B4.size
  have c5 := c4.but hb5 hcb4
  have B5 : But cb w w5 := B4.trans (But.of hb5)
  have hab := hL.above
  have hg24 := HN4.out.lint.lt
  have HAB : Hid (∀ r, some r = (Value.slice v ps.length cp).ownBlock → g2 < r) := fun r e => Nat.lt_of_lt_of_le hg24 (hab r e)
  clear hab
  have HL5 : Hid (PLst w5 w.heap.size v ps.length cp ps) := hL.low z4
  have HU5 : Hid (LInt w5 w.heap.size (some ⟨g2, 0, none⟩) us.length k2 us) := HN4.out.lint.below hb5
  clear hL HN4 B4 c4
  go_wp2_with fail
  refine (l1Once_any cb a n cap zs 10 _ c5 (by omega) (by omega)).mono ?_
  rintro e w6 ⟨bo, rfl, c6, b6⟩
  have HL6 : Hid (PLst w6 w.heap.size v ps.length cp ps) := HL5.out.but b6 hcb
  have HU6 : Hid (LInt w6 w.heap.size (some ⟨g2, 0, none⟩) us.length k2 us) := HU5.out.but b6 hcb
  have B6 := B5.trans b6
  clear HL5 HU5 B5 b6 c5
  cases bo with
  | false =>
    go_wp2
    go_ret2
    exact ⟨g2, k2, us, v, cp, ps, rfl, HU6.out, hu9, hus, HL6.out, hpd, c6, B6⟩
  | true =>
    go_wp2_with fail
    refine (l1FromN_any cb a n cap zs (-1) 5 _ c6 (by omega) (by omega) (by omega)).mono ?_
    rintro e w7 ⟨xa, rfl, xa0, xa1, c7, b7⟩
    go_wp2_with fail
    refine (l1FromN_any cb a n cap zs (-1) 4 _ c7 (by omega) (by omega) (by omega)).mono ?_
    rintro e w8 ⟨xb, rfl, xb0, xb1, c8, b8⟩
    have B78 := b7.trans b8
    have HU8 : Hid (LInt w8 w.heap.size (some ⟨g2, 0, none⟩) us.length k2 us) := HU6.out.but B78 hcb
    have L8 : PLst w8 w.heap.size v ps.length cp ps := HL6.out.but B78 hcb
    have B8 := B6.trans B78
    have hcb8 := c8.lt
    have z8 := B8.size
    clear B6 B78 b7 b8 c6 c7 HU6 HL6
    have OA : (w8.alloc (.cells #[.int .i64 xa, .int .i64 xb] 37)).ownsRow w.heap.size 37 2 (.slice v ps.length cp) ps.length (ptcells ps) := (L8.below box_below0).own
    have hlt8 := World.ownsRow.lt L8.own
    go_wp2_with (at_builtin; refine wpList_append_own_at _ rfl (.tmp 24) (.tmp 30) 33 rfl w.heap.size 37 i1 (.agg #[.int .i64 0, .int .i64 0]) 2 16 Try.underlying33 hj hj0 hj1 hj2 rfl (by decide) _ _ _ rfl OA ⟨w8.heap.size, 0, none⟩ 1 1 [.int .i64 xa, .int .i64 xb] rfl rfl (newPart_plain w8 ⟨xa, xb⟩ _) (ptl_one ⟨xa, xb⟩) (by unfold maxLen; omega) (by omega) (by simp; omega) ?_)
    intro v9 w9 own9 grow9 nil9 at9
    have hc9 : CurAt w9 cb a n cap zs := c8.keep (fun r hr => (grow9.block r (by simp; omega) (fun e => by have := hlt8 r e.symm; omega)).trans (Below.heap_alloc _ _ _ (by omega))) (Nat.le_trans (by simp) grow9.size)
    have B9 : But cb w w9 := (B8.alloc _).grownB (B := w.heap.size) grow9 (Nat.le_refl _) (fun r e => (hlt8 r e).1)
    have HU9 : Hid (LInt w9 w.heap.size (some ⟨g2, 0, none⟩) us.length k2 us) := by
      have l8 := HU8.out.lt
      refine LInt.blk HU8.out ((grow9.block g2 (by simp; omega) (fun e => by have := HAB.out g2 e; omega)).trans (Below.heap_alloc _ _ _ l8))
    obtain ⟨v4, c9, rfl, O9⟩ := LPart.of (ys := ps ++ [(⟨xa, xb⟩ : Pt)]) (v := v9) (w := w9) (base := w.heap.size) (by rw [ptcells_app, List.length_append]; exact own9)
    have HL9 : Hid (PLst w9 w.heap.size v4 (ps ++ [(⟨xa, xb⟩ : Pt)]).length c9 (ps ++ [(⟨xa, xb⟩ : Pt)])) := O9
    have hpd9 : PtDr (ps ++ [(⟨xa, xb⟩ : Pt)]) := hpd.snoc hp8 (by omega) (by omega) (by omega) (by omega)
    clear own9 grow9 nil9 at9 OA O9 L8 hlt8 hpd
    go_wp2
    go_ret2
    exact ⟨g2, k2, us, v4, c9, ps ++ [(⟨xa, xb⟩ : Pt)], by simp, HU9.out, hu9, hus, HL9.out, hpd9, hc9, B9⟩

set_option maxHeartbeats 1000000 in
theorem drawTaken_any (a : Option Addr) (n cap : Nat) (zs : List Int) (w : World) (h : IsBytes w a n cap zs) (hn : n ≤ 4096) :
    Calls Try.prog 40 #[.slice a n cap] w fun e w' => ∃ (g2 c2 : Nat) (us : List Int) (v : Option Addr) (cp : Nat) (ps : List Pt), e = .returned (.tuple #[.slice (some ⟨g2, 0, none⟩) us.length c2, .slice v ps.length cp]) ∧ LInt w' w.heap.size (some ⟨g2, 0, none⟩) us.length c2 us ∧ us.length ≤ 9 ∧ usmall us ∧ PLst w' w.heap.size v ps.length cp ps ∧ PtDr ps ∧ Below w.heap.size w w' := by
  go_enter Try.func40, Try.ntmps40
  go_wp2_with fail
  refine (l1New_any a n cap zs _ h hn).mono ?_
  rintro e w1 ⟨cb, rfl, hcb, c1, U1⟩
  have z1 := U1.size
  go_wp2_with fail
  refine (l11DrawParts_any cb a n cap zs _ c1).mono ?_
  rintro e w2 ⟨g2, k2, us, v, cp, ps, rfl, L, hu9, hus, HP, hpd, c2, b2⟩
  have HL : Hid (LInt w2 w.heap.size (some ⟨g2, 0, none⟩) us.length k2 us) := L.low z1
  have HPL : Hid (PLst w2 w.heap.size v ps.length cp ps) := HP.low z1
  clear L HP
  go_wp2
  go_ret2
  exact ⟨g2, k2, us, v, cp, ps, rfl, HL.out, hu9, hus, HPL.out, hpd, U1.trans (b2.below hcb z1)⟩

set_option maxHeartbeats 1000000 in
theorem drawGiven_any (a : Option Addr) (n cap : Nat) (zs : List Int) (w : World) (h : IsBytes w a n cap zs) (hn : n ≤ 4096) :
    Calls Try.prog 41 #[.slice a n cap] w fun e w' => ∃ (v2 : Option Addr) (c2 : Nat) (us : List Int) (v : Option Addr) (cp : Nat) (ps : List Pt), e = .returned (.tuple #[.slice v2 us.length c2, .slice v ps.length cp]) ∧ LInt w' w.heap.size v2 us.length c2 us ∧ us.length ≤ 9 ∧ PLst w' w.heap.size v ps.length cp ps ∧ PtDr ps ∧ Below w.heap.size w w' := by
  go_enter Try.func41, Try.ntmps41
  go_wp2_with fail
  refine (l1New_any a n cap zs _ h hn).mono ?_
  rintro e w1 ⟨cb, rfl, hcb, c1, U1⟩
  have z1 := U1.size
  have hcb1 := c1.lt
  go_wp2_with fail
  refine (l11DrawParts_any cb a n cap zs _ c1).mono ?_
  rintro e w2 ⟨g2, k2, us, v, cp, ps, rfl, L, hu9, hus, HP, hpd, c2, b2⟩
  have hp9 := hpd.len
  go_wp2_with fail
  refine (l1Once_any cb a n cap zs 2 _ c2 (by omega) (by omega)).mono ?_
  rintro e w3 ⟨bo, rfl, c3, b3⟩
  have B3 := b2.trans b3
  have L3 := L.but b3 hcb1
  have P3 := HP.but b3 hcb1
  have U3 : Below w.heap.size w w3 := U1.trans (B3.below hcb z1)
  clear L HP b2 b3 B3 c2 c3
  cases bo with
  | false =>
    have HL : Hid (LInt w3 w.heap.size (some ⟨g2, 0, none⟩) us.length k2 us) := L3.low z1
    have HPL : Hid (PLst w3 w.heap.size v ps.length cp ps) := P3.low z1
    clear L3 P3
    go_wp2
    go_ret2
    exact ⟨_, k2, us, v, cp, ps, rfl, HL.out, hu9, HPL.out, hpd, U3⟩
  | true =>
    go_wp2_with fail
    refine (specTaken_any _ _ _ _ _ _ us ps _ L3.toS (P3.toS hpd.wf) (fun e => by cases e) (by omega) (by omega)).mono ?_
    rintro e w4 ⟨v4, c4, rfl, L4, hb4⟩
    have hlen := chF_len us ps 1
    obtain ⟨ts, hts⟩ : ∃ ts, ts = (chF us ps 1).getD [] := ⟨_, rfl⟩
    rw [← hts] at L4 hlen ⊢
    clear hts
    have U4 := U3.then hb4 U3.size
    have HPL : Hid (PLst w4 w.heap.size v ps.length cp ps) := (P3.low z1).below hb4
    have HL : Hid (LInt w4 w.heap.size (some ⟨g2, 0, none⟩) us.length k2 us) := (L3.low z1).below hb4
    have HT : Hid (LInt w4 w.heap.size v4 ts.length c4 ts) := L4.low U3.size
    clear L3 P3 L4
    by_cases hl : 0 < ts.length
    · have hl' : (0 : Int) < (ts.length : Int) := by omega
      go_wp2
      go_ret2
      exact ⟨_, c4, ts, v, cp, ps, rfl, HT.out, by omega, HPL.out, hpd, U4⟩
    · have hl' : ¬ ((0 : Int) < (ts.length : Int)) := by omega
      go_wp2
      go_ret2
      exact ⟨_, k2, us, v, cp, ps, rfl, HL.out, hu9, HPL.out, hpd, U4⟩

/-- what is taken of drawn numbers may be used -/
theorem smK_bdD {ps : List Pt} {i n : Nat} (h : PtDr ps) : ∀ k, k ≤ ps.length → ptOk ps n k → smK ps i k ≤ 101 * (k : Int)
  | 0, _, _ => by simp [smK]
  | k + 1, hk, hp => by
    have ih := smK_bdD (i := i) (n := n) h k (by omega) (fun j hj => hp j (by omega))
    have := h.co k (by omega)
    simp only [smK]
    push_cast
    split <;> omega
theorem taken_use {us t : List Int} {ps : List Pt} (hu : usmall us) (hp : PtDr ps) (h : chF us ps 1 = some t) : useOk t t.length := by
  unfold chF at h
  by_cases c : uoB us us.length = true
  · rw [if_pos c] at h
    have ha := uoB_t c
    obtain ⟨l1, p1, e1⟩ := chK_sum ps.length t h
    intro i hi
    have h1 := hu i (by omega)
    have h2 := ha i (by omega)
    have h3 := smK_0 (i := i) ps.length p1
    have h4 := smK_bdD (i := i) hp ps.length (Nat.le_refl _) p1
    have h5 := hp.len
    rw [e1 i (by omega)]
    omega
  · rw [if_neg c] at h; cases h
end Go.Proofs.Ytkkbfblgnejonaa
