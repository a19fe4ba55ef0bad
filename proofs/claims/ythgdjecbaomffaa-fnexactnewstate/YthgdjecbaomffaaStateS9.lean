/- Chapter 13's model: NewState. -/
import Derived.Test.YthgdjecbaomffaaStateIn
import Derived.Test.YthgdjecbaomffaaNodeMark
import Derived.Test.YthgdjecbaomffaaNodeS
import Derived.Laws.ResultCell
namespace Go.Proofs.Ythgdjecbaomffaa
open Go.RowKit Go.Sort

theorem results_ct {P : Program} {fn : Func} {p u : Tmp} {ty : TypeId} (h : fn.results = #[.cell p ty, .tmp u]) (tmps : Array Value) (w : World) (g : Nat) (t : TypeId) (cs : Array Value) (fr : Nat × Nat) (d : TypeDesc)
    (hp : tmps.getD p undef = .pointer (some ⟨g, 0, none⟩)) (hg : w.heap[g]? = some (.cells cs t fr))
    (hu : P.underlying ty = some d) (hd : (match d with | .struct _ | .array _ _ => true | _ => false) = true) (hi : (P.info? ty).map (·.size) = some cs.size) (v : Value) (hv : tmps.getD u undef = v) :
    (results fn tmps).run P w = .ok (.tuple #[.agg cs, v]) w := by
  rw [results_cell_tmp h, hp, hv]
  simp [asAddr, run_loadVar_row w g t ty cs fr d hg hu hd hi]
theorem set5 {W : World} {p : Nat} {u0 u1 u2 u3 u4 : Value} {T : TypeId} (h : W.heap[p]? = some (.cells #[u0, u1, u2, u3, u4] T (0, 0))) (v0 v1 v2 v3 v4 : Value) :
    (((((W.setCell ⟨p, 0, none⟩ v0).setCell ⟨p, 1, none⟩ v1).setCell ⟨p, 2, none⟩ v2).setCell ⟨p, 3, none⟩ v3).setCell ⟨p, 4, none⟩ v4).heap[p]? = some (.cells #[v0, v1, v2, v3, v4] T (0, 0)) := by
  have h0 : (W.setCell ⟨p, 0, none⟩ v0).heap[p]? = some (.cells #[v0, u1, u2, u3, u4] T (0, 0)) := blk_set (j := 0) h v0
  have h1 : ((W.setCell ⟨p, 0, none⟩ v0).setCell ⟨p, 1, none⟩ v1).heap[p]? = some (.cells #[v0, v1, u2, u3, u4] T (0, 0)) := blk_set (j := 1) h0 v1
  have h2 : (((W.setCell ⟨p, 0, none⟩ v0).setCell ⟨p, 1, none⟩ v1).setCell ⟨p, 2, none⟩ v2).heap[p]? = some (.cells #[v0, v1, v2, u3, u4] T (0, 0)) := blk_set (j := 2) h1 v2
  have h3 : ((((W.setCell ⟨p, 0, none⟩ v0).setCell ⟨p, 1, none⟩ v1).setCell ⟨p, 2, none⟩ v2).setCell ⟨p, 3, none⟩ v3).heap[p]? = some (.cells #[v0, v1, v2, v3, u4] T (0, 0)) := blk_set (j := 3) h2 v3
  exact blk_set (j := 4) h3 v4
theorem below5 {B p : Nat} {w W : World} (h : Below B w W) (hB : B ≤ p) (v0 v1 v2 v3 v4 : Value) : Below B w (((((W.setCell ⟨p, 0, none⟩ v0).setCell ⟨p, 1, none⟩ v1).setCell ⟨p, 2, none⟩ v2).setCell ⟨p, 3, none⟩ v3).setCell ⟨p, 4, none⟩ v4) :=
  (((((h.setCell (p := ⟨p, 0, none⟩) hB _).setCell (p := ⟨p, 1, none⟩) hB _).setCell (p := ⟨p, 2, none⟩) hB _).setCell (p := ⟨p, 3, none⟩) hB _).setCell (p := ⟨p, 4, none⟩) hB _)
theorem set5_other {W : World} {p r : Nat} (h : r ≠ p) (v0 v1 v2 v3 v4 : Value) : (((((W.setCell ⟨p, 0, none⟩ v0).setCell ⟨p, 1, none⟩ v1).setCell ⟨p, 2, none⟩ v2).setCell ⟨p, 3, none⟩ v3).setCell ⟨p, 4, none⟩ v4).heap[r]? = W.heap[r]? := by
  rw [Below.heap_setCell _ _ _ _ h, Below.heap_setCell _ _ _ _ h, Below.heap_setCell _ _ _ _ h, Below.heap_setCell _ _ _ _ h, Below.heap_setCell _ _ _ _ h]
theorem OwnNode.keepN {w w' : World} {base g cap : Nat} {ys : List Nd} (h : OwnNode w base g cap ys) (hb : w'.heap[g]? = w.heap[g]?) (hs : w.heap.size ≤ w'.heap.size) : OwnNode w' base g cap ys := by
  refine ⟨⟨h.own.1, ?_⟩, h.le, h.mx, h.base, Nat.lt_of_lt_of_le h.lt hs⟩
  rcases h.own.2 with ⟨e, _⟩ | ⟨g', cap', cur, e, hg, hgg, r⟩
  · cases e
  · have e2 := e
    injection e2 with e1 _ _
    injection e1 with e1
    injection e1 with e1 _ _
    subst e1
    exact .inr ⟨g, cap', cur, e, hg, hb.trans hgg, r⟩

/-- a new state -/
noncomputable def nsS (l : List Nd) : St := if nsB l = true then ⟨0, l, [], 1, 0⟩ else ⟨0, [], [], 0, 0⟩

set_option maxRecDepth 8000 in
set_option maxHeartbeats 2000000 in
theorem specNewState_any (a : Option Addr) (n cap : Nat) (l : List Nd) (w : World) (h : NodeS w a n cap l) :
    Calls Try.prog 13 #[.slice a n cap] w fun e w' => ∃ v c, e = .returned (.tuple #[.agg #[.int .i64 0, .slice v (nsS l).nodes.length c, .slice none 0 0, .int .i64 (nsS l).next, .int .i64 0], .bool (nsB l)]) ∧ LNode w' w.heap.size v (nsS l).nodes.length c (nsS l).nodes ∧ Below w.heap.size w w' := by
  obtain ⟨i1, hj, hj0, hj1, hj2⟩ := info_parts infoNode
  have hlen := h.len
  obtain ⟨W0, hW0⟩ : ∃ W0, W0 = w.alloc (.cells #[.int .i64 0, .slice none 0 0, .slice none 0 0, .int .i64 0, .int .i64 0] 31) := ⟨_, rfl⟩
  have B0 : Below w.heap.size w W0 := by rw [hW0]; exact box_below0
  have x0 : W0.heap[w.heap.size]? = some (.cells #[.int .i64 0, .slice none 0 0, .slice none 0 0, .int .i64 0, .int .i64 0] 31 (0, 0)) := by rw [hW0]; exact heap_alloc_new _ _
  have s0 : W0.heap.size = w.heap.size + 1 := by rw [hW0]; simp
  have CN := specNodesOk_any a n cap l W0 (h.below B0)
  rcases hq : nsB l with _ | _
  · have E : nsS l = ⟨0, [], [], 0, 0⟩ := by unfold nsS; rw [hq]; rfl
    rw [E]
    rw [hq] at CN
    have HE : Hid _ := set5 x0 (.int .i64 0) (.slice none 0 0) (.slice none 0 0) (.int .i64 0) (.int .i64 0)
    have HB : Hid _ := below5 B0 (Nat.le_refl _) (.int .i64 0) (.slice none 0 0) (.slice none 0 0) (.int .i64 0) (.int .i64 0)
    obtain ⟨c0, c1, c2, c3, c4, f0, f1, f2, f3, f4⟩ := box5 x0
    clear x0 E
    go_enter Try.func13, Try.ntmps13
    go_upto_region 1 with fail
    rw [← hW0]
    clear hW0
    go_wp2_with (go_at_call 29; refine CN.mono ?_; rintro e w' ⟨rfl, hq⟩; have hq' := hq.symm; clear hq; subst hq')
    refine bodyPost_ret (results_ct rfl _ _ w.heap.size _ _ _ _ rfl HE.out Try.underlying31 rfl sizedState _ rfl) rfl ?_
    exact ⟨none, 0, rfl, ⟨rfl, Or.inl ⟨rfl, rfl, rfl⟩⟩, HB.out⟩
  · have E : nsS l = ⟨0, l, [], 1, 0⟩ := by unfold nsS; rw [hq]; rfl
    rw [E]
    rw [hq] at CN
    have ns := nsB_t hq
    have hn1 : 1 ≤ n := by rw [← hlen]; exact ns.n1
    have hn8 : n ≤ 8 := by rw [← hlen]; exact ns.n2
    obtain ⟨b, off, rfl, hbw, hat⟩ := h.at_ (by omega)
    obtain ⟨W1, hW1⟩ : ∃ W1, W1 = W0.alloc (.cells #[] 68) := ⟨_, rfl⟩
    have O1 : W1.ownsRow (w.heap.size + 1) 68 2 (.slice (some ⟨w.heap.size + 1, 0, none⟩) 0 0) 0 [] := by rw [hW1, ← s0]; exact World.ownsRow_made W0 #[] 0 (Nat.le_refl _) (Nat.zero_le _) rfl
    have B1 : Below w.heap.size w W1 := by rw [hW1]; exact B0.alloc B0.size _
    have x1 : W1.heap[w.heap.size]? = some (.cells #[.int .i64 0, .slice none 0 0, .slice none 0 0, .int .i64 0, .int .i64 0] 31 (0, 0)) := by rw [hW1]; exact (Below.heap_alloc _ _ _ (lt_of_block x0)).trans x0
    have s1 : W1.heap.size = w.heap.size + 2 := by rw [hW1]; simp; omega
    have hsrc : ∀ j y, (ndcells l)[j]? = some y → W1.cell? ((⟨b, off, none⟩ : Addr).add j) = some y := fun j y hjy => by
      obtain ⟨q1, rfl⟩ := ndcells_get hjy
      have hadd : (⟨b, off, none⟩ : Addr).add j = ⟨b, off + j, none⟩ := by unfold Addr.add; split <;> simp_all
      have := (B1.cell (p := ⟨b, off + j / 2 * 2 + j % 2, none⟩) hbw).trans (hat (j / 2) q1 (j % 2) (by omega))
      rw [hadd, show off + j = off + j / 2 * 2 + j % 2 by omega]; exact this
    have hnl := ndcells_len l
    clear hat
    go_enter Try.func13, Try.ntmps13
    go_upto_region 1 with fail
    rw [← hW0]
    clear hW0 x0
    go_upto_region 3 with (go_at_call 29; refine CN.mono ?_; rintro e w' ⟨rfl, hq⟩; have hq' := hq.symm; clear hq; subst hq')
    go_wp2_with (at_builtin; rw [← hW1]; refine wpList_append_own _ rfl (.tmp 8) (.tmp 9) 28 rfl (w.heap.size + 1) 68 i1 (.agg #[.int .i64 0, .int .i64 0]) 2 16 Try.underlying28 hj hj0 hj1 hj2 rfl (by decide) _ _ _ rfl O1 ⟨b, off, none⟩ n cap (ndcells l) rfl (by omega) hsrc (by intro y hy; obtain ⟨i, hi, rfl⟩ := List.getElem_of_mem hy; obtain ⟨_, e⟩ := ndcells_get (List.getElem?_eq_getElem hi); rw [e]; rfl) (by unfold maxLen; omega) (by omega) (by omega) ?_)
    intro v' w4 own' grow' nil'
    try rw [← hW1] at grow'
    have B4 : Below w.heap.size w w4 := B1.grown grow' (by omega) (fun r q => by simp [Value.ownBlock] at q; omega)
    have x4 : w4.heap[w.heap.size]? = some (.cells #[.int .i64 0, .slice none 0 0, .slice none 0 0, .int .i64 0, .int .i64 0] 31 (0, 0)) := (grow'.block _ (by omega) (by first | (simp [Value.ownBlock]; done) | (simp [Value.ownBlock]; omega))).trans x1
    have own2 : w4.ownsRow (w.heap.size + 1) 68 2 v' l.length (ndcells l) := by rw [hlen]; simpa using own'
    obtain ⟨g, c, rfl, LN⟩ := LNode.of own2
    have HE : Hid _ := set5 x4 (.int .i64 0) (.slice g l.length c) (.slice none 0 0) (.int .i64 1) (.int .i64 0)
    have HB : Hid _ := below5 B4 (Nat.le_refl _) (.int .i64 0) (.slice g l.length c) (.slice none 0 0) (.int .i64 1) (.int .i64 0)
    obtain ⟨c0, c1, c2, c3, c4, f0, f1, f2, f3, f4⟩ := box5 x4
    have HLN : Hid (LNode w4 (w.heap.size + 1) g l.length c l) := LN
    have z4 : w.heap.size + 2 ≤ w4.heap.size := by have := grow'.size; omega
    clear own' own2 grow' nil' x4 x1 O1 hsrc LN hlen hnl
    go_wp2
    refine bodyPost_ret (results_ct rfl _ _ w.heap.size _ _ _ _ rfl HE.out Try.underlying31 rfl sizedState _ rfl) rfl ?_
    refine ⟨g, c, rfl, ?_, HB.out⟩
    obtain ⟨e1, e2 | ⟨q, e2, O⟩⟩ := HLN.out
    · exact ⟨e1, Or.inl e2⟩
    · have O2 := O.keepN (set5_other (p := w.heap.size) (by have := O.base; omega) (.int .i64 0) (.slice g l.length c) (.slice none 0 0) (.int .i64 1) (.int .i64 0)) (by simp [World.setCell])
      exact ⟨e1, Or.inr ⟨q, e2, ⟨⟨O2.own.1, O2.own.2.imp id fun ⟨g', cap', cur, k1, k2, k3⟩ => ⟨g', cap', cur, k1, by omega, k3⟩⟩, O2.le, O2.mx, by have := O2.base; omega, O2.lt⟩⟩⟩

end Go.Proofs.Ythgdjecbaomffaa
