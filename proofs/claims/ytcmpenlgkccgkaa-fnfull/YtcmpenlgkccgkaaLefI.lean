/- The program's behind, Left and PlanOk: what does not fit gives up by a panic, that Left catches. -/
import Derived.Test.YtcmpenlgkccgkaaMksI
import Derived.Test.YtcmpenlgkccgkaaPlanT
import Derived.Tactics2
import Derived.Defers
import Derived.Recover
import Derived.Laws.Pointers
import Derived.Deep.RegionHeld3
import Derived.Deep.RegionWith
namespace Go.Proofs.Ytcmpenlgkccgkaa
open Go.RowKit Go.Sort

theorem lfF_st {T : Int} {ls : List Lev} {js : List Jb} {ss : List Int} (h : ¬ stOk ss js.length) : lfF T ls js ss = none := by
  unfold lfF
  by_cases c : poB T ls = true ∧ jsB js = true ∧ ss.length = js.length
  · rw [if_pos c]
    obtain ⟨i, hi⟩ := Classical.not_forall.1 h
    obtain ⟨hi, hz⟩ := Classical.not_imp.1 hi
    rcases hl : lfK T ls js ss i with _ | l
    · exact lfK_no hl (by omega)
    · exact lfK_no (lfK_in hl (by omega)) (by omega)
  · rw [if_neg c]
theorem lfF_so {T : Int} {ls : List Lev} {js : List Jb} {ss : List Int} (h : soB js ss = false) : lfF T ls js ss = none := by
  by_cases c : stOk ss js.length
  · refine lfF_no (Or.inr ?_)
    unfold soB at h
    rw [stB_mk c] at h
    rcases hj : jsB js with _ | _
    · exact Or.inl rfl
    · rw [hj] at h
      refine Or.inr fun e => ?_
      rw [decide_eq_true e] at h
      cases h
  · exact lfF_st c

set_option maxRecDepth 8000 in
set_option maxHeartbeats 4000000 in
theorem behind_not (T s : Int) (a : Option Addr) (n cap : Nat) (j : Jb) (w : World) (hs : inB s 0 999999999 = false) :
    Calls Try.prog 49 #[.agg #[.int .i64 T, .slice a n cap], .agg #[.int .i64 j.id, .int .i64 j.cores, .int .i64 j.long, .int .i64 j.due, .int .i64 j.wt, .int .i64 j.rank, .int .i64 j.at_], .int .i64 s] w fun e w' => e = .returned (.agg #[.int .i64 T, .slice a n cap]) ∧ Below w.heap.size w w' := by
  obtain ⟨W0, hW0⟩ : ∃ W0, W0 = ((w.alloc (.cells #[.int .i64 T, .slice a n cap] 38)).alloc (.cells #[.int .i64 j.id, .int .i64 j.cores, .int .i64 j.long, .int .i64 j.due, .int .i64 j.wt, .int .i64 j.rank, .int .i64 j.at_] 54)).alloc (.cells #[.int .i64 0, .slice none 0 0] 38) := ⟨_, rfl⟩
  have B0 : Below w.heap.size w W0 := by rw [hW0]; exact (box_below.alloc (by simp) _).alloc (by simp; omega) _
  have P0 : W0.heap[w.heap.size]? = some (.cells #[.int .i64 T, .slice a n cap] 38 (0, 0)) := by rw [hW0]; exact (Below.heap_alloc _ _ _ (by simp; omega)).trans ((Below.heap_alloc _ _ _ (by simp)).trans (heap_alloc_new _ _))
  have R0 : W0.heap[w.heap.size + 2]? = some (.cells #[.int .i64 0, .slice none 0 0] 38 (0, 0)) := by rw [hW0]; exact new_at _ _ _ (by simp)
  obtain ⟨p0, p1, _, _⟩ := boxed P0
  obtain ⟨r0, r1, f0, f1⟩ := boxed R0
  have HR0 : Hid _ := R0
  clear P0 R0
  go_enter Try.func49, Try.ntmps49
  go_wp2_with fail
  rw [← hW0]
  clear hW0
  refine (begins_any s _).mono ?_
  rw [hs]
  rintro e w5 ⟨rfl, hq⟩; have hq' := hq.symm; clear hq; subst hq'
  go_wp2
  have E := Proofs.Ytcmpenlgkccgkaa.set2 (W := W0) HR0.out (.int .i64 T) (.slice a n cap)
  refine bodyPost_ret (results_cell_row (p := 6) rfl _ _ (w.heap.size + 2) _ #[.int .i64 T, .slice a n cap] _ _ rfl (by exact E.1) Try.underlying38 rfl sized26) rfl ?_
  exact ⟨rfl, (B0.setCell (p := ⟨w.heap.size + 2, 0, none⟩) (by simp) _).setCell (p := ⟨w.heap.size + 2, 1, none⟩) (by simp) _⟩

set_option maxRecDepth 8000 in
set_option maxHeartbeats 4000000 in
theorem behind_any (T s : Int) (a : Option Addr) (n cap : Nat) (ls : List Lev) (j : Jb) (w : World) (h : LevS w a n cap ls) (po : PO T ls) (hj : jok j = true) (hs : inB s 0 999999999 = true) :
    Calls Try.prog 49 #[.agg #[.int .i64 T, .slice a n cap], .agg #[.int .i64 j.id, .int .i64 j.cores, .int .i64 j.long, .int .i64 j.due, .int .i64 j.wt, .int .i64 j.rank, .int .i64 j.at_], .int .i64 s] w fun e w' => Below w.heap.size w w' ∧
      ((poB T (cutL ls s (laterI s j.long) (-j.cores)) = true ∧ ∃ g c : Nat, e = .returned (.agg #[.int .i64 T, .slice (some ⟨g, 0, none⟩) (cutL ls s (laterI s j.long) (-j.cores)).length c]) ∧ w.heap.size ≤ g ∧ (cutL ls s (laterI s j.long) (-j.cores)).length ≤ c ∧ c ≤ maxLen ∧ LevD w' g (cutL ls s (laterI s j.long) (-j.cores)).length c (cutL ls s (laterI s j.long) (-j.cores))) ∨
       (poB T (cutL ls s (laterI s j.long) (-j.cores)) = false ∧ ∃ (u : TypeId) (pv : Value), e = .panicked [{ v := .iface u pv, recovered := false }])) := by
  obtain ⟨b0, b1⟩ := inB_t hs
  obtain ⟨L, hL⟩ : ∃ L, L = cutL ls s (laterI s j.long) (-j.cores) := ⟨_, rfl⟩
  have HL : Hid _ := hL
  rw [← hL]
  clear hL
  obtain ⟨W0, hW0⟩ : ∃ W0, W0 = ((w.alloc (.cells #[.int .i64 T, .slice a n cap] 38)).alloc (.cells #[.int .i64 j.id, .int .i64 j.cores, .int .i64 j.long, .int .i64 j.due, .int .i64 j.wt, .int .i64 j.rank, .int .i64 j.at_] 54)).alloc (.cells #[.int .i64 0, .slice none 0 0] 38) := ⟨_, rfl⟩
  have B0 : Below w.heap.size w W0 := by rw [hW0]; exact (box_below.alloc (by simp) _).alloc (by simp; omega) _
  have z0 : w.heap.size + 3 ≤ W0.heap.size := by rw [hW0]; simp
  have P0 : W0.heap[w.heap.size]? = some (.cells #[.int .i64 T, .slice a n cap] 38 (0, 0)) := by rw [hW0]; exact (Below.heap_alloc _ _ _ (by simp; omega)).trans ((Below.heap_alloc _ _ _ (by simp)).trans (heap_alloc_new _ _))
  have J0 : W0.heap[w.heap.size + 1]? = some (.cells #[.int .i64 j.id, .int .i64 j.cores, .int .i64 j.long, .int .i64 j.due, .int .i64 j.wt, .int .i64 j.rank, .int .i64 j.at_] 54 (0, 0)) := by rw [hW0]; exact (Below.heap_alloc _ _ _ (by simp)).trans (new_at _ _ _ (by simp))
  have R0 : W0.heap[w.heap.size + 2]? = some (.cells #[.int .i64 0, .slice none 0 0] 38 (0, 0)) := by rw [hW0]; exact new_at _ _ _ (by simp)
  have h0 := h.below B0
  obtain ⟨p0, p1, _, _⟩ := boxed P0
  obtain ⟨j0, j1, j2, j3, j4, j5, j6⟩ := job_cells J0
  have HR0 : Hid _ := R0
  clear P0 R0 J0 h
  go_enter Try.func49, Try.ntmps49
  go_wp2_with fail
  rw [← hW0]
  clear hW0
  refine (begins_any s _).mono ?_
  rw [hs]
  rintro e w5 ⟨rfl, hq⟩; have hq' := hq.symm; clear hq; subst hq'
  go_wp2_with fail
  refine (reservedFor_any T s a n cap ls j _ h0 po hj b0 (by omega)).mono ?_
  rw [← HL.out]
  rintro e w7 ⟨T', v, n', c', bb, rfl, hb7, hbb, ht, hf⟩
  clear p0 p1 j0 j1 j2 j3 j4 j5 j6 HL
  have C7 := B0.then hb7 B0.size
  have z7 := hb7.size
  have R7 := (hb7.block _ (lt_of_block HR0.out)).trans HR0.out
  cases bb with
  | false =>
    obtain ⟨rfl, rfl, rfl, rfl⟩ := hf rfl
    have Hbb : Hid _ := hbb.symm
    clear ht hf hbb
    go_wp2
    exact ⟨rfl, C7.alloc (by omega) _, Or.inr ⟨Hbb.out, _, _, rfl⟩⟩
  | true =>
    obtain ⟨g, rfl, rfl, rfl, hg, hgc, hgm, hld⟩ := ht rfl
    have Hbb : Hid _ := hbb.symm
    clear ht hf hbb
    obtain ⟨W8, hW8⟩ : ∃ W8, W8 = w7.alloc (.cells #[.int .i64 T', .slice (some ⟨g, 0, none⟩) L.length c'] 38) := ⟨_, rfl⟩
    have P8 : W8.heap[w7.heap.size]? = some (.cells #[.int .i64 T', .slice (some ⟨g, 0, none⟩) L.length c'] 38 (0, 0)) := by rw [hW8]; exact heap_alloc_new _ _
    have R8 : W8.heap[w.heap.size + 2]? = some (.cells #[.int .i64 0, .slice none 0 0] 38 (0, 0)) := by rw [hW8]; exact (Below.heap_alloc _ _ _ (by omega)).trans R7
    have C8 : Below w.heap.size w W8 := by rw [hW8]; exact C7.alloc (by omega) _
    have L8 : LevD W8 g L.length c' L := by rw [hW8]; exact hld.below box_below
    obtain ⟨p0, p1, _, _⟩ := boxed P8
    obtain ⟨r0, r1, f0, f1⟩ := boxed R8
    have HR8 : Hid _ := R8
    clear P8 R8 R7
    go_upto_region 6 with fail
    try rw [← hW8]
    clear hW8
    go_wp2
    have E := Proofs.Ytcmpenlgkccgkaa.set2 (W := W8) HR8.out (.int .i64 T') (.slice (some ⟨g, 0, none⟩) L.length c')
    refine bodyPost_ret (results_cell_row (p := 6) rfl _ _ (w.heap.size + 2) _ #[.int .i64 T', .slice (some ⟨g, 0, none⟩) L.length c'] _ _ rfl (by exact E.1) Try.underlying38 rfl sized26) rfl ?_
    exact ⟨(C8.setCell (p := ⟨w.heap.size + 2, 0, none⟩) (by simp) _).setCell (p := ⟨w.heap.size + 2, 1, none⟩) (by simp) _, Or.inl ⟨Hbb.out, g, c', rfl, by omega, hgc, hgm, L8.blk (E.2 g (by omega))⟩⟩

theorem catch_panicking (B6 B7 : Nat) (v0 v1 v2 : Value) (u : TypeId) (pv : Value) (older : List PanicEntry) (w : World) (h6 : w.heap[B6]? = some (.cells #[v0, v1] 38 (0, 0))) (h7 : w.heap[B7]? = some (.cells #[v2] 4 (0, 0))) (hne : B6 ≠ B7) :
    CallsD Try.prog 46 #[.pointer (some ⟨B6, 0, none⟩), .pointer (some ⟨B7, 0, none⟩)] (.panicking ({ v := .iface u pv, recovered := false } :: older)) w fun e u' w' =>
      e = .returned (.tuple #[]) ∧ u' = .panicking ({ v := .iface u pv, recovered := true } :: older) ∧ w' = ((w.setCell ⟨B6, 0, none⟩ (.int .i64 0)).setCell ⟨B6, 1, none⟩ (.slice none 0 0)).setCell ⟨B7, 0, none⟩ (.bool false) := by
  obtain ⟨a0, a1, f0, f1⟩ := boxed h6
  have b0 : w.cell? ⟨B7, 0, none⟩ = some v2 := by simp [World.cell?, h7]
  have g0 : w.frozen? ⟨B7, 0, none⟩ = false := by simp [World.frozen?, h7]
  have hne' := Ne.symm hne
  refine callsD_of_wpS Try.func46 rfl fun c₀ cs hu => ?_
  apply wpS_seq
  apply wpS_region
  simp [wpOpsS, go_sem, recoverD, hu, Try.ntmps46, Exit.thenS]
  refine wpS_cond (t := true) (by simp [Act.eval, Array.replicate]) ?_
  simp only [if_true]
  apply wpS_region
  simp [wpOpsS, go_sem, a0, a1, f0, f1, b0, g0, bodyPostS, results, Try.results46]

theorem catch_idle (B6 B7 : Nat) (w : World) :
    CallsD Try.prog 46 #[.pointer (some ⟨B6, 0, none⟩), .pointer (some ⟨B7, 0, none⟩)] .returning w fun e u' w' => e = .returned (.tuple #[]) ∧ u' = .returning ∧ w' = w := by
  refine callsD_of_wpS Try.func46 rfl fun c₀ cs hu => ?_
  apply wpS_seq
  apply wpS_region
  simp [wpOpsS, go_sem, recoverD, hu, Try.ntmps46, Exit.thenS]
  refine wpS_cond (t := false) (by simp [Act.eval, Array.replicate]) ?_
  simp only [Bool.false_eq_true, if_false]
  refine wpS_of_wp (wp_skip ?_)
  cases c₀
  simp_all [bodyPostS, results, Try.results46]

theorem fin3 {W : World} {R Q : Nat} {u0 u1 u2 : Value} {ty ty2 : TypeId} (hR : W.heap[R]? = some (.cells #[u0, u1] ty (0, 0))) (hQ : W.heap[Q]? = some (.cells #[u2] ty2 (0, 0))) (hn : R ≠ Q) (v0 v1 v2 : Value) :
    (((W.setCell ⟨R, 0, none⟩ v0).setCell ⟨R, 1, none⟩ v1).setCell ⟨Q, 0, none⟩ v2).cell? ⟨R, 0, none⟩ = some v0 ∧ (((W.setCell ⟨R, 0, none⟩ v0).setCell ⟨R, 1, none⟩ v1).setCell ⟨Q, 0, none⟩ v2).cell? ⟨R, 1, none⟩ = some v1 ∧ (((W.setCell ⟨R, 0, none⟩ v0).setCell ⟨R, 1, none⟩ v1).setCell ⟨Q, 0, none⟩ v2).cell? ⟨Q, 0, none⟩ = some v2 ∧
    ∀ k, k ≠ R → k ≠ Q → (((W.setCell ⟨R, 0, none⟩ v0).setCell ⟨R, 1, none⟩ v1).setCell ⟨Q, 0, none⟩ v2).heap[k]? = W.heap[k]? := by
  obtain ⟨e0, e1⟩ := Proofs.Ytcmpenlgkccgkaa.set2 hR v0 v1
  have hQ' := (e1 Q (Ne.symm hn)).trans hQ
  have hQ2 := blk_set (j := 0) hQ' v2
  have hR2 := (Below.heap_setCell ((W.setCell ⟨R, 0, none⟩ v0).setCell ⟨R, 1, none⟩ v1) ⟨Q, 0, none⟩ v2 R hn).trans e0
  obtain ⟨a0, a1, _, _⟩ := boxed hR2
  exact ⟨a0, a1, by simp [World.cell?, hQ2], fun k h1 h2 => (Below.heap_setCell _ ⟨Q, 0, none⟩ _ _ h2).trans (e1 k h1)⟩

theorem leaves_congr {P : Program} {fn : Func} {t1 t2 : Array Value} {R : Ending → World → Prop} (e : results fn t1 = results fn t2) : ∀ (ds : List Deferred) (u : FrameMode) (w : World), Leaves P fn t1 R ds u w → Leaves P fn t2 R ds u w
  | [], .returning, w, h => by
    obtain ⟨v, h1, h2⟩ := h
    exact ⟨v, e ▸ h1, h2⟩
  | [], .panicking _, _, h => h
  | [], .run, _, h => h
  | d :: ds, u, w, h => by
    obtain ⟨hu, fv, cap, f, args, h1, h2, h3⟩ := h
    refine ⟨hu, fv, cap, f, args, h1, h2, h3.mono fun e' u' w' h => ?_⟩
    cases e' with
    | returned v => exact leaves_congr e ds _ _ h
    | panicked c => exact leaves_congr e ds _ _ h
    | outgrown => exact h
theorem left_put (tmps : Array Value) {d : Nat} (h6 : d ≠ 6) (h7 : d ≠ 7) (v : Value) : results Try.f17 (tmps.setIfInBounds d v) = results Try.f17 tmps := by
  simp [results, Try.results17, Array.getElem?_setIfInBounds, h6, h7]

/-- what is left in the answer's own box, beside it whether it is one -/
structure LeW (w W : World) (T : Int) (g c : Nat) (l : List Lev) : Prop where
  bel : Below w.heap.size w W
  box : W.heap[w.heap.size + 1]? = some (.cells #[.int .i64 T, .slice (some ⟨g, 0, none⟩) l.length c] 38 (0, 0))
  flag : W.heap[w.heap.size + 2]? = some (.cells #[.bool false] 4 (0, 0))
  lev : LevD W g l.length c l
  le : l.length ≤ c
  mx : c ≤ maxLen
  g0 : w.heap.size + 3 ≤ g
theorem LeW.below {w W W' : World} {T : Int} {g c : Nat} {l : List Lev} (h : LeW w W T g c l) (hb : Below W.heap.size W W') : LeW w W' T g c l :=
  ⟨h.bel.then hb h.bel.size, (hb.block _ (lt_of_block h.box)).trans h.box, (hb.block _ (lt_of_block h.flag)).trans h.flag, h.lev.below hb, h.le, h.mx, h.g0⟩
theorem LeW.put {w W : World} {T : Int} {g c g2 c2 : Nat} {l l2 : List Lev} (h : LeW w W T g c l) (hl : LevD W g2 l2.length c2 l2) (hc : l2.length ≤ c2) (hm : c2 ≤ maxLen) (hg : w.heap.size + 3 ≤ g2) :
    LeW w ((W.setCell ⟨w.heap.size + 1, 0, none⟩ (.int .i64 T)).setCell ⟨w.heap.size + 1, 1, none⟩ (.slice (some ⟨g2, 0, none⟩) l2.length c2)) T g2 c2 l2 := by
  obtain ⟨q0, q1⟩ := Proofs.Ytcmpenlgkccgkaa.set2 h.box (.int .i64 T) (.slice (some ⟨g2, 0, none⟩) l2.length c2)
  exact ⟨(h.bel.setCell (by simp) _).setCell (by simp) _, q0, (q1 _ (by omega)).trans h.flag, hl.blk (q1 g2 (by omega)), hc, hm, hg⟩

set_option maxRecDepth 8000 in
set_option maxHeartbeats 4000000 in
theorem implLeft_any (T : Int) (a b a2 : Option Addr) (n cap nb capb n2 cap2 : Nat) (ls : List Lev) (js : List Jb) (ss : List Int) (w : World) (h : LevS w a n cap ls) (hjs : JobS w b nb capb js) (hss : IntS w a2 n2 cap2 ss) :
    Calls Try.prog 17 #[.agg #[.int .i64 T, .slice a n cap], .slice b nb capb, .slice a2 n2 cap2] w fun e w' => ∃ (T' : Int) (v : Option Addr) (n' c' : Nat) (b : Bool), e = .returned (.tuple #[.agg #[.int .i64 T', .slice v n' c'], .bool b]) ∧ Below w.heap.size w w' ∧ LfAns w w' T T' v n' c' b (lfF T ls js ss) := by
  have hmf : ∀ (fn : Fn) (first cap : Array Value) (w : World), (Instr.makeFunc fn first cap).run Try.prog w = .ok (.func fn first cap) w := fun _ _ _ _ => rfl
  have hlen := h.len
  have hlenb := hjs.len
  have hmxb := hjs.mx
  have hleb := hjs.le
  unfold maxLen at hmxb
  obtain ⟨an, han⟩ : ∃ an, an = lfF T ls js ss := ⟨_, rfl⟩
  have HA : Hid (an = lfF T ls js ss) := han
  rw [← han]
  clear han
  obtain ⟨W0, hW0⟩ : ∃ W0, W0 = ((w.alloc (.cells #[.int .i64 T, .slice a n cap] 38)).alloc (.cells #[.int .i64 0, .slice none 0 0] 38)).alloc (.cells #[.bool false] 4) := ⟨_, rfl⟩
  have B0 : Below w.heap.size w W0 := by rw [hW0]; exact (box_below.alloc (by simp) _).alloc (by simp; omega) _
  have z0 : w.heap.size + 3 ≤ W0.heap.size := by rw [hW0]; simp
  have P0 : W0.heap[w.heap.size]? = some (.cells #[.int .i64 T, .slice a n cap] 38 (0, 0)) := by rw [hW0]; exact (Below.heap_alloc _ _ _ (by simp; omega)).trans ((Below.heap_alloc _ _ _ (by simp)).trans (heap_alloc_new _ _))
  have R0 : W0.heap[w.heap.size + 1]? = some (.cells #[.int .i64 0, .slice none 0 0] 38 (0, 0)) := by rw [hW0]; exact (Below.heap_alloc _ _ _ (by simp)).trans (new_at _ _ _ (by simp))
  have Q0 : W0.heap[w.heap.size + 2]? = some (.cells #[.bool false] 4 (0, 0)) := by rw [hW0]; exact new_at _ _ _ (by simp)
  have HL : Hid (∀ W, Below w.heap.size w W → LevS W a n cap ls) := fun W hb => h.below hb
  have HJ : Hid (∀ W, Below w.heap.size w W → JobS W b nb capb js) := fun W hb => hjs.below hb
  have HI : Hid (∀ W, Below w.heap.size w W → IntS W a2 n2 cap2 ss) := fun W hb => hss.below hb
  clear h hjs hss
  rcases hp : poB T ls with _ | _
  · have HE : Hid (an = none) := HA.out.trans (lfF_no (Or.inl hp))
    go_enter_defers Try.func17, Try.ntmps17
    go_wp2_with fail
    rw [← hW0]
    clear hW0
    refine (implProfileOk_any T a n cap ls _ (HL.out _ B0)).mono ?_
    rw [hp]
    rintro e w1 ⟨rfl, hb1⟩
    have C1 := B0.then hb1 B0.size
    have R1 := (hb1.block _ (lt_of_block R0)).trans R0
    have Q1 := (hb1.block _ (lt_of_block Q0)).trans Q0
    obtain ⟨r0, r1, f0, f1⟩ := boxed R1
    have q0 : w1.cell? ⟨w.heap.size + 2, 0, none⟩ = some (.bool false) := by simp [World.cell?, Q1]
    have g0 : w1.frozen? ⟨w.heap.size + 2, 0, none⟩ = false := by simp [World.frozen?, Q1]
    clear r0 r1 f0 f1
    have HR1 : Hid _ := R1
    have HQ1 : Hid _ := Q1
    obtain ⟨r0, r1, f0, f1⟩ := boxed R1
    clear R1 Q1 P0 R0 Q0
    go_wp2
    obtain ⟨c0, c1, c2, c3⟩ := fin3 (R := w.heap.size + 1) (Q := w.heap.size + 1 + 1) HR1.out HQ1.out (by omega) (.int .i64 0) (.slice none 0 0) (.bool false)
    have BF := ((C1.setCell (p := ⟨w.heap.size + 1, 0, none⟩) (by simp) (.int .i64 0)).setCell (p := ⟨w.heap.size + 1, 1, none⟩) (by simp) (.slice none 0 0)).setCell (p := ⟨w.heap.size + 1 + 1, 0, none⟩) (show w.heap.size ≤ w.heap.size + 1 + 1 by omega) (.bool false)
    generalize ((w1.setCell ⟨w.heap.size + 1, 0, none⟩ (.int .i64 0)).setCell ⟨w.heap.size + 1, 1, none⟩ (.slice none 0 0)).setCell ⟨w.heap.size + 1 + 1, 0, none⟩ (.bool false) = WF at c0 c1 c2 c3 BF ⊢
    refine leaves_cons (f := 46) (args := #[.pointer (some ⟨w.heap.size + 1, 0, none⟩), .pointer (some ⟨w.heap.size + 1 + 1, 0, none⟩)]) (by simp) (by simp [go_sem]) ?_
    refine (catch_idle (w.heap.size + 1) (w.heap.size + 1 + 1) _).mono ?_
    rintro e u' w'' ⟨rfl, rfl, rfl⟩
    simp only [Leaves, settle, results, Try.results17]
    refine ⟨_, by simp [go_sem, c0, c1, c2]; rfl, ?_⟩
    exact ⟨0, none, 0, 0, false, rfl, BF, by rw [HE.out]; exact ⟨rfl, rfl, rfl, rfl, rfl⟩⟩
  · have po := poB_t hp
    have n1 := po.n1
    have n2' := po.n2
    have HJS : Hid (joinL [] ls = ls) := joinL_self po
    rcases hs : soB js ss with _ | _
    · have HE : Hid (an = none) := HA.out.trans (lfF_so hs)
      go_enter_defers Try.func17, Try.ntmps17
      go_wp2_with fail
      rw [← hW0]
      clear hW0
      refine (implProfileOk_any T a n cap ls _ (HL.out _ B0)).mono ?_
      rw [hp]
      rintro e w1 ⟨rfl, hb1⟩
      have C1 := B0.then hb1 B0.size
      go_wp2_with fail
      refine (startsOk_any b a2 nb capb n2 cap2 js ss _ (HJ.out _ C1) (HI.out _ C1)).mono ?_
      rw [hs]
      rintro e w2 ⟨rfl, hb2⟩
      have C2 := C1.then hb2 C1.size
      have z1 := hb1.size
      have R2 := (hb2.block _ (by omega)).trans ((hb1.block _ (lt_of_block R0)).trans R0)
      have Q2 := (hb2.block _ (by omega)).trans ((hb1.block _ (lt_of_block Q0)).trans Q0)
      have HR2 : Hid _ := R2
      have HQ2 : Hid _ := Q2
      obtain ⟨r0, r1, f0, f1⟩ := boxed R2
      have q0 : w2.cell? ⟨w.heap.size + 2, 0, none⟩ = some (.bool false) := by simp [World.cell?, Q2]
      have g0 : w2.frozen? ⟨w.heap.size + 2, 0, none⟩ = false := by simp [World.frozen?, Q2]
      clear R2 Q2 P0 R0 Q0
      go_wp2
      obtain ⟨c0, c1, c2, c3⟩ := fin3 (R := w.heap.size + 1) (Q := w.heap.size + 1 + 1) HR2.out HQ2.out (by omega) (.int .i64 0) (.slice none 0 0) (.bool false)
      have BF := ((C2.setCell (p := ⟨w.heap.size + 1, 0, none⟩) (by simp) (.int .i64 0)).setCell (p := ⟨w.heap.size + 1, 1, none⟩) (by simp) (.slice none 0 0)).setCell (p := ⟨w.heap.size + 1 + 1, 0, none⟩) (show w.heap.size ≤ w.heap.size + 1 + 1 by omega) (.bool false)
      generalize ((w2.setCell ⟨w.heap.size + 1, 0, none⟩ (.int .i64 0)).setCell ⟨w.heap.size + 1, 1, none⟩ (.slice none 0 0)).setCell ⟨w.heap.size + 1 + 1, 0, none⟩ (.bool false) = WF at c0 c1 c2 c3 BF ⊢
      refine leaves_cons (f := 46) (args := #[.pointer (some ⟨w.heap.size + 1, 0, none⟩), .pointer (some ⟨w.heap.size + 1 + 1, 0, none⟩)]) (by simp) (by simp [go_sem]) ?_
      refine (catch_idle (w.heap.size + 1) (w.heap.size + 1 + 1) _).mono ?_
      rintro e u' w'' ⟨rfl, rfl, rfl⟩
      simp only [Leaves, settle, results, Try.results17]
      refine ⟨_, by simp [go_sem, c0, c1, c2]; rfl, ?_⟩
      exact ⟨0, none, 0, 0, false, rfl, BF, by rw [HE.out]; exact ⟨rfl, rfl, rfl, rfl, rfl⟩⟩
    · obtain ⟨hj, hl, hst⟩ := soB_t hs
      have js_ := jsB_t hj
      have hn40 := js_.n
      have HE : Hid (an = lfK T ls js ss js.length) := HA.out.trans (lfF_t hp hj hl)
      have Hst : Hid (stOk ss js.length) := hst
      have hln : n2 = nb := by have := (HI.out _ (Below.refl _ w)).len; omega
      subst hln
      clear hst hj
      go_enter_defers Try.func17, Try.ntmps17
      go_wp2_with fail
      rw [← hW0]
      clear hW0
      refine (implProfileOk_any T a n cap ls _ (HL.out _ B0)).mono ?_
      rw [hp]
      rintro e w1 ⟨rfl, hb1⟩
      have C1 := B0.then hb1 B0.size
      have z1 := hb1.size
      have P1 := (hb1.block _ (lt_of_block P0)).trans P0
      go_wp2_with fail
      refine (startsOk_any b a2 n2 capb n2 cap2 js ss _ (HJ.out _ C1) (HI.out _ C1)).mono ?_
      rw [hs]
      rintro e w2 ⟨rfl, hb2⟩
      have C2 := C1.then hb2 C1.size
      have z2 := hb2.size
      have P2 := (hb2.block _ (lt_of_block P1)).trans P1
      have R2 := (hb2.block _ (by omega)).trans ((hb1.block _ (lt_of_block R0)).trans R0)
      have Q2 := (hb2.block _ (by omega)).trans ((hb1.block _ (lt_of_block Q0)).trans Q0)
      obtain ⟨p0, p1, _, _⟩ := boxed P2
      clear P0 P1 R0 Q0 hs hp
      go_wp2_with fail
      refine (joined1_any T _ 0 a n cap ls _ (by simp) (by simp) (HL.out _ (C2.alloc C2.size _)) (by omega)).mono ?_
      clear hlen
      rintro e w3 ⟨hb3, hs3, hno⟩
      clear hno
      rw [HJS.out] at hs3
      obtain ⟨v, rfl, own⟩ := hs3 n2'
      obtain ⟨g, c, rfl, hg, hgc, hgm, hld⟩ := own_levD own n1
      clear p0 p1 own hs3
      have zz3 : w2.heap.size + 1 ≤ w3.heap.size := by have := hb3.size; simpa using this
      have hg' : w2.heap.size + 1 ≤ g := by simpa using hg
      have C3 : Below w.heap.size w w3 := (C2.alloc C2.size _).then hb3 (C2.alloc C2.size _).size
      have R3 := (hb3.block (w.heap.size + 1) (by simp; omega)).trans ((Below.heap_alloc _ _ _ (by omega)).trans R2)
      have Q3 := (hb3.block (w.heap.size + 2) (by simp; omega)).trans ((Below.heap_alloc _ _ _ (by omega)).trans Q2)
      have H3 : LeW w ((w3.setCell ⟨w.heap.size + 1, 0, none⟩ (.int .i64 T)).setCell ⟨w.heap.size + 1, 1, none⟩ (.slice (some ⟨g, 0, none⟩) ls.length c)) T g c ls := by
        obtain ⟨q0, q1⟩ := Proofs.Ytcmpenlgkccgkaa.set2 R3 (.int .i64 T) (.slice (some ⟨g, 0, none⟩) ls.length c)
        exact ⟨(C3.setCell (by simp) _).setCell (by simp) _, q0, (q1 _ (by omega)).trans Q3, hld.blk (q1 g (by omega)), hgc, hgm, by omega⟩
      obtain ⟨r0, r1, f0, f1⟩ := boxed R3
      have HH3 : Hid _ := H3
      clear R2 Q2 R3 Q3 H3
      go_wp2
      clear hb1 hb2 hb3 hg hld C3 P2 zz3 hg' r0 r1 f0 f1
      have HPO : Hid (PO T ls) := po
      clear po
      go_loopw [32] (fun i wr => ∃ (k g c : Nat) (l : List Lev), k ≤ n2 ∧ i = .int .i64 k ∧ Hid (lfK T ls js ss k = some l) ∧ Hid (LeW w wr T g c l)) (fun i _ => n2 - (intOf i).toNat)
      case atStart => exact ⟨0, g, c, ls, by omega, rfl, rfl, HH3.out⟩
      case round =>
        obtain ⟨k, g', c', l, hk, rfl, HK, HW⟩ := hrel
        rename World => wr
        clear HH3 hgc hgm
        by_cases hlt : k < n2
        · have pl : PO T l := lfK_po HPO.out k l HK.out
          have hjk := (js_.ok k (by omega)).1
          have hsk := Hst.out k (by omega)
          have hB := HW.out.bel
          have hz := hB.size
          obtain ⟨b1, off, rfl, hbw, hat⟩ := (HJ.out _ hB).at_ (by omega)
          obtain ⟨b2, off2, rfl, hbw2, hat2⟩ := (HI.out _ hB).at_ (by omega)
          obtain ⟨hc0, hc1, hc2, hc3, hc4, hc5, hc6⟩ := hat.job (i := k) (by omega)
          have s0 := hat2 k hlt
          have hlt' : (k : Int) < (n2 : Int) := by omega
          go_upto_region 8 with fail
          have D1' : LeW w (wr.alloc (.cells #[.int .i64 (jg js k).id, .int .i64 (jg js k).cores, .int .i64 (jg js k).long, .int .i64 (jg js k).due, .int .i64 (jg js k).wt, .int .i64 (jg js k).rank, .int .i64 (jg js k).at_] 54)) T g' c' l := HW.out.below box_below0
          have HDB' := heap_alloc_new wr (.cells #[.int .i64 (jg js k).id, .int .i64 (jg js k).cores, .int .i64 (jg js k).long, .int .i64 (jg js k).due, .int .i64 (jg js k).wt, .int .i64 (jg js k).rank, .int .i64 (jg js k).at_] 54)
          have s1 : (wr.alloc (.cells #[.int .i64 (jg js k).id, .int .i64 (jg js k).cores, .int .i64 (jg js k).long, .int .i64 (jg js k).due, .int .i64 (jg js k).wt, .int .i64 (jg js k).rank, .int .i64 (jg js k).at_] 54)).cell? ⟨b2, off2 + k, none⟩ = some (.int .i64 (zg ss k)) := (World.cell?_alloc_lt _ _ _ hbw2).trans s0
          clear hc0 hc1 hc2 hc3 hc4 hc5 hc6 hat hat2 hbw hbw2 HW s0
          have zJ : (wr.alloc (.cells #[.int .i64 (jg js k).id, .int .i64 (jg js k).cores, .int .i64 (jg js k).long, .int .i64 (jg js k).due, .int .i64 (jg js k).wt, .int .i64 (jg js k).rank, .int .i64 (jg js k).at_] 54)).heap.size = wr.heap.size + 1 := by simp
          generalize hQ : wr.heap.size = q at HDB' zJ hz ⊢
          clear hQ
          generalize wr.alloc (.cells #[.int .i64 (jg js k).id, .int .i64 (jg js k).cores, .int .i64 (jg js k).long, .int .i64 (jg js k).due, .int .i64 (jg js k).wt, .int .i64 (jg js k).rank, .int .i64 (jg js k).at_] 54) = W1 at D1' HDB' s1 zJ ⊢
          obtain ⟨r0, r1, f0, f1⟩ := boxed D1'.box
          obtain ⟨hc0, hc1, hc2, hc3, hc4, hc5, hc6⟩ := job_cells HDB'
          have HD1 : Hid _ := D1'
          obtain ⟨z, hz9⟩ : ∃ z, z = zg ss k := ⟨_, rfl⟩
          have HZ : Hid (z = zg ss k) := hz9
          rw [← hz9] at s1 hsk
          clear hz9 D1' HDB'
          rcases hin : inB z 0 999999999 with _ | _
          · have HN : Hid (lfK T ls js ss (k + 1) = some l) := lfK_same HK.out (by have := HZ.out; have := inB_f hin; omega)
            refine wp_region_noPanic ?_
            go_region_with (go_at_call 49; refine (behind_not T z _ _ _ (jg js k) _ hin).mono ?_; rintro e w5 ⟨rfl, hb5⟩; have D5 := HD1.out.below ((Below.refl _ _).drew.then hb5 (Nat.le_refl _)); have HD5 : Hid _ := D5.put D5.lev D5.le D5.mx D5.g0; obtain ⟨r0', r1', f0', f1'⟩ := boxed D5.box; clear hb5 D5)
            all_goals (refine NoPanic.normal ?_; go_wp2; go_roundw; (case rel => exact ⟨k + 1, g', c', l, by omega, by go_num, HN.out, HD5.out⟩); (case measure => simp [intOf]; omega))
          · have hb01 := inB_t hin
            have hcl := jok_cl hjk
            have hz1 : z < 1000000000 := by omega
            have hy := later_gt hz1 hcl.2.2.1
            have Hch : Hid (chgL l z (laterI z (jg js k).long) (-(jg js k).cores) = cutL l z (laterI z (jg js k).long) (-(jg js k).cores)) := if_neg (by omega)
            have Hrb : Hid (resB T l z (laterI z (jg js k).long) (jg js k).cores = poB T (cutL l z (laterI z (jg js k).long) (-(jg js k).cores))) := resB_cut pl hb01.1 hy.1 hy.2 ⟨by omega, by omega⟩
            have HN0 : Hid (lfK T ls js ss (k + 1) = if poB T (cutL l z (laterI z (jg js k).long) (-(jg js k).cores)) = true then some (cutL l z (laterI z (jg js k).long) (-(jg js k).cores)) else none) := by
              have h9 := lfK_res HK.out (by rw [← HZ.out]; omega)
              rw [← HZ.out, Hrb.out, Hch.out] at h9
              exact h9
            have CB := fun W (hW : Below W1.heap.size W1 W) => behind_any T z _ _ c' l (jg js k) W ((HD1.out.below hW).lev.toS rfl HD1.out.le HD1.out.mx (wf_of_bd fun i hi => by have := pl.el i hi; have := pl.pos hi; have := pl.t1; omega)) pl hjk hin
            clear hy hcl
            obtain ⟨L, hL⟩ : ∃ L, L = cutL l z (laterI z (jg js k).long) (-(jg js k).cores) := ⟨_, rfl⟩
            rw [← hL] at HN0 CB
            have HCB : Hid _ := CB
            clear hL Hrb Hch CB
            rcases hpL : poB T L with _ | _
            · have HN : Hid (lfK T ls js ss (k + 1) = none) := by unfold Hid; rw [HN0.out, hpL]; rfl
              have HP2 : Hid (∀ W, Below W1.heap.size W1 W → Calls Try.prog 49 #[.agg #[.int .i64 T, .slice (some ⟨g', 0, none⟩) l.length c'], .agg #[.int .i64 (jg js k).id, .int .i64 (jg js k).cores, .int .i64 (jg js k).long, .int .i64 (jg js k).due, .int .i64 (jg js k).wt, .int .i64 (jg js k).rank, .int .i64 (jg js k).at_], .int .i64 z] W fun e w' => Below W.heap.size W w' ∧ ∃ (u : TypeId) (pv : Value), e = .panicked [{ v := .iface u pv, recovered := false }]) := fun W hW => by
                refine (HCB.out W hW).mono ?_
                rintro e w' ⟨h1, ⟨h2, _⟩ | ⟨_, h2⟩⟩
                · rw [hpL] at h2; cases h2
                · exact ⟨h1, h2⟩
              clear HCB HN0
              have HE2 : Hid (an = none) := HE.out.trans (lfK_no HN.out (by omega))
              refine wp_region_any (by kernel_rfl) ?_
              change wpAny _ _ _ _ _ _ _ (World.drew _)
              refine wpAny_take (i := 2) (v := ?_) rfl (by kernel_rfl) (by kernel_rfl) (by kernel_rfl) (fun c a w h => leaves_congr (left_put a.tmps (by decide) (by decide) _) _ _ _ h) (Or.inl ⟨by rfl, ?_⟩) ?_
              rotate_left
              · intro w
                go_simp
                try with_reducible rfl
              refine wpAny_take (i := 3) (v := ?_) rfl (by kernel_rfl) (by kernel_rfl) (by kernel_rfl) (fun c a w h => leaves_congr (left_put a.tmps (by decide) (by decide) _) _ _ _ h) (Or.inl ⟨by rfl, ?_⟩) ?_
              rotate_left
              · intro w
                go_simp
                try with_reducible rfl
              refine wpAny_take (i := 4) (v := ?_) rfl (by kernel_rfl) (by kernel_rfl) (by kernel_rfl) (fun c a w h => leaves_congr (left_put a.tmps (by decide) (by decide) _) _ _ _ h) (Or.inl ⟨by rfl, ?_⟩) ?_
              rotate_left
              · intro w
                go_simp
                try with_reducible rfl
              refine wpAny_ready (rs := [0, 1, 5]) (by kernel_rfl) (by simp) ?_
              refine AllReady.cons rfl (fun K hK => ?_) ?_
              · go_simp
                refine hK _ _ ?_
                clear hK K
                refine wpAny_ready (rs := [1, 5]) (by kernel_rfl) (by simp) ?_
                refine AllReady.cons rfl (fun K hK => ?_) ?_
                · go_simp
                  refine hK _ _ ?_
                  clear hK K
                  refine wpAny_ready (rs := [5]) (by kernel_rfl) (by simp) ?_
                  refine AllReady.cons rfl (fun K hK => ?_) ?_
                  · go_simp
                    refine hK _ _ ?_
                    clear hK K
                    refine wpAny_ready (rs := [6]) (by kernel_rfl) (by simp) ?_
                    refine AllReady.cons rfl (fun K hK => ?_) AllReady.nil
                    go_simp
                    go_at_call 49
                    refine (HP2.out _ (Below.refl _ _).drew).mono ?_
                    rintro e w5 ⟨hb5, u, pv, rfl⟩
                    dsimp only
                    clear hK K
                    have D5 := HD1.out.below ((Below.refl _ _).drew.then hb5 (Nat.le_refl _))
                    obtain ⟨c0, c1, c2, c3⟩ := fin3 (R := w.heap.size + 1) (Q := w.heap.size + 1 + 1) D5.box D5.flag (by omega) (.int .i64 0) (.slice none 0 0) (.bool false)
                    have BF := ((D5.bel.setCell (p := ⟨w.heap.size + 1, 0, none⟩) (by simp) (.int .i64 0)).setCell (p := ⟨w.heap.size + 1, 1, none⟩) (by simp) (.slice none 0 0)).setCell (p := ⟨w.heap.size + 1 + 1, 0, none⟩) (show w.heap.size ≤ w.heap.size + 1 + 1 by omega) (.bool false)
                    change Leaves _ _ _ _ _ _ _
                    refine leaves_cons (f := 46) (args := #[.pointer (some ⟨w.heap.size + 1, 0, none⟩), .pointer (some ⟨w.heap.size + 1 + 1, 0, none⟩)]) (by simp) (by simp [go_sem]) ?_
                    refine (catch_panicking (w.heap.size + 1) (w.heap.size + 1 + 1) _ _ _ u pv [] _ D5.box D5.flag (by omega)).mono ?_
                    rintro e u' w'' ⟨rfl, rfl, rfl⟩
                    clear D5
                    generalize ((w5.setCell ⟨w.heap.size + 1, 0, none⟩ (.int .i64 0)).setCell ⟨w.heap.size + 1, 1, none⟩ (.slice none 0 0)).setCell ⟨w.heap.size + 1 + 1, 0, none⟩ (.bool false) = WF at c0 c1 c2 BF ⊢
                    clear c3
                    simp [Leaves, settle, results, Try.results17, go_sem, c0, c1, c2]
                    exact ⟨0, none, 0, 0, ⟨rfl, rfl, rfl, rfl⟩, BF, by rw [HE2.out]; exact ⟨rfl, rfl, rfl, rfl, rfl⟩⟩
                  exact AllReady.nil
                refine AllReady.cons rfl (fun K hK => ?_) ?_
                · go_simp
                  refine hK _ _ ?_
                  clear hK K
                  refine wpAny_ready (rs := [1]) (by kernel_rfl) (by simp) ?_
                  refine AllReady.cons rfl (fun K hK => ?_) ?_
                  · go_simp
                    refine hK _ _ ?_
                    clear hK K
                    refine wpAny_ready (rs := [6]) (by kernel_rfl) (by simp) ?_
                    refine AllReady.cons rfl (fun K hK => ?_) AllReady.nil
                    go_simp
                    go_at_call 49
                    refine (HP2.out _ (Below.refl _ _).drew).mono ?_
                    rintro e w5 ⟨hb5, u, pv, rfl⟩
                    dsimp only
                    clear hK K
                    have D5 := HD1.out.below ((Below.refl _ _).drew.then hb5 (Nat.le_refl _))
                    obtain ⟨c0, c1, c2, c3⟩ := fin3 (R := w.heap.size + 1) (Q := w.heap.size + 1 + 1) D5.box D5.flag (by omega) (.int .i64 0) (.slice none 0 0) (.bool false)
                    have BF := ((D5.bel.setCell (p := ⟨w.heap.size + 1, 0, none⟩) (by simp) (.int .i64 0)).setCell (p := ⟨w.heap.size + 1, 1, none⟩) (by simp) (.slice none 0 0)).setCell (p := ⟨w.heap.size + 1 + 1, 0, none⟩) (show w.heap.size ≤ w.heap.size + 1 + 1 by omega) (.bool false)
                    change Leaves _ _ _ _ _ _ _
                    refine leaves_cons (f := 46) (args := #[.pointer (some ⟨w.heap.size + 1, 0, none⟩), .pointer (some ⟨w.heap.size + 1 + 1, 0, none⟩)]) (by simp) (by simp [go_sem]) ?_
                    refine (catch_panicking (w.heap.size + 1) (w.heap.size + 1 + 1) _ _ _ u pv [] _ D5.box D5.flag (by omega)).mono ?_
                    rintro e u' w'' ⟨rfl, rfl, rfl⟩
                    clear D5
                    generalize ((w5.setCell ⟨w.heap.size + 1, 0, none⟩ (.int .i64 0)).setCell ⟨w.heap.size + 1, 1, none⟩ (.slice none 0 0)).setCell ⟨w.heap.size + 1 + 1, 0, none⟩ (.bool false) = WF at c0 c1 c2 BF ⊢
                    clear c3
                    simp [Leaves, settle, results, Try.results17, go_sem, c0, c1, c2]
                    exact ⟨0, none, 0, 0, ⟨rfl, rfl, rfl, rfl⟩, BF, by rw [HE2.out]; exact ⟨rfl, rfl, rfl, rfl, rfl⟩⟩
                  exact AllReady.nil
                exact AllReady.nil
              refine AllReady.cons rfl (fun K hK => ?_) ?_
              · go_simp
                refine hK _ _ ?_
                clear hK K
                refine wpAny_ready (rs := [0, 5]) (by kernel_rfl) (by simp) ?_
                refine AllReady.cons rfl (fun K hK => ?_) ?_
                · go_simp
                  refine hK _ _ ?_
                  clear hK K
                  refine wpAny_ready (rs := [5]) (by kernel_rfl) (by simp) ?_
                  refine AllReady.cons rfl (fun K hK => ?_) ?_
                  · go_simp
                    refine hK _ _ ?_
                    clear hK K
                    refine wpAny_ready (rs := [6]) (by kernel_rfl) (by simp) ?_
                    refine AllReady.cons rfl (fun K hK => ?_) AllReady.nil
                    go_simp
                    go_at_call 49
                    refine (HP2.out _ (Below.refl _ _).drew).mono ?_
                    rintro e w5 ⟨hb5, u, pv, rfl⟩
                    dsimp only
                    clear hK K
                    have D5 := HD1.out.below ((Below.refl _ _).drew.then hb5 (Nat.le_refl _))
                    obtain ⟨c0, c1, c2, c3⟩ := fin3 (R := w.heap.size + 1) (Q := w.heap.size + 1 + 1) D5.box D5.flag (by omega) (.int .i64 0) (.slice none 0 0) (.bool false)
                    have BF := ((D5.bel.setCell (p := ⟨w.heap.size + 1, 0, none⟩) (by simp) (.int .i64 0)).setCell (p := ⟨w.heap.size + 1, 1, none⟩) (by simp) (.slice none 0 0)).setCell (p := ⟨w.heap.size + 1 + 1, 0, none⟩) (show w.heap.size ≤ w.heap.size + 1 + 1 by omega) (.bool false)
                    change Leaves _ _ _ _ _ _ _
                    refine leaves_cons (f := 46) (args := #[.pointer (some ⟨w.heap.size + 1, 0, none⟩), .pointer (some ⟨w.heap.size + 1 + 1, 0, none⟩)]) (by simp) (by simp [go_sem]) ?_
                    refine (catch_panicking (w.heap.size + 1) (w.heap.size + 1 + 1) _ _ _ u pv [] _ D5.box D5.flag (by omega)).mono ?_
                    rintro e u' w'' ⟨rfl, rfl, rfl⟩
                    clear D5
                    generalize ((w5.setCell ⟨w.heap.size + 1, 0, none⟩ (.int .i64 0)).setCell ⟨w.heap.size + 1, 1, none⟩ (.slice none 0 0)).setCell ⟨w.heap.size + 1 + 1, 0, none⟩ (.bool false) = WF at c0 c1 c2 BF ⊢
                    clear c3
                    simp [Leaves, settle, results, Try.results17, go_sem, c0, c1, c2]
                    exact ⟨0, none, 0, 0, ⟨rfl, rfl, rfl, rfl⟩, BF, by rw [HE2.out]; exact ⟨rfl, rfl, rfl, rfl, rfl⟩⟩
                  exact AllReady.nil
                refine AllReady.cons rfl (fun K hK => ?_) ?_
                · go_simp
                  refine hK _ _ ?_
                  clear hK K
                  refine wpAny_ready (rs := [0]) (by kernel_rfl) (by simp) ?_
                  refine AllReady.cons rfl (fun K hK => ?_) ?_
                  · go_simp
                    refine hK _ _ ?_
                    clear hK K
                    refine wpAny_ready (rs := [6]) (by kernel_rfl) (by simp) ?_
                    refine AllReady.cons rfl (fun K hK => ?_) AllReady.nil
                    go_simp
                    go_at_call 49
                    refine (HP2.out _ (Below.refl _ _).drew).mono ?_
                    rintro e w5 ⟨hb5, u, pv, rfl⟩
                    dsimp only
                    clear hK K
                    have D5 := HD1.out.below ((Below.refl _ _).drew.then hb5 (Nat.le_refl _))
                    obtain ⟨c0, c1, c2, c3⟩ := fin3 (R := w.heap.size + 1) (Q := w.heap.size + 1 + 1) D5.box D5.flag (by omega) (.int .i64 0) (.slice none 0 0) (.bool false)
                    have BF := ((D5.bel.setCell (p := ⟨w.heap.size + 1, 0, none⟩) (by simp) (.int .i64 0)).setCell (p := ⟨w.heap.size + 1, 1, none⟩) (by simp) (.slice none 0 0)).setCell (p := ⟨w.heap.size + 1 + 1, 0, none⟩) (show w.heap.size ≤ w.heap.size + 1 + 1 by omega) (.bool false)
                    change Leaves _ _ _ _ _ _ _
                    refine leaves_cons (f := 46) (args := #[.pointer (some ⟨w.heap.size + 1, 0, none⟩), .pointer (some ⟨w.heap.size + 1 + 1, 0, none⟩)]) (by simp) (by simp [go_sem]) ?_
                    refine (catch_panicking (w.heap.size + 1) (w.heap.size + 1 + 1) _ _ _ u pv [] _ D5.box D5.flag (by omega)).mono ?_
                    rintro e u' w'' ⟨rfl, rfl, rfl⟩
                    clear D5
                    generalize ((w5.setCell ⟨w.heap.size + 1, 0, none⟩ (.int .i64 0)).setCell ⟨w.heap.size + 1, 1, none⟩ (.slice none 0 0)).setCell ⟨w.heap.size + 1 + 1, 0, none⟩ (.bool false) = WF at c0 c1 c2 BF ⊢
                    clear c3
                    simp [Leaves, settle, results, Try.results17, go_sem, c0, c1, c2]
                    exact ⟨0, none, 0, 0, ⟨rfl, rfl, rfl, rfl⟩, BF, by rw [HE2.out]; exact ⟨rfl, rfl, rfl, rfl, rfl⟩⟩
                  exact AllReady.nil
                exact AllReady.nil
              refine AllReady.cons rfl (fun K hK => ?_) ?_
              · go_simp
                refine hK _ _ ?_
                clear hK K
                refine wpAny_ready (rs := [0, 1]) (by kernel_rfl) (by simp) ?_
                refine AllReady.cons rfl (fun K hK => ?_) ?_
                · go_simp
                  refine hK _ _ ?_
                  clear hK K
                  refine wpAny_ready (rs := [1]) (by kernel_rfl) (by simp) ?_
                  refine AllReady.cons rfl (fun K hK => ?_) ?_
                  · go_simp
                    refine hK _ _ ?_
                    clear hK K
                    refine wpAny_ready (rs := [6]) (by kernel_rfl) (by simp) ?_
                    refine AllReady.cons rfl (fun K hK => ?_) AllReady.nil
                    go_simp
                    go_at_call 49
                    refine (HP2.out _ (Below.refl _ _).drew).mono ?_
                    rintro e w5 ⟨hb5, u, pv, rfl⟩
                    dsimp only
                    clear hK K
                    have D5 := HD1.out.below ((Below.refl _ _).drew.then hb5 (Nat.le_refl _))
                    obtain ⟨c0, c1, c2, c3⟩ := fin3 (R := w.heap.size + 1) (Q := w.heap.size + 1 + 1) D5.box D5.flag (by omega) (.int .i64 0) (.slice none 0 0) (.bool false)
                    have BF := ((D5.bel.setCell (p := ⟨w.heap.size + 1, 0, none⟩) (by simp) (.int .i64 0)).setCell (p := ⟨w.heap.size + 1, 1, none⟩) (by simp) (.slice none 0 0)).setCell (p := ⟨w.heap.size + 1 + 1, 0, none⟩) (show w.heap.size ≤ w.heap.size + 1 + 1 by omega) (.bool false)
                    change Leaves _ _ _ _ _ _ _
                    refine leaves_cons (f := 46) (args := #[.pointer (some ⟨w.heap.size + 1, 0, none⟩), .pointer (some ⟨w.heap.size + 1 + 1, 0, none⟩)]) (by simp) (by simp [go_sem]) ?_
                    refine (catch_panicking (w.heap.size + 1) (w.heap.size + 1 + 1) _ _ _ u pv [] _ D5.box D5.flag (by omega)).mono ?_
                    rintro e u' w'' ⟨rfl, rfl, rfl⟩
                    clear D5
                    generalize ((w5.setCell ⟨w.heap.size + 1, 0, none⟩ (.int .i64 0)).setCell ⟨w.heap.size + 1, 1, none⟩ (.slice none 0 0)).setCell ⟨w.heap.size + 1 + 1, 0, none⟩ (.bool false) = WF at c0 c1 c2 BF ⊢
                    clear c3
                    simp [Leaves, settle, results, Try.results17, go_sem, c0, c1, c2]
                    exact ⟨0, none, 0, 0, ⟨rfl, rfl, rfl, rfl⟩, BF, by rw [HE2.out]; exact ⟨rfl, rfl, rfl, rfl, rfl⟩⟩
                  exact AllReady.nil
                refine AllReady.cons rfl (fun K hK => ?_) ?_
                · go_simp
                  refine hK _ _ ?_
                  clear hK K
                  refine wpAny_ready (rs := [0]) (by kernel_rfl) (by simp) ?_
                  refine AllReady.cons rfl (fun K hK => ?_) ?_
                  · go_simp
                    refine hK _ _ ?_
                    clear hK K
                    refine wpAny_ready (rs := [6]) (by kernel_rfl) (by simp) ?_
                    refine AllReady.cons rfl (fun K hK => ?_) AllReady.nil
                    go_simp
                    go_at_call 49
                    refine (HP2.out _ (Below.refl _ _).drew).mono ?_
                    rintro e w5 ⟨hb5, u, pv, rfl⟩
                    dsimp only
                    clear hK K
                    have D5 := HD1.out.below ((Below.refl _ _).drew.then hb5 (Nat.le_refl _))
                    obtain ⟨c0, c1, c2, c3⟩ := fin3 (R := w.heap.size + 1) (Q := w.heap.size + 1 + 1) D5.box D5.flag (by omega) (.int .i64 0) (.slice none 0 0) (.bool false)
                    have BF := ((D5.bel.setCell (p := ⟨w.heap.size + 1, 0, none⟩) (by simp) (.int .i64 0)).setCell (p := ⟨w.heap.size + 1, 1, none⟩) (by simp) (.slice none 0 0)).setCell (p := ⟨w.heap.size + 1 + 1, 0, none⟩) (show w.heap.size ≤ w.heap.size + 1 + 1 by omega) (.bool false)
                    change Leaves _ _ _ _ _ _ _
                    refine leaves_cons (f := 46) (args := #[.pointer (some ⟨w.heap.size + 1, 0, none⟩), .pointer (some ⟨w.heap.size + 1 + 1, 0, none⟩)]) (by simp) (by simp [go_sem]) ?_
                    refine (catch_panicking (w.heap.size + 1) (w.heap.size + 1 + 1) _ _ _ u pv [] _ D5.box D5.flag (by omega)).mono ?_
                    rintro e u' w'' ⟨rfl, rfl, rfl⟩
                    clear D5
                    generalize ((w5.setCell ⟨w.heap.size + 1, 0, none⟩ (.int .i64 0)).setCell ⟨w.heap.size + 1, 1, none⟩ (.slice none 0 0)).setCell ⟨w.heap.size + 1 + 1, 0, none⟩ (.bool false) = WF at c0 c1 c2 BF ⊢
                    clear c3
                    simp [Leaves, settle, results, Try.results17, go_sem, c0, c1, c2]
                    exact ⟨0, none, 0, 0, ⟨rfl, rfl, rfl, rfl⟩, BF, by rw [HE2.out]; exact ⟨rfl, rfl, rfl, rfl, rfl⟩⟩
                  exact AllReady.nil
                exact AllReady.nil
              exact AllReady.nil
            · have HN : Hid (lfK T ls js ss (k + 1) = some L) := by unfold Hid; rw [HN0.out, hpL]; rfl
              have HC2 : Hid (∀ W, Below W1.heap.size W1 W → Calls Try.prog 49 #[.agg #[.int .i64 T, .slice (some ⟨g', 0, none⟩) l.length c'], .agg #[.int .i64 (jg js k).id, .int .i64 (jg js k).cores, .int .i64 (jg js k).long, .int .i64 (jg js k).due, .int .i64 (jg js k).wt, .int .i64 (jg js k).rank, .int .i64 (jg js k).at_], .int .i64 z] W fun e w' => Below W.heap.size W w' ∧ ∃ g c : Nat, e = .returned (.agg #[.int .i64 T, .slice (some ⟨g, 0, none⟩) L.length c]) ∧ W.heap.size ≤ g ∧ L.length ≤ c ∧ c ≤ maxLen ∧ LevD w' g L.length c L) := fun W hW => by
                refine (HCB.out W hW).mono ?_
                rintro e w' ⟨h1, ⟨_, h2⟩ | ⟨h2, _⟩⟩
                · exact ⟨h1, h2⟩
                · rw [hpL] at h2; cases h2
              clear HCB HN0
              refine wp_region_noPanic ?_
              go_region_with (go_at_call 49; refine (HC2.out _ (Below.refl _ _).drew).mono ?_; rintro e w5 ⟨hb5, g5, c5, rfl, hg5, hgc5, hgm5, hld5⟩; have D5 := HD1.out.below ((Below.refl _ _).drew.then hb5 (Nat.le_refl _)); have HD5 : Hid _ := D5.put hld5 hgc5 hgm5 (by have h9 : W1.heap.size ≤ g5 := hg5; have := HD1.out.bel.size; have := lt_of_block HD1.out.flag; omega); obtain ⟨r0', r1', f0', f1'⟩ := boxed D5.box; clear hb5 D5 hg5 hgc5 hgm5 hld5)
              all_goals (refine NoPanic.normal ?_; go_wp2; go_roundw; (case rel => exact ⟨k + 1, g5, c5, L, by omega, by go_num, HN.out, HD5.out⟩); (case measure => simp [intOf]; omega))
        · obtain rfl : k = n2 := by omega
          have HE2 : Hid (an = some l) := by unfold Hid; rw [HE.out, hlenb]; exact HK.out
          have hnn : ¬ (k : Int) < (k : Int) := by omega
          obtain ⟨r0, r1, f0, f1⟩ := boxed HW.out.box
          have q0 : wr.cell? ⟨w.heap.size + 2, 0, none⟩ = some (.bool false) := by simp [World.cell?, HW.out.flag]
          have g0 : wr.frozen? ⟨w.heap.size + 2, 0, none⟩ = false := by simp [World.frozen?, HW.out.flag]
          go_wp2
          obtain ⟨c0, c1, c2, c3⟩ := fin3 (R := w.heap.size + 1) (Q := w.heap.size + 1 + 1) HW.out.box HW.out.flag (by omega) (.int .i64 T) (.slice (some ⟨g', 0, none⟩) l.length c') (.bool true)
          have BF := ((HW.out.bel.setCell (p := ⟨w.heap.size + 1, 0, none⟩) (by simp) (.int .i64 T)).setCell (p := ⟨w.heap.size + 1, 1, none⟩) (by simp) (.slice (some ⟨g', 0, none⟩) l.length c')).setCell (p := ⟨w.heap.size + 1 + 1, 0, none⟩) (show w.heap.size ≤ w.heap.size + 1 + 1 by omega) (.bool true)
          have hg0 := HW.out.g0
          have LF := HW.out.lev.blk (c3 g' (by omega) (by omega))
          generalize ((wr.setCell ⟨w.heap.size + 1, 0, none⟩ (.int .i64 T)).setCell ⟨w.heap.size + 1, 1, none⟩ (.slice (some ⟨g', 0, none⟩) l.length c')).setCell ⟨w.heap.size + 1 + 1, 0, none⟩ (.bool true) = WF at c0 c1 c2 BF LF ⊢
          refine leaves_cons (f := 46) (args := #[.pointer (some ⟨w.heap.size + 1, 0, none⟩), .pointer (some ⟨w.heap.size + 1 + 1, 0, none⟩)]) (by simp) (by simp [go_sem]) ?_
          refine (catch_idle (w.heap.size + 1) (w.heap.size + 1 + 1) _).mono ?_
          rintro e u' w'' ⟨rfl, rfl, rfl⟩
          simp only [Leaves, settle, results, Try.results17]
          refine ⟨_, by simp [go_sem, c0, c1, c2]; rfl, ?_⟩
          exact ⟨T, _, _, _, Or.inr ⟨rfl, BF, by rw [HE2.out]; exact ⟨rfl, rfl, g', rfl, rfl, by omega, HW.out.le, HW.out.mx, LF⟩⟩⟩

theorem implPlanOk_any (T : Int) (a b a2 : Option Addr) (n cap nb capb n2 cap2 : Nat) (ls : List Lev) (js : List Jb) (ss : List Int) (w : World) (h : LevS w a n cap ls) (hjs : JobS w b nb capb js) (hss : IntS w a2 n2 cap2 ss) :
    Calls Try.prog 24 #[.agg #[.int .i64 T, .slice a n cap], .slice b nb capb, .slice a2 n2 cap2] w fun e w' => e = .returned (.bool (lfF T ls js ss).isSome) ∧ Below w.heap.size w w' := by
  have B0 : Below w.heap.size w (w.alloc (.cells #[.int .i64 T, .slice a n cap] 38)) := box_below
  obtain ⟨an, han⟩ : ∃ an, an = lfF T ls js ss := ⟨_, rfl⟩
  have HA : Hid (an = lfF T ls js ss) := han
  rw [← han]
  clear han
  go_enter Try.func24, Try.ntmps24
  go_wp2_with fail
  refine (implLeft_any T a b a2 n cap nb capb n2 cap2 ls js ss _ (h.below B0) (hjs.below B0) (hss.below B0)).mono ?_
  rw [← HA.out]
  rintro e w1 ⟨T', v, n', c', bb, rfl, hb1, hL⟩
  have V1 := B0.then hb1 B0.size
  have HE : Hid (an.isSome = bb) := by
    cases an with
    | none => rw [hL.1]; rfl
    | some l => rw [hL.1]; rfl
  clear hL
  go_wp2
  go_ret
  exact ⟨by rw [HE.out]; rfl, V1.alloc V1.size _⟩

end Go.Proofs.Ytcmpenlgkccgkaa
