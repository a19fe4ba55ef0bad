/- One start of a plan: begins, reservedFor, placed, behind of the program. -/
import Derived.Test.YtcmpenlgkccgkaaRsvI
import Derived.Test.YtcmpenlgkccgkaaPlanQ
import Derived.Test.YtcmpenlgkccgkaaPkB
import Derived.Test.YtcmpenlgkccgkaaPkD
namespace Go.Proofs.Ytcmpenlgkccgkaa
open Go.RowKit Go.Sort

theorem begins_any (s : Int) (w : World) : Calls Try.prog 38 #[.int .i64 s] w fun e w' => e = .returned (.bool (inB s 0 999999999)) ∧ w' = w := by
  go_enter Try.func38, Try.ntmps38
  go_wp2_with (go_at_call 66; refine (within_any _ _ _ _).mono ?_; rintro e w' ⟨rfl, rfl⟩)
  go_ret
  exact ⟨rfl, rfl⟩

set_option maxRecDepth 8000 in
set_option maxHeartbeats 4000000 in
theorem reservedFor_any (T s : Int) (a : Option Addr) (n cap : Nat) (ls : List Lev) (j : Jb) (w : World) (h : LevS w a n cap ls) (po : PO T ls) (hj : jok j = true) (hs0 : 0 ≤ s) (hs1 : s < 1000000000) :
    Calls Try.prog 73 #[.agg #[.int .i64 T, .slice a n cap], .agg #[.int .i64 j.id, .int .i64 j.cores, .int .i64 j.long, .int .i64 j.due, .int .i64 j.wt, .int .i64 j.rank, .int .i64 j.at_], .int .i64 s] w fun e w' => RsU w w' T (cutL ls s (laterI s j.long) (-j.cores)) e := by
  have hcl := jok_cl hj
  obtain ⟨hy1, hy2⟩ := later_gt hs1 hcl.2.2.1
  have hso : okB s = true := inB_mk ⟨by omega, by omega⟩
  have hlo : okB j.long = true := inB_mk ⟨by omega, by omega⟩
  have hfl : faceI laterI s j.long = laterI s j.long := face_tt hso hlo
  obtain ⟨y, hy⟩ : ∃ y, y = laterI s j.long := ⟨_, rfl⟩
  rw [← hy] at hy1 hy2 hfl ⊢
  have Hfl : Hid _ := hfl
  clear hy hfl
  obtain ⟨W0, hW0⟩ : ∃ W0, W0 = ((w.alloc (.cells #[.int .i64 T, .slice a n cap] 38)).alloc (.cells #[.int .i64 j.id, .int .i64 j.cores, .int .i64 j.long, .int .i64 j.due, .int .i64 j.wt, .int .i64 j.rank, .int .i64 j.at_] 54)).alloc (.cells #[.int .i64 0, .slice none 0 0] 38) := ⟨_, rfl⟩
  have B0 : Below w.heap.size w W0 := by rw [hW0]; exact (box_below.alloc (by simp) _).alloc (by simp; omega) _
  have z0 : w.heap.size + 3 ≤ W0.heap.size := by rw [hW0]; simp
  have P0 : W0.heap[w.heap.size]? = some (.cells #[.int .i64 T, .slice a n cap] 38 (0, 0)) := by rw [hW0]; exact (Below.heap_alloc _ _ _ (by simp; omega)).trans ((Below.heap_alloc _ _ _ (by simp)).trans (heap_alloc_new _ _))
  have J0 : W0.heap[w.heap.size + 1]? = some (.cells #[.int .i64 j.id, .int .i64 j.cores, .int .i64 j.long, .int .i64 j.due, .int .i64 j.wt, .int .i64 j.rank, .int .i64 j.at_] 54 (0, 0)) := by rw [hW0]; exact (Below.heap_alloc _ _ _ (by simp)).trans (new_at _ _ _ (by simp))
  have R0 : W0.heap[w.heap.size + 2]? = some (.cells #[.int .i64 0, .slice none 0 0] 38 (0, 0)) := by rw [hW0]; exact new_at _ _ _ (by simp)
  have LL : Hid (∀ W, Below w.heap.size w W → LevS W a n cap ls) := fun W hb => h.below hb
  clear h
  have zR := lt_of_block R0
  have HKK : Hid (∀ W, Below W0.heap.size W0 W → (W.cell? ⟨w.heap.size, 0, none⟩ = some (.int .i64 T) ∧ W.cell? ⟨w.heap.size, 1, none⟩ = some (.slice a n cap) ∧ W.cell? ⟨w.heap.size + 1, 1, none⟩ = some (.int .i64 j.cores) ∧ W.cell? ⟨w.heap.size + 1, 2, none⟩ = some (.int .i64 j.long) ∧ Below w.heap.size w W)) := fun W hW => by
    obtain ⟨q0, q1, _, _⟩ := boxed ((hW.block _ (lt_of_block P0)).trans P0)
    have q2 := (hW.block _ (lt_of_block J0)).trans J0
    exact ⟨q0, q1, by simp [World.cell?, q2], by simp [World.cell?, q2], B0.then hW B0.size⟩
  have KB : ∀ {W}, (W.cell? ⟨w.heap.size, 0, none⟩ = some (.int .i64 T) ∧ W.cell? ⟨w.heap.size, 1, none⟩ = some (.slice a n cap) ∧ W.cell? ⟨w.heap.size + 1, 1, none⟩ = some (.int .i64 j.cores) ∧ W.cell? ⟨w.heap.size + 1, 2, none⟩ = some (.int .i64 j.long) ∧ Below w.heap.size w W) → Below w.heap.size w W := fun h => h.2.2.2.2
  have KR : Hid (∀ W, Below W0.heap.size W0 W → W.heap[w.heap.size + 2]? = some (.cells #[.int .i64 0, .slice none 0 0] 38 (0, 0)) ∧ Below w.heap.size w W) := fun W hW => ⟨(hW.block _ zR).trans R0, B0.then hW B0.size⟩
  have HG0 : Hid (Below W0.heap.size W0 W0) := Below.refl _ _
  have HG1 : Hid (Below W0.heap.size W0 W0.drew) := (Below.refl _ _).drew
  obtain ⟨p0, p1, c1, c2, _⟩ := HKK.out _ HG0.out
  clear P0 J0 R0
  go_enter Try.func73, Try.ntmps73
  go_upto_region 1 with fail
  rw [← hW0]
  clear hW0
  go_region_held3 (fun W => W.cell? ⟨w.heap.size, 0, none⟩ = some (.int .i64 T) ∧ W.cell? ⟨w.heap.size, 1, none⟩ = some (.slice a n cap) ∧ W.cell? ⟨w.heap.size + 1, 1, none⟩ = some (.int .i64 j.cores) ∧ W.cell? ⟨w.heap.size + 1, 2, none⟩ = some (.int .i64 j.long) ∧ Below w.heap.size w W) (first | with_reducible exact FIN | (refine HKK.out _ ?_; first | with_reducible exact HG1.out | with_reducible exact HG0.out | with_reducible exact SB9)) (first
    | (go_at_call 39
       refine (implLater_any s j.long _).mono ?_
       rw [Hfl.out]
       rintro e w5 ⟨rfl, rfl⟩)
    | (go_at_call 88
       refine (implReserve_lt T s y j.cores a n cap ls _ (LL.out _ (KB (by assumption))) po hs0 hy1 hy2 (by omega)).mono ?_
       rintro e w9 ⟨T', v, n', c', bb, rfl, hb9, hbb, ht, hf⟩
       have SB9 : Below W0.heap.size W0 w9 := by first | exact HG1.out.then hb9 HG1.out.size | exact HG0.out.then hb9 HG0.out.size
       obtain ⟨R9, V9⟩ := KR.out _ SB9
       obtain ⟨r0, r1, f0, f1⟩ := boxed R9
       obtain ⟨Q0, Q1, Q2, Q3, _⟩ := HKK.out _ SB9
       have E9 := Proofs.Ytcmpenlgkccgkaa.set2 R9 (.int .i64 T') (.slice v n' c')
       have FIN : ((w9.setCell ⟨w.heap.size + 2, 0, none⟩ (.int .i64 T')).setCell ⟨w.heap.size + 2, 1, none⟩ (.slice v n' c')).cell? ⟨w.heap.size, 0, none⟩ = some (.int .i64 T) ∧ ((w9.setCell ⟨w.heap.size + 2, 0, none⟩ (.int .i64 T')).setCell ⟨w.heap.size + 2, 1, none⟩ (.slice v n' c')).cell? ⟨w.heap.size, 1, none⟩ = some (.slice a n cap) ∧ ((w9.setCell ⟨w.heap.size + 2, 0, none⟩ (.int .i64 T')).setCell ⟨w.heap.size + 2, 1, none⟩ (.slice v n' c')).cell? ⟨w.heap.size + 1, 1, none⟩ = some (.int .i64 j.cores) ∧ ((w9.setCell ⟨w.heap.size + 2, 0, none⟩ (.int .i64 T')).setCell ⟨w.heap.size + 2, 1, none⟩ (.slice v n' c')).cell? ⟨w.heap.size + 1, 2, none⟩ = some (.int .i64 j.long) ∧ Below w.heap.size w ((w9.setCell ⟨w.heap.size + 2, 0, none⟩ (.int .i64 T')).setCell ⟨w.heap.size + 2, 1, none⟩ (.slice v n' c')) := ⟨(World.cell?_of_block (a := ⟨w.heap.size, 0, none⟩) (E9.2 w.heap.size (by omega))).trans Q0, (World.cell?_of_block (a := ⟨w.heap.size, 1, none⟩) (E9.2 w.heap.size (by omega))).trans Q1, (World.cell?_of_block (a := ⟨w.heap.size + 1, 1, none⟩) (E9.2 (w.heap.size + 1) (by omega))).trans Q2, (World.cell?_of_block (a := ⟨w.heap.size + 1, 2, none⟩) (E9.2 (w.heap.size + 1) (by omega))).trans Q3, (V9.setCell (by simp) _).setCell (by simp) _⟩
       have HA : Hid _ := And.intro hbb (And.intro ht hf)
       clear hb9 hbb ht hf))
  go_wp2
  refine bodyPost_ret (results_box2 (p := 6) (u := 7) rfl _ _ (w.heap.size + 2) _ _ _ _ rfl E9.1 Try.underlying38 rfl sized26 _ rfl) rfl ?_
  obtain ⟨hbb, ht, hf⟩ := HA.out
  refine ⟨T', v, n', c', bb, rfl, FIN.2.2.2.2, hbb, fun hb => ?_, hf⟩
  obtain ⟨g, h1, h2, h3, h4, h5, h6, h7⟩ := ht hb
  have h4' : W0.heap.size ≤ g := h4
  exact ⟨g, h1, h2, h3, by omega, h5, h6, h7.blk (E9.2 g (by omega))⟩

theorem results_tmp_box {P : Program} {fn : Func} {p u : Tmp} {ty : TypeId} (h : fn.results = #[.tmp u, .cell p ty]) (tmps : Array Value) (w : World) (g : Nat) (t : TypeId) (cs : Array Value) (fr : Nat × Nat) (d : TypeDesc)
    (hp : tmps.getD p undef = .pointer (some ⟨g, 0, none⟩)) (hg : w.heap[g]? = some (.cells cs t fr))
    (hu : P.underlying ty = some d) (hd : (match d with | .struct _ | .array _ _ => true | _ => false) = true) (hi : (P.info? ty).map (·.size) = some cs.size) (v : Value) (hv : tmps.getD u undef = v) :
    (results fn tmps).run P w = .ok (.tuple #[v, .agg cs]) w := by
  have hp' : tmps[p]?.getD undef = .pointer (some ⟨g, 0, none⟩) := by simpa using hp
  have hv' : tmps[u]?.getD undef = v := by simpa using hv
  simp [results, h, hp', hv', asAddr, run_loadVar_row w g t ty cs fr d hg hu hd hi]
theorem job_cells {W : World} {J : Nat} {j : Jb} (h : W.heap[J]? = some (.cells #[.int .i64 j.id, .int .i64 j.cores, .int .i64 j.long, .int .i64 j.due, .int .i64 j.wt, .int .i64 j.rank, .int .i64 j.at_] 54 (0, 0))) :
    W.cell? ⟨J, 0, none⟩ = some (.int .i64 j.id) ∧ W.cell? ⟨J, 1, none⟩ = some (.int .i64 j.cores) ∧ W.cell? ⟨J, 2, none⟩ = some (.int .i64 j.long) ∧ W.cell? ⟨J, 3, none⟩ = some (.int .i64 j.due) ∧ W.cell? ⟨J, 4, none⟩ = some (.int .i64 j.wt) ∧ W.cell? ⟨J, 5, none⟩ = some (.int .i64 j.rank) ∧ W.cell? ⟨J, 6, none⟩ = some (.int .i64 j.at_) := by
  simp [World.cell?, h]
theorem bx_off {W : World} {P R : Nat} {v0 v1 u0 u1 w0 w1 : Value} {ty ty2 : TypeId} (hP : W.heap[P]? = some (.cells #[v0, v1] ty (0, 0))) (hR : W.heap[R]? = some (.cells #[w0, w1] ty2 (0, 0))) (hn : P ≠ R) :
    ((W.setCell ⟨R, 0, none⟩ u0).setCell ⟨R, 1, none⟩ u1).cell? ⟨P, 0, none⟩ = some v0 ∧ ((W.setCell ⟨R, 0, none⟩ u0).setCell ⟨R, 1, none⟩ u1).cell? ⟨P, 1, none⟩ = some v1 ∧
    ((W.setCell ⟨R, 0, none⟩ u0).setCell ⟨R, 1, none⟩ u1).cell? ⟨R, 0, none⟩ = some u0 ∧ ((W.setCell ⟨R, 0, none⟩ u0).setCell ⟨R, 1, none⟩ u1).cell? ⟨R, 1, none⟩ = some u1 := by
  have E := Proofs.Ytcmpenlgkccgkaa.set2 hR u0 u1
  obtain ⟨a0, a1, _, _⟩ := boxed ((E.2 P hn).trans hP)
  obtain ⟨b0, b1, _, _⟩ := boxed E.1
  exact ⟨a0, a1, b0, b1⟩

set_option maxRecDepth 8000 in
set_option maxHeartbeats 4000000 in
theorem placed_any (T now : Int) (a : Option Addr) (n cap : Nat) (ls : List Lev) (j : Jb) (w : World) (h : LevS w a n cap ls) (ok : PlOk T ls now) (hj : jok j = true) :
    Calls Try.prog 81 #[.agg #[.int .i64 T, .slice a n cap], .agg #[.int .i64 j.id, .int .i64 j.cores, .int .i64 j.long, .int .i64 j.due, .int .i64 j.wt, .int .i64 j.rank, .int .i64 j.at_], .int .i64 now] w fun e w' =>
      ∃ (v : Option Addr) (n' c' : Nat), e = .returned (.tuple #[.int .i64 (plT T ls now j), .agg #[.int .i64 T, .slice v n' c']]) ∧ LevS w' v n' c' (plL ls j (plT T ls now j)) ∧ Below w.heap.size w w' ∧ (v = a ∨ ∃ g : Nat, v = some ⟨g, 0, none⟩ ∧ w.heap.size ≤ g) := by
  have po := ok.po
  have hcl := jok_cl hj
  have hlo : okB j.long = true := inB_mk ⟨by omega, by omega⟩
  have hno : okB now = true := inB_mk ⟨ok.n0, ok.n1⟩
  obtain ⟨W0, hW0⟩ : ∃ W0, W0 = ((w.alloc (.cells #[.int .i64 T, .slice a n cap] 38)).alloc (.cells #[.int .i64 j.id, .int .i64 j.cores, .int .i64 j.long, .int .i64 j.due, .int .i64 j.wt, .int .i64 j.rank, .int .i64 j.at_] 54)).alloc (.cells #[.int .i64 0, .slice none 0 0] 38) := ⟨_, rfl⟩
  have B0 : Below w.heap.size w W0 := by rw [hW0]; exact (box_below.alloc (by simp) _).alloc (by simp; omega) _
  have z0 : w.heap.size + 3 ≤ W0.heap.size := by rw [hW0]; simp
  have P0 : W0.heap[w.heap.size]? = some (.cells #[.int .i64 T, .slice a n cap] 38 (0, 0)) := by rw [hW0]; exact (Below.heap_alloc _ _ _ (by simp; omega)).trans ((Below.heap_alloc _ _ _ (by simp)).trans (heap_alloc_new _ _))
  have J0 : W0.heap[w.heap.size + 1]? = some (.cells #[.int .i64 j.id, .int .i64 j.cores, .int .i64 j.long, .int .i64 j.due, .int .i64 j.wt, .int .i64 j.rank, .int .i64 j.at_] 54 (0, 0)) := by rw [hW0]; exact (Below.heap_alloc _ _ _ (by simp)).trans (new_at _ _ _ (by simp))
  have R0 : W0.heap[w.heap.size + 2]? = some (.cells #[.int .i64 0, .slice none 0 0] 38 (0, 0)) := by rw [hW0]; exact new_at _ _ _ (by simp)
  have LL : Hid (∀ W, Below w.heap.size w W → LevS W a n cap ls) := fun W hb => h.below hb
  clear h
  have q2 : W0.cell? ⟨w.heap.size + 1, 1, none⟩ = some (.int .i64 j.cores) := by simp [World.cell?, J0]
  have q3 : W0.cell? ⟨w.heap.size + 1, 2, none⟩ = some (.int .i64 j.long) := by simp [World.cell?, J0]
  obtain ⟨q0, q1, _, _⟩ := boxed P0
  obtain ⟨s, hs⟩ : ∃ s, s = plT T ls now j := ⟨_, rfl⟩
  rw [← hs]
  have HS : Hid (s = plT T ls now j) := hs
  clear hs
  go_enter Try.func81, Try.ntmps81
  go_wp2_with fail
  rw [← hW0]
  clear hW0
  refine (implFit_any T now j.long j.cores a n cap ls _ (LL.out _ B0)).mono ?_
  rintro e wr ⟨rfl, hb1⟩
  clear q0 q1 q2 q3
  have C1 : Below w.heap.size w wr := B0.then hb1 B0.size
  have P1 : Hid _ := (hb1.block _ (lt_of_block P0)).trans P0
  have J1 : Hid _ := (hb1.block _ (lt_of_block J0)).trans J0
  have R1 : Hid _ := (hb1.block _ (lt_of_block R0)).trans R0
  clear P0 R0 J0
  obtain ⟨f, hf⟩ : ∃ f, f = fitF T ls now j.long j.cores := ⟨_, rfl⟩
  rw [← hf]
  have HF : Hid (f = fitF T ls now j.long j.cores) := hf
  clear hf
  have HNB : inB f 0 999999999 = false → s = f ∧ ¬ (0 ≤ s ∧ s < 1000000000) := fun hb => by
    have hb' := inB_f hb
    rcases plT_cases ok j with ⟨h1, e⟩ | ⟨h1, e, h2, _⟩ | ⟨h1, e, h2⟩
    · have : f = -1 := HF.out.trans (fitF_f (by rw [poB_mk po, hno, hlo, inB_no (by omega)]; rfl))
      have := HS.out; omega
    · have hbd := po.fit_bd (long := j.long) (n := j.cores) ok.n0 ok.n1
      have : f = fitI ls now j.long j.cores := HF.out.trans (fitF_t (by rw [poB_mk po, hno, hlo, inB_mk ⟨by omega, h1⟩]; rfl))
      have := ok.n0; omega
    · have hbd := po.fit_bd (long := j.long) (n := j.cores) ok.n0 ok.n1
      have : f = fitI ls now j.long j.cores := HF.out.trans (fitF_t (by rw [poB_mk po, hno, hlo, inB_mk ⟨by omega, h1⟩]; rfl))
      have h3 := ok.n0
      have := HS.out
      rcases h2 with h2 | h2 <;> omega
  have HNBh : Hid _ := HNB
  clear HNB
  rcases hb : inB f 0 999999999 with _ | _
  · have hB := HNBh.out hb
    have Hsf : Hid (s = f) := hB.1
    have HpL : Hid (plL ls j s = ls) := by unfold Hid plL; rw [if_neg hB.2]
    clear hB
    obtain ⟨p0, p1, _, _⟩ := boxed P1.out
    obtain ⟨r0, r1, g0, g1⟩ := boxed R1.out
    have S0 : wr.cell? ⟨w.heap.size, 0, none⟩ = some (.int .i64 T) ∧ wr.cell? ⟨w.heap.size, 1, none⟩ = some (.slice a n cap) := ⟨p0, p1⟩
    have S0d : wr.drew.cell? ⟨w.heap.size, 0, none⟩ = some (.int .i64 T) ∧ wr.drew.cell? ⟨w.heap.size, 1, none⟩ = some (.slice a n cap) := ⟨p0, p1⟩
    have F0 := bx_off (u0 := .int .i64 T) (u1 := .slice a n cap) P1.out R1.out (by omega)
    have F1 := bx_off (W := wr.drew) (u0 := .int .i64 T) (u1 := .slice a n cap) P1.out R1.out (by omega)
    have HF0 : Hid _ := F0
    have HF1 : Hid _ := F1
    clear F0 F1
    have zR := C1.size
    go_wp2_with fail
    refine (begins_any f _).mono ?_
    rw [hb]
    rintro e w5 ⟨rfl, hq⟩; have hq' := hq.symm; clear hq; subst hq'
    go_upto_region 3 with fail
    go_region_held3 (fun W => W.cell? ⟨w.heap.size, 0, none⟩ = some (.int .i64 T) ∧ W.cell? ⟨w.heap.size, 1, none⟩ = some (.slice a n cap)) (first | with_reducible exact S0 | with_reducible exact S0d | exact ⟨HF0.out.1, HF0.out.2.1⟩ | exact ⟨HF1.out.1, HF1.out.2.1⟩) (fail)
    go_wp2
    have E := Proofs.Ytcmpenlgkccgkaa.set2 (W := wr) R1.out (.int .i64 T) (.slice a n cap)
    refine bodyPost_ret (results_tmp_box (u := 6) (p := 7) rfl _ _ (w.heap.size + 2) _ #[.int .i64 T, .slice a n cap] _ _ rfl (by exact E.1) Try.underlying38 rfl sized26 _ rfl) rfl ?_
    have BF := ((C1.setCell (p := ⟨w.heap.size + 1 + 1, 0, none⟩) (show w.heap.size ≤ w.heap.size + 1 + 1 by omega) (.int .i64 T)).setCell (p := ⟨w.heap.size + 1 + 1, 1, none⟩) (show w.heap.size ≤ w.heap.size + 1 + 1 by omega) (.slice a n cap)).drew
    exact ⟨a, n, cap, by rw [Hsf.out]; rfl, by rw [HpL.out]; exact LL.out _ BF, BF, Or.inl rfl⟩
  · obtain ⟨b0, b1⟩ := inB_t hb
    have hc : j.cores ≤ T := by
      by_cases c : j.cores ≤ T
      · exact c
      · have : f = -1 := HF.out.trans (fitF_f (by rw [poB_mk po, hno, hlo, inB_no (by omega)]; rfl))
        omega
    have hfi : Hid (f = fitI ls now j.long j.cores) := HF.out.trans (fitF_t (by rw [poB_mk po, hno, hlo, inB_mk ⟨by omega, hc⟩]; rfl))
    have hf1 : f < 1000000000 := by omega
    have hy := later_gt hf1 hcl.2.2.1
    have hch : Hid (chgL ls f (laterI f j.long) (-j.cores) = cutL ls f (laterI f j.long) (-j.cores)) := if_neg (by omega)
    clear hy HNBh
    obtain ⟨p0, p1, _, _⟩ := boxed P1.out
    obtain ⟨j0, j1, j2, j3, j4, j5, j6⟩ := job_cells J1.out
    go_wp2_with fail
    refine (begins_any f _).mono ?_
    rw [hb]
    rintro e w5 ⟨rfl, hq⟩; have hq' := hq.symm; clear hq; subst hq'
    go_wp2_with fail
    refine (reservedFor_any T f a n cap ls j _ (LL.out _ C1) po hj b0 hf1).mono ?_
    rintro e w7 ⟨T', v, n', c', bb, rfl, hb7, hbb, ht, hf⟩
    clear p0 p1 j0 j1 j2 j3 j4 j5 j6
    have C7 := C1.then hb7 C1.size
    have P7 : Hid _ := (hb7.block _ (lt_of_block P1.out)).trans P1.out
    have R7 : Hid _ := (hb7.block _ (lt_of_block R1.out)).trans R1.out
    have zw := hb7.size
    have zR := lt_of_block R7.out
    cases bb with
    | false =>
      obtain ⟨rfl, rfl, rfl, rfl⟩ := hf rfl
      have hS : Hid (s = 1000000000) := HS.out.trans (by unfold plT; rw [if_neg (by omega), ← hfi.out, if_neg (fun h9 => by rw [hch.out, ← hbb] at h9; cases h9.2)])
      have HpL : Hid (plL ls j s = ls) := by unfold Hid plL; rw [hS.out, if_neg (by omega)]
      clear hf ht hbb
      obtain ⟨W8, hW8⟩ : ∃ W8, W8 = w7.alloc (.cells #[.int .i64 0, .slice none 0 0] 38) := ⟨_, rfl⟩
      have P8 : Hid (W8.heap[w.heap.size]? = some (.cells #[.int .i64 T, .slice a n cap] 38 (0, 0))) := by unfold Hid; rw [hW8]; exact (Below.heap_alloc _ _ _ (by omega)).trans P7.out
      have R8 : Hid (W8.heap[w.heap.size + 2]? = some (.cells #[.int .i64 0, .slice none 0 0] 38 (0, 0))) := by unfold Hid; rw [hW8]; exact (Below.heap_alloc _ _ _ (by omega)).trans R7.out
      have C8 : Below w.heap.size w W8 := by rw [hW8]; exact C7.alloc (by omega) _
      go_upto_region 6 with fail
      try rw [← hW8]
      clear hW8
      obtain ⟨p0, p1, _, _⟩ := boxed P8.out
      obtain ⟨r0, r1, g0, g1⟩ := boxed R8.out
      have S0 : W8.cell? ⟨w.heap.size, 0, none⟩ = some (.int .i64 T) ∧ W8.cell? ⟨w.heap.size, 1, none⟩ = some (.slice a n cap) := ⟨p0, p1⟩
      have S0d : W8.drew.cell? ⟨w.heap.size, 0, none⟩ = some (.int .i64 T) ∧ W8.drew.cell? ⟨w.heap.size, 1, none⟩ = some (.slice a n cap) := ⟨p0, p1⟩
      have HF0 : Hid _ := bx_off (u0 := .int .i64 T) (u1 := .slice a n cap) P8.out R8.out (by omega)
      have HF1 : Hid _ := bx_off (W := W8.drew) (u0 := .int .i64 T) (u1 := .slice a n cap) P8.out R8.out (by omega)
      go_region_held3 (fun W => W.cell? ⟨w.heap.size, 0, none⟩ = some (.int .i64 T) ∧ W.cell? ⟨w.heap.size, 1, none⟩ = some (.slice a n cap)) (first | with_reducible exact S0 | with_reducible exact S0d | exact ⟨HF0.out.1, HF0.out.2.1⟩ | exact ⟨HF1.out.1, HF1.out.2.1⟩) (fail)
      go_wp2
      have E := Proofs.Ytcmpenlgkccgkaa.set2 (W := W8) R8.out (.int .i64 T) (.slice a n cap)
      refine bodyPost_ret (results_tmp_box (u := 6) (p := 7) rfl _ _ (w.heap.size + 2) _ #[.int .i64 T, .slice a n cap] _ _ rfl (by exact E.1) Try.underlying38 rfl sized26 _ rfl) rfl ?_
      have BF := ((C8.setCell (p := ⟨w.heap.size + 1 + 1, 0, none⟩) (show w.heap.size ≤ w.heap.size + 1 + 1 by omega) (.int .i64 T)).setCell (p := ⟨w.heap.size + 1 + 1, 1, none⟩) (show w.heap.size ≤ w.heap.size + 1 + 1 by omega) (.slice a n cap)).drew
      exact ⟨a, n, cap, by rw [hS.out]; rfl, by rw [HpL.out]; exact LL.out _ BF, BF, Or.inl rfl⟩
    | true =>
      obtain ⟨g, rfl, rfl, rfl, hg, hgc, hgm, hld⟩ := ht rfl
      have hP2 := poB_t hbb.symm
      have hS : Hid (s = f) := HS.out.trans (by unfold plT; rw [if_neg (by omega), ← hfi.out, if_pos ⟨hf1, by rw [hch.out]; exact hbb.symm⟩])
      have HpL : Hid (plL ls j s = cutL ls f (laterI f j.long) (-j.cores)) := by unfold Hid plL; rw [hS.out, if_pos ⟨b0, hf1⟩, hch.out]
      clear hf ht hbb
      obtain ⟨L, hL⟩ : ∃ L, L = cutL ls f (laterI f j.long) (-j.cores) := ⟨_, rfl⟩
      rw [← hL] at hgc hld HpL hP2 ⊢
      clear hL
      obtain ⟨W8, hW8⟩ : ∃ W8, W8 = w7.alloc (.cells #[.int .i64 T', .slice (some ⟨g, 0, none⟩) L.length c'] 38) := ⟨_, rfl⟩
      have P8 : Hid (W8.heap[w7.heap.size]? = some (.cells #[.int .i64 T', .slice (some ⟨g, 0, none⟩) L.length c'] 38 (0, 0))) := by unfold Hid; rw [hW8]; exact heap_alloc_new _ _
      have R8 : Hid (W8.heap[w.heap.size + 2]? = some (.cells #[.int .i64 0, .slice none 0 0] 38 (0, 0))) := by unfold Hid; rw [hW8]; exact (Below.heap_alloc _ _ _ (by omega)).trans R7.out
      have C8 : Below w.heap.size w W8 := by rw [hW8]; exact C7.alloc (by omega) _
      have L8 : LevD W8 g L.length c' L := by rw [hW8]; exact hld.below box_below
      go_upto_region 7 with fail
      try rw [← hW8]
      clear hW8
      obtain ⟨p0, p1, _, _⟩ := boxed P8.out
      obtain ⟨r0, r1, g0, g1⟩ := boxed R8.out
      have S0 : W8.cell? ⟨w7.heap.size, 0, none⟩ = some (.int .i64 T') ∧ W8.cell? ⟨w7.heap.size, 1, none⟩ = some (.slice (some ⟨g, 0, none⟩) L.length c') := ⟨p0, p1⟩
      have S0d : W8.drew.cell? ⟨w7.heap.size, 0, none⟩ = some (.int .i64 T') ∧ W8.drew.cell? ⟨w7.heap.size, 1, none⟩ = some (.slice (some ⟨g, 0, none⟩) L.length c') := ⟨p0, p1⟩
      have HF0 : Hid _ := bx_off (u0 := .int .i64 T') (u1 := .slice (some ⟨g, 0, none⟩) L.length c') P8.out R8.out (by omega)
      have HF1 : Hid _ := bx_off (W := W8.drew) (u0 := .int .i64 T') (u1 := .slice (some ⟨g, 0, none⟩) L.length c') P8.out R8.out (by omega)
      go_region_held3 (fun W => W.cell? ⟨w7.heap.size, 0, none⟩ = some (.int .i64 T') ∧ W.cell? ⟨w7.heap.size, 1, none⟩ = some (.slice (some ⟨g, 0, none⟩) L.length c')) (first | with_reducible exact S0 | with_reducible exact S0d | exact ⟨HF0.out.1, HF0.out.2.1⟩ | exact ⟨HF1.out.1, HF1.out.2.1⟩) (fail)
      go_wp2
      have E := Proofs.Ytcmpenlgkccgkaa.set2 (W := W8) R8.out (.int .i64 T') (.slice (some ⟨g, 0, none⟩) L.length c')
      refine bodyPost_ret (results_tmp_box (u := 6) (p := 7) rfl _ _ (w.heap.size + 2) _ #[.int .i64 T', .slice (some ⟨g, 0, none⟩) L.length c'] _ _ rfl (by exact E.1) Try.underlying38 rfl sized26 _ rfl) rfl ?_
      have BF := ((C8.setCell (p := ⟨w.heap.size + 1 + 1, 0, none⟩) (show w.heap.size ≤ w.heap.size + 1 + 1 by omega) (.int .i64 T')).setCell (p := ⟨w.heap.size + 1 + 1, 1, none⟩) (show w.heap.size ≤ w.heap.size + 1 + 1 by omega) (.slice (some ⟨g, 0, none⟩) L.length c')).drew
      have hgz : wr.heap.size ≤ g := hg
      have zw1 := C1.size
      have LF : LevS (((W8.setCell ⟨w.heap.size + 1 + 1, 0, none⟩ (.int .i64 T')).setCell ⟨w.heap.size + 1 + 1, 1, none⟩ (.slice (some ⟨g, 0, none⟩) L.length c')).drew) (some ⟨g, 0, none⟩) L.length c' L := ((L8.blk (E.2 g (by have := lt_of_block R1.out; omega))).below (Below.refl _ _).drew).toS rfl hgc hgm (wf_of_bd fun i hi => by have := hP2.el i hi; have := hP2.pos hi; have := hP2.t1; omega)
      exact ⟨_, _, _, by rw [hS.out]; rfl, by rw [HpL.out]; exact LF, BF, Or.inr ⟨g, rfl, by omega⟩⟩

end Go.Proofs.Ytcmpenlgkccgkaa
