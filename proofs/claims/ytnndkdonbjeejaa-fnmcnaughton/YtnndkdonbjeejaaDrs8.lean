/- Several texts in one. -/
import Derived.Test.YtnndkdonbjeejaaPieceSet
import Derived.Test.YtnndkdonbjeejaaPieceS
import Derived.Test.YtnndkdonbjeejaaL6D
import Derived.Deep.RegionHeld3
/- Pieces drawn. What is drawn is not reckoned, only that pieces come, each number of which fits. -/
namespace Go.Proofs.Ytnndkdonbjeejaa
open Go.RowKit Go.Sort

theorem PieceS.drop1 {w : World} {g n cap : Nat} {ys : List Pc} (h : PieceS w (some ⟨g, 0, none⟩) n cap ys) (hn : 0 < n) : PieceS w (if cap = 1 then some ⟨g, 0, none⟩ else some ⟨g, 4, none⟩) (n - 1) (cap - 1) (ys.drop 1) := by
  have hl := h.len
  have hle := h.le
  have hm := h.mx
  have e : ∀ i, pcg (ys.drop 1) i = pcg ys (i + 1) := fun i => by simp [pcg]
  refine ⟨by simp; omega, by omega, by unfold maxLen at *; omega, ?_, fun i hi => by rw [e]; exact h.wf (i + 1) (by omega), fun h0 => ?_⟩
  · split <;> (intro h9; cases h9)
  · obtain ⟨b, off, ha, hb, hat⟩ := h.at_ hn
    obtain ⟨rfl, rfl⟩ : g = b ∧ 0 = off := by simpa using ha
    refine ⟨g, 4, by rw [if_neg (by omega)], hb, fun i hi c hc => ?_⟩
    have hi' : i + 1 < ys.length := by simp at hi; omega
    have := hat (i + 1) hi' c hc
    rw [e]
    rwa [show 0 + (i + 1) * 4 + c = 4 + i * 4 + c by omega] at this

/-- the numbers of McNaughton's pieces are small -/
theorem pcsF_small {ls : List Jb} {m : Int} : ∀ p ∈ pcsF ls m, 0 ≤ p.job ∧ p.job ≤ 1000000 ∧ 0 ≤ p.mac ∧ p.mac ≤ 10 ∧ 0 ≤ p.fr ∧ p.fr ≤ 400000 ∧ 0 ≤ p.up ∧ p.up ≤ 400000 := by
  intro p hp
  rcases hq : shB ls m with _ | _
  · rw [pcsF_f hq] at hp; cases hp
  · have B := bnd_f hq
    have ok := pcsF_ok hq
    have h1 := ok.one p hp
    obtain ⟨j, hj, e⟩ := h1.job
    obtain ⟨i, hi, rfl⟩ := List.getElem_of_mem hj
    have hok := (ok.jobs.ok i hi).1
    have hid : 1 ≤ (jg ls i).id ∧ (jg ls i).id ≤ 1000000 := by
      unfold jok jobB inB at hok
      simp only [Bool.and_eq_true, decide_eq_true_eq] at hok
      omega
    rw [jg_get hi] at hid
    have := h1.m0; have := h1.m1; have := h1.f0; have := h1.lt; have := ok.m1
    rw [pcsF_t hq] at hp
    have hne : ls ≠ [] := fun h9 => by subst h9; cases hj
    have ht := B.pos hne
    obtain ⟨_, hin⟩ := pcsV_in (by omega) _ 0 (Int.le_refl _) B.each p hp
    have h2 := hin.f2
    have := B.le; have := B.sum
    omega
theorem pcsF_wf (ls : List Jb) (m : Int) : allWfPiece (pcsF ls m) := fun p hp c hc => by
  have := pcsF_small p hp
  obtain rfl | rfl | rfl | rfl : c = 0 ∨ c = 1 ∨ c = 2 ∨ c = 3 := by omega
  all_goals (simp only [pcc]; omega)
theorem pcsF_len (ls : List Jb) (m : Int) : (pcsF ls m).length ≤ 80 := by
  rcases hq : shB ls m with _ | _
  · rw [pcsF_f hq]; simp
  · rw [pcsF_t hq]
    have := pcsV_len (bndV ls m) (jp ls) 0
    rw [jp_len] at this
    have := (shB_t hq).1.n
    omega

set_option maxHeartbeats 1000000 in
theorem likePieces_same (a a' : Option Addr) (n cap cap' : Nat) (ls : List Pc) (w : World) (h : PieceS w a n cap ls) (h' : PieceS w a' n cap' ls) :
    Calls Try.prog 13 #[.slice a n cap, .slice a' n cap'] w fun e w' => e = .returned (.bool true) ∧ Below w.heap.size w w' := by
  have hm := h.mx
  have hle := h.le
  unfold maxLen at hm
  go_enter Try.func13, Try.ntmps13
  go_wp2
  go_loopw [5] (fun i wr => ∃ k : Nat, k ≤ n ∧ i = .int .i64 k ∧ Below w.heap.size w wr) (fun i _ => n - (intOf i).toNat)
  case atStart => exact ⟨0, by omega, rfl, Below.refl _ _⟩
  case round =>
    obtain ⟨k, hk, rfl, hw⟩ := hrel
    by_cases hlt : k < n
    · obtain ⟨b, off, rfl, hbw, hat⟩ := h.at_ (by omega)
      obtain ⟨b', off', rfl, hbw', hat'⟩ := h'.at_ (by omega)
      obtain ⟨c0, c1, c2, c3⟩ := (hat.below hw hbw).row (i := k) (by rw [h.len]; exact hlt)
      obtain ⟨d0, d1, d2, d3⟩ := (hat'.below hw hbw').row (i := k) (by rw [h.len]; exact hlt)
      have hlt' : (k : Int) < (n : Int) := by omega
      go_wp2
      go_quiet (fail)
      go_wp2
      go_roundw
      case rel => exact ⟨k + 1, by omega, by go_num, hw.drewN _⟩
      case measure => simp [intOf]; omega
    · have e : k = n := by omega
      subst e
      go_wp2
      go_ret
      exact ⟨rfl, hw⟩

theorem row_atd {w w2 : World} {cb k : Nat} {L : Array Value} {v : Value} (hb : But cb (w.alloc (.cells L 2)).drew w2) (hc : cb < w.heap.size) (hv : L[k]? = some v) : w2.cell? ⟨w.heap.size, k, none⟩ = some v :=
  row_at (w := w) (w2 := w2) (cb := cb) ⟨hb.os, hb.tape, hb.output, hb.size, hb.block⟩ hc hv

end Go.Proofs.Ytnndkdonbjeejaa

/- The draws of chapter 8. -/
namespace Go.Proofs.Ytnndkdonbjeejaa
open Go.RowKit Go.Sort

/-- jobs and pieces drawn, the cursor beside them -/
structure Dr8 (w0 w : World) (cb gl cl gp cp : Nat) (ls : List Jb) (ps : List Pc) (a : Option Addr) (n cap : Nat) (zs : List Int) : Prop where
  oj : OwnJ w w0.heap.size gl cl ls
  op : OwnPiece w w0.heap.size gp cp ps
  cur : CurAt w cb a n cap zs
  but : But cb w0 w
  c0 : cb < w0.heap.size
  ne : gl ≠ gp
theorem OwnJ.keepB {w w' : World} {base g cap : Nat} {ys : List Jb} (h : OwnJ w base g cap ys) (hb : w'.heap[g]? = w.heap[g]?) : OwnJ w' base g cap ys := h.blk hb
theorem Dr8.step {w0 w w' : World} {cb gl cl gp cp : Nat} {ls : List Jb} {ps : List Pc} {a : Option Addr} {n cap : Nat} {zs : List Int} (h : Dr8 w0 w cb gl cl gp cp ls ps a n cap zs) (hc : CurAt w' cb a n cap zs) (hb : But cb w w') : Dr8 w0 w' cb gl cl gp cp ls ps a n cap zs := by
  have := h.c0; have := h.oj.base; have := h.op.base
  exact ⟨h.oj.blk (hb.block gl h.oj.lt (by omega)), h.op.blk (hb.block gp h.op.lt (by omega)), hc, h.but.trans hb, h.c0, h.ne⟩
theorem Dr8.below {w0 w w' : World} {cb gl cl gp cp : Nat} {ls : List Jb} {ps : List Pc} {a : Option Addr} {n cap : Nat} {zs : List Int} (h : Dr8 w0 w cb gl cl gp cp ls ps a n cap zs) (hb : Below w.heap.size w w') : Dr8 w0 w' cb gl cl gp cp ls ps a n cap zs :=
  h.step (h.cur.but hb h.cur.lt) (But.of hb)
theorem Dr8.store {w0 w : World} {cb gl cl gp cp : Nat} {ls : List Jb} {ps : List Pc} {a : Option Addr} {n cap : Nat} {zs : List Int} (h : Dr8 w0 w cb gl cl gp cp ls ps a n cap zs) {i f : Nat} (hi : i < ps.length) (hf : f < 4) (z : Int) :
    Dr8 w0 (w.setCell ⟨gp, i * 4 + f, none⟩ (.int .i64 z)) cb gl cl gp cp ls (ps.set i (pcset (pcg ps i) f z)) a n cap zs := by
  have h1 := h.c0; have h2 := h.oj.base; have h3 := h.op.base
  exact ⟨h.oj.blk (Below.heap_setCell _ _ _ _ h.ne), h.op.store hi hf z, h.cur.setNew (by omega) _, h.but.setNew h3 _, h.c0, h.ne⟩
theorem new_at (w : World) {k : Nat} {L : Array Value} {v : Value} (hv : L[k]? = some v) : (w.alloc (.cells L 2)).cell? ⟨w.heap.size, k, none⟩ = some v := by
  unfold World.cell?; rw [heap_alloc_new]; exact hv
/-- none ends below 0 -/
def UpOk (ps : List Pc) : Prop := ∀ p ∈ ps, 0 ≤ p.up
theorem UpOk.set {ys : List Pc} (h : UpOk ys) {i f : Nat} (hi : i < ys.length) {z : Int} (hz : f < 3 ∨ 0 ≤ z) : UpOk (ys.set i (pcset (pcg ys i) f z)) := by
  intro y hy
  rcases List.mem_or_eq_of_mem_set hy with h2 | rfl
  · exact h y h2
  · have := h (pcg ys i) (by rw [pcg_get hi]; exact List.getElem_mem hi)
    obtain rfl | rfl | rfl | hf : f = 0 ∨ f = 1 ∨ f = 2 ∨ 3 ≤ f := by omega
    · exact this
    · exact this
    · exact this
    · obtain ⟨g, rfl⟩ : ∃ g, f = g + 3 := ⟨f - 3, by omega⟩
      rcases hz with hz | hz
      · omega
      · exact hz
def PieceU (w : World) (a : Option Addr) (n cap : Nat) (ps : List Pc) : Prop := PieceS w a n cap ps ∧ UpOk ps
/-- what the call tells -/
theorem Dr8.fin {w0 w : World} {cb gl cl gp cp N : Nat} {ls : List Jb} {ps : List Pc} {a : Option Addr} {n cap : Nat} {zs : List Int} (h : Dr8 w0 w cb gl cl gp cp ls ps a n cap zs) (hA : allSmall ls) (hW : allWfPiece ps) (hU : UpOk ps) (hN : ps.length = N) :
    JobS w (some ⟨gl, 0, none⟩) ls.length cl ls ∧ PieceU w (some ⟨gp, 0, none⟩) N cp ps ∧ CurAt w cb a n cap zs ∧ But cb w0 w :=
  ⟨h.oj.toS (fun i hi => (hA _ (by rw [jg_get hi]; exact List.getElem_mem hi)).wf), ⟨by have := h.op.toS hW.wf; rwa [hN] at this, hU⟩, h.cur, h.but⟩

def tabF (fr up : Int) : Array Value := #[.int .i64 (-1), .int .i64 0, .int .i64 (fr + 1), .int .i64 up, .int .i64 (-9223372036854775808)]
theorem tabF_at (fr up : Int) (h0 : 0 ≤ fr) (h1 : fr ≤ 400000) (h2 : 0 ≤ up) (h3 : up ≤ 400000) : ∀ k, k < 5 → ∃ v : Int, (tabF fr up)[k]? = some (.int .i64 v) ∧ -9223372036854775808 ≤ v ∧ v ≤ 9223372036854775807
  | 0, _ => ⟨_, rfl, by omega, by omega⟩
  | 1, _ => ⟨_, rfl, by omega, by omega⟩
  | 2, _ => ⟨_, rfl, by omega, by omega⟩
  | 3, _ => ⟨_, rfl, by omega, by omega⟩
  | 4, _ => ⟨_, rfl, by omega, by omega⟩
  | k + 5, h => by omega

def tabU (fr up : Int) : Array Value := #[.int .i64 (up + 1), .int .i64 0, .int .i64 4611686018427387904, .int .i64 fr]
theorem tabU_at (fr up : Int) (h0 : 0 ≤ fr) (h1 : fr ≤ 400000) (h2 : 0 ≤ up) (h3 : up ≤ 400000) : ∀ k, k < 4 → ∃ v : Int, (tabU fr up)[k]? = some (.int .i64 v) ∧ 0 ≤ v ∧ v ≤ 9223372036854775807
  | 0, _ => ⟨_, rfl, by omega, by omega⟩
  | 1, _ => ⟨_, rfl, by omega, by omega⟩
  | 2, _ => ⟨_, rfl, by omega, by omega⟩
  | 3, _ => ⟨_, rfl, by omega, by omega⟩
  | k + 4, h => by omega

set_option maxRecDepth 8000 in
set_option maxHeartbeats 4000000 in
theorem l8Draw_any (cb : Nat) (a : Option Addr) (n cap : Nat) (zs : List Int) (w : World) (h : CurAt w cb a n cap zs) :
    Calls Try.prog 35 #[.pointer (some ⟨cb, 0, none⟩)] w fun e w' => ∃ (gl cl : Nat) (ls : List Jb) (x : Int) (vp : Option Addr) (np cp : Nat) (ps : List Pc), e = .returned (.tuple #[.slice (some ⟨gl, 0, none⟩) ls.length cl, .int .i64 x, .slice vp np cp]) ∧ ls.length ≤ 40 ∧ np ≤ 80 ∧ -1 ≤ x ∧ x ≤ 11 ∧ (∀ b off, vp = some ⟨b, off, none⟩ → cb < b) ∧ JobS w' (some ⟨gl, 0, none⟩) ls.length cl ls ∧ PieceU w' vp np cp ps ∧ CurAt w' cb a n cap zs ∧ But cb w w' := by
  have hcb := h.lt
  go_enter Try.func35, Try.ntmps35
  go_wp2_with fail
  refine (drawMachines_any cb a n cap zs _ h).mono ?_
  rintro e w1 ⟨x, rfl, x0, x1, c1, b1⟩
  go_wp2_with fail
  refine (l3DrawAny_any cb a n cap zs 5 _ c1 (by omega) (by omega)).mono ?_
  rintro e w2 ⟨gl, cl, ls, rfl, O2, hl40, hA, c2, b2⟩
  have J2 : JobS w2 (some ⟨gl, 0, none⟩) ls.length cl ls := O2.toS (fun i hi => (hA _ (by rw [jg_get hi]; exact List.getElem_mem hi)).wf)
  go_wp2_with fail
  refine (specPieces_any _ ls.length cl ls x _ J2).mono ?_
  rintro e w3 ⟨gp, cp, ps, rfl, O3, hps, hb3⟩
  have z1 := b1.size
  have z2 := b2.size
  have hl2 := O2.lt
  have hp3 := O3.base
  have D3 : Dr8 w w3 cb gl cl gp cp ls ps a n cap zs :=
    ⟨(O2.below hb3).low (by omega), O3.low (by omega), c2.but hb3 c2.lt, (b1.trans b2).trans (But.of hb3), hcb, by omega⟩
  have hWf : allWfPiece ps := by rw [hps]; exact pcsF_wf ls x
  have hSm : Hid (∀ i, i < ps.length → 0 ≤ (pcg ps i).fr ∧ (pcg ps i).fr ≤ 400000 ∧ 0 ≤ (pcg ps i).up ∧ (pcg ps i).up ≤ 400000) := fun i hi => by
    have := pcsF_small (pcg ps i) (by rw [← hps, pcg_get hi]; exact List.getElem_mem hi)
    omega
  have HUp : Hid (UpOk ps) := fun p hp => by rw [hps] at hp; exact (pcsF_small p hp).2.2.2.2.2.2.1
  have hp80 : ps.length ≤ 80 := by rw [hps]; exact pcsF_len ls x
  clear hps O2 O3 J2 c1 c2 b1 b2 hb3 z1 z2 hl2 hp3
  have hgp : cb < gp := by have := D3.op.base; omega
  have HGB : ∀ b off, (some ⟨gp, 0, none⟩ : Option Addr) = some ⟨b, off, none⟩ → cb < b := fun b off e => by cases e; exact hgp
  have HGB4 : ∀ b off, (some ⟨gp, 4, none⟩ : Option Addr) = some ⟨b, off, none⟩ → cb < b := fun b off e => by cases e; exact hgp
  clear hgp
  have HWf : Hid (allWfPiece ps) := hWf
  have HAl : Hid (allSmall ls) := hA
  clear hWf hA
  go_wp2_with fail
  refine (l1Once_any cb a n cap zs 3 _ D3.cur (by omega) (by omega)).mono ?_
  rintro e w4 ⟨b, rfl, c4, b4⟩
  have D4 := D3.step c4 b4
  clear D3 c4 b4
  cases b with
  | false =>
    have HF : Hid _ := D4.fin HAl.out HWf.out HUp.out rfl
    clear D4
    go_wp2
    exact bodyPost_ret (v := .tuple #[.slice (some ⟨gl, 0, none⟩) ls.length cl, .int .i64 x, .slice (some ⟨gp, 0, none⟩) ps.length cp]) (by simp [results, Try.results35, go_sem]) rfl ⟨gl, cl, ls, x, _, _, cp, ps, rfl, hl40, hp80, x0, x1, HGB, HF.out.1, HF.out.2.1, HF.out.2.2.1, HF.out.2.2.2⟩
  | true =>
    by_cases hl : 0 < ps.length
    · have hl' : (0 : Int) < (ps.length : Int) := by omega
      go_wp2_with fail
      refine (l1Below_any cb a n cap zs (ps.length : Int) _ D4.cur (by omega) (by omega)).mono ?_
      rintro e w5 ⟨xi, rfl, xi0, xi1, c5, b5⟩
      obtain ⟨i, rfl⟩ := Int.eq_ofNat_of_zero_le xi0
      have hi : i < ps.length := by omega
      have D5 := D4.step c5 b5
      clear D4 c5 b5
      go_wp2_with fail
      refine (l1Below_any cb a n cap zs 5 _ D5.cur (by omega) (by omega)).mono ?_
      rintro e w6 ⟨xk, rfl, xk0, xk1, c6, b6⟩
      obtain ⟨k, rfl⟩ := Int.eq_ofNat_of_zero_le xk0
      have D6 := D5.step c6 b6
      clear D5 c6 b6
      obtain rfl | rfl | rfl | rfl | rfl : k = 0 ∨ k = 1 ∨ k = 2 ∨ k = 3 ∨ k = 4 := by omega
      · go_wp2_with fail
        refine (l1Below_any cb a n cap zs 7 _ D6.cur (by omega) (by omega)).mono ?_
        rintro e w7 ⟨z, rfl, zz0, zz1, c7, b7⟩
        have D7 := D6.step c7 b7
        obtain ⟨s0, s1⟩ := D7.op.cell (i := i) (f := 0) hi (by omega)
        have HF : Hid _ := (D7.store (i := i) (f := 0) hi (by omega) z).fin HAl.out (HWf.out.set hi (by omega) (by omega) (by omega)) (HUp.out.set hi (Or.inl (by omega))) (List.length_set ..)
        clear D6 D7 c7 b7
        try simp only [Nat.add_zero] at s0 s1 HF
        go_wp2
        exact bodyPost_ret (v := .tuple #[.slice (some ⟨gl, 0, none⟩) ls.length cl, .int .i64 x, .slice (some ⟨gp, 0, none⟩) ps.length cp]) (by simp [results, Try.results35, go_sem]) rfl ⟨gl, cl, ls, x, _, _, cp, _, rfl, hl40, hp80, x0, x1, HGB, HF.out.1, HF.out.2.1, HF.out.2.2.1, HF.out.2.2.2⟩
      · go_wp2_with fail
        refine (l1From6_any cb a n cap zs (-1) 6 _ D6.cur (by omega) (by omega) (by omega)).mono ?_
        rintro e w7 ⟨z, rfl, zz0, zz1, c7, b7⟩
        have D7 := D6.step c7 b7
        obtain ⟨s0, s1⟩ := D7.op.cell (i := i) (f := 1) hi (by omega)
        have HF : Hid _ := (D7.store (i := i) (f := 1) hi (by omega) z).fin HAl.out (HWf.out.set hi (by omega) (by omega) (by omega)) (HUp.out.set hi (Or.inl (by omega))) (List.length_set ..)
        clear D6 D7 c7 b7
        try simp only [Nat.add_zero] at s0 s1 HF
        go_wp2
        exact bodyPost_ret (v := .tuple #[.slice (some ⟨gl, 0, none⟩) ls.length cl, .int .i64 x, .slice (some ⟨gp, 0, none⟩) ps.length cp]) (by simp [results, Try.results35, go_sem]) rfl ⟨gl, cl, ls, x, _, _, cp, _, rfl, hl40, hp80, x0, x1, HGB, HF.out.1, HF.out.2.1, HF.out.2.2.1, HF.out.2.2.2⟩
      · obtain ⟨fr0, fr1, up0, up1⟩ := hSm.out i hi
        have HKK : Hid (∀ w', Dr8 w w' cb gl cl gp cp ls ps a n cap zs → Dr8 w w' cb gl cl gp cp ls ps a n cap zs ∧ w'.cell? ⟨gp, i * 4 + 2, none⟩ = some (.int .i64 (pcg ps i).fr) ∧ w'.frozen? ⟨gp, i * 4 + 2, none⟩ = false ∧ w'.cell? ⟨gp, i * 4 + 3, none⟩ = some (.int .i64 (pcg ps i).up) ∧ w'.frozen? ⟨gp, i * 4 + 3, none⟩ = false) := fun w' hd =>
          ⟨hd, (hd.op.cell (i := i) (f := 2) hi (by omega)).1, (hd.op.cell (i := i) (f := 2) hi (by omega)).2, (hd.op.cell (i := i) (f := 3) hi (by omega)).1, (hd.op.cell (i := i) (f := 3) hi (by omega)).2⟩
        have KB : ∀ w', (Dr8 w w' cb gl cl gp cp ls ps a n cap zs ∧ w'.cell? ⟨gp, i * 4 + 2, none⟩ = some (.int .i64 (pcg ps i).fr) ∧ w'.frozen? ⟨gp, i * 4 + 2, none⟩ = false ∧ w'.cell? ⟨gp, i * 4 + 3, none⟩ = some (.int .i64 (pcg ps i).up) ∧ w'.frozen? ⟨gp, i * 4 + 3, none⟩ = false) → Dr8 w w' cb gl cl gp cp ls ps a n cap zs := fun _ h => h.1
        have fw : IntKind.i64.wrap ((pcg ps i).fr + 1) = (pcg ps i).fr + 1 := by rw [IntKind.wrap_i64]; omega
        have uw : IntKind.i64.wrap ((pcg ps i).up + 1) = (pcg ps i).up + 1 := by rw [IntKind.wrap_i64]; omega
        have f9 : (pcg ps i).fr + 1 ≤ 9223372036854775807 := by omega
        have u9 : (pcg ps i).up + 1 ≤ 9223372036854775807 := by omega
        have HS : Hid (∀ w' z, Dr8 w w' cb gl cl gp cp ls ps a n cap zs → -9223372036854775808 ≤ z → z ≤ 9223372036854775807 → JobS (w'.setCell ⟨gp, i * 4 + 2, none⟩ (.int .i64 z)) (some ⟨gl, 0, none⟩) ls.length cl ls ∧ PieceU (w'.setCell ⟨gp, i * 4 + 2, none⟩ (.int .i64 z)) (some ⟨gp, 0, none⟩) ps.length cp (ps.set i (pcset (pcg ps i) 2 z)) ∧ CurAt (w'.setCell ⟨gp, i * 4 + 2, none⟩ (.int .i64 z)) cb a n cap zs ∧ But cb w (w'.setCell ⟨gp, i * 4 + 2, none⟩ (.int .i64 z))) := fun w' z hd h0 h1 =>
          (hd.store (i := i) (f := 2) hi (by omega) z).fin HAl.out (HWf.out.set hi (by omega) (by omega) h1) (HUp.out.set hi (Or.inl (by omega))) (List.length_set ..)
        have hcb6 := D6.cur.lt
        obtain ⟨_, k0, k1, k2, k3⟩ := HKK.out _ D6
        have KE : ∀ W, Below w6.heap.size w6 W → Dr8 w W cb gl cl gp cp ls ps a n cap zs := fun W hW => D6.below hW
        clear D6 KB
        go_wp2
        go_region_with ((go_at_call 36; refine (l1Below_any cb a n cap zs 5 _ (KE _ (by first | exact Below.refl _ _ | exact (Below.refl _ _).drew | exact ((Below.refl _ _).alloc (Nat.le_refl _) _).drew | exact ((Below.refl _ _).drew.alloc (Nat.le_refl _) _) | exact (Below.refl _ _).alloc (Nat.le_refl _) _)).cur (by omega) (by omega)).mono ?_; rintro e w7 ⟨xt, rfl, xt0, xt1, c7, b7⟩; obtain ⟨t, rfl⟩ := Int.eq_ofNat_of_zero_le xt0; obtain ⟨v, hv, v0, v1⟩ := tabF_at (pcg ps i).fr (pcg ps i).up fr0 fr1 up0 up1 t (by omega); (first | have q0 := row_atd (L := tabF (pcg ps i).fr (pcg ps i).up) b7 hcb6 hv | (have q0 := new_at w7 (L := tabF (pcg ps i).fr (pcg ps i).up) hv; unfold tabF at q0)); have ht : t < 5 := (by omega); have SB : Dr8 w w7 cb gl cl gp cp ls ps a n cap zs := (KE _ (by first | exact Below.refl _ _ | exact (Below.refl _ _).drew | exact ((Below.refl _ _).alloc (Nat.le_refl _) _).drew | exact ((Below.refl _ _).drew.alloc (Nat.le_refl _) _) | exact (Below.refl _ _).alloc (Nat.le_refl _) _)).step c7 b7; have HSB : Hid (Dr8 w w7 cb gl cl gp cp ls ps a n cap zs) := SB; have j0 := fun o => (HKK.out _ (SB.below ((Below.refl _ _).alloc (Nat.le_refl _) o))).2.1; have j1 := fun o => (HKK.out _ (SB.below ((Below.refl _ _).alloc (Nat.le_refl _) o))).2.2.1; have j2 := fun o => (HKK.out _ (SB.below ((Below.refl _ _).alloc (Nat.le_refl _) o))).2.2.2.1; have j3 := fun o => (HKK.out _ (SB.below ((Below.refl _ _).alloc (Nat.le_refl _) o))).2.2.2.2; obtain ⟨_, i0, i1, i2, i3⟩ := HKK.out _ SB; clear c7 b7 hv SB))
        all_goals
          go_wp2
          refine bodyPost_ret (v := .tuple #[.slice (some ⟨gl, 0, none⟩) ls.length cl, .int .i64 x, .slice (some ⟨gp, 0, none⟩) ps.length cp]) (by simp [results, Try.results35, go_sem]) rfl ⟨gl, cl, ls, x, _, _, cp, ps.set i (pcset (pcg ps i) 2 v), rfl, hl40, hp80, x0, x1, HGB, ?_⟩
          exact HS.out _ v (by first | exact HSB.out | exact HSB.out.below ((Below.refl _ _).alloc (Nat.le_refl _) _) | exact HSB.out.below ((Below.refl _ _).alloc (Nat.le_refl _) _).drew | exact HSB.out.below ((Below.refl _ _).drew.alloc (Nat.le_refl _) _) | exact HSB.out.below (Below.refl _ _).drew) v0 v1
      · obtain ⟨fr0, fr1, up0, up1⟩ := hSm.out i hi
        have HKK : Hid (∀ w', Dr8 w w' cb gl cl gp cp ls ps a n cap zs → Dr8 w w' cb gl cl gp cp ls ps a n cap zs ∧ w'.cell? ⟨gp, i * 4 + 2, none⟩ = some (.int .i64 (pcg ps i).fr) ∧ w'.frozen? ⟨gp, i * 4 + 2, none⟩ = false ∧ w'.cell? ⟨gp, i * 4 + 3, none⟩ = some (.int .i64 (pcg ps i).up) ∧ w'.frozen? ⟨gp, i * 4 + 3, none⟩ = false) := fun w' hd =>
          ⟨hd, (hd.op.cell (i := i) (f := 2) hi (by omega)).1, (hd.op.cell (i := i) (f := 2) hi (by omega)).2, (hd.op.cell (i := i) (f := 3) hi (by omega)).1, (hd.op.cell (i := i) (f := 3) hi (by omega)).2⟩
        have KB : ∀ w', (Dr8 w w' cb gl cl gp cp ls ps a n cap zs ∧ w'.cell? ⟨gp, i * 4 + 2, none⟩ = some (.int .i64 (pcg ps i).fr) ∧ w'.frozen? ⟨gp, i * 4 + 2, none⟩ = false ∧ w'.cell? ⟨gp, i * 4 + 3, none⟩ = some (.int .i64 (pcg ps i).up) ∧ w'.frozen? ⟨gp, i * 4 + 3, none⟩ = false) → Dr8 w w' cb gl cl gp cp ls ps a n cap zs := fun _ h => h.1
        have fw : IntKind.i64.wrap ((pcg ps i).fr + 1) = (pcg ps i).fr + 1 := by rw [IntKind.wrap_i64]; omega
        have uw : IntKind.i64.wrap ((pcg ps i).up + 1) = (pcg ps i).up + 1 := by rw [IntKind.wrap_i64]; omega
        have f9 : (pcg ps i).fr + 1 ≤ 9223372036854775807 := by omega
        have u9 : (pcg ps i).up + 1 ≤ 9223372036854775807 := by omega
        have HS : Hid (∀ w' z, Dr8 w w' cb gl cl gp cp ls ps a n cap zs → 0 ≤ z → z ≤ 9223372036854775807 → JobS (w'.setCell ⟨gp, i * 4 + 3, none⟩ (.int .i64 z)) (some ⟨gl, 0, none⟩) ls.length cl ls ∧ PieceU (w'.setCell ⟨gp, i * 4 + 3, none⟩ (.int .i64 z)) (some ⟨gp, 0, none⟩) ps.length cp (ps.set i (pcset (pcg ps i) 3 z)) ∧ CurAt (w'.setCell ⟨gp, i * 4 + 3, none⟩ (.int .i64 z)) cb a n cap zs ∧ But cb w (w'.setCell ⟨gp, i * 4 + 3, none⟩ (.int .i64 z))) := fun w' z hd h0 h1 =>
          (hd.store (i := i) (f := 3) hi (by omega) z).fin HAl.out (HWf.out.set hi (by omega) (by omega) h1) (HUp.out.set hi (Or.inr h0)) (List.length_set ..)
        have hcb6 := D6.cur.lt
        obtain ⟨_, k0, k1, k2, k3⟩ := HKK.out _ D6
        have KE : ∀ W, Below w6.heap.size w6 W → Dr8 w W cb gl cl gp cp ls ps a n cap zs := fun W hW => D6.below hW
        clear D6 KB
        go_wp2
        go_region_with ((go_at_call 36; refine (l1Below_any cb a n cap zs 4 _ (KE _ (by first | exact Below.refl _ _ | exact (Below.refl _ _).drew | exact ((Below.refl _ _).alloc (Nat.le_refl _) _).drew | exact ((Below.refl _ _).drew.alloc (Nat.le_refl _) _) | exact (Below.refl _ _).alloc (Nat.le_refl _) _)).cur (by omega) (by omega)).mono ?_; rintro e w7 ⟨xt, rfl, xt0, xt1, c7, b7⟩; obtain ⟨t, rfl⟩ := Int.eq_ofNat_of_zero_le xt0; obtain ⟨v, hv, v0, v1⟩ := tabU_at (pcg ps i).fr (pcg ps i).up fr0 fr1 up0 up1 t (by omega); (first | have q0 := row_atd (L := tabU (pcg ps i).fr (pcg ps i).up) b7 hcb6 hv | (have q0 := new_at w7 (L := tabU (pcg ps i).fr (pcg ps i).up) hv; unfold tabU at q0)); have ht : t < 4 := (by omega); have SB : Dr8 w w7 cb gl cl gp cp ls ps a n cap zs := (KE _ (by first | exact Below.refl _ _ | exact (Below.refl _ _).drew | exact ((Below.refl _ _).alloc (Nat.le_refl _) _).drew | exact ((Below.refl _ _).drew.alloc (Nat.le_refl _) _) | exact (Below.refl _ _).alloc (Nat.le_refl _) _)).step c7 b7; have HSB : Hid (Dr8 w w7 cb gl cl gp cp ls ps a n cap zs) := SB; have j0 := fun o => (HKK.out _ (SB.below ((Below.refl _ _).alloc (Nat.le_refl _) o))).2.1; have j1 := fun o => (HKK.out _ (SB.below ((Below.refl _ _).alloc (Nat.le_refl _) o))).2.2.1; have j2 := fun o => (HKK.out _ (SB.below ((Below.refl _ _).alloc (Nat.le_refl _) o))).2.2.2.1; have j3 := fun o => (HKK.out _ (SB.below ((Below.refl _ _).alloc (Nat.le_refl _) o))).2.2.2.2; obtain ⟨_, i0, i1, i2, i3⟩ := HKK.out _ SB; clear c7 b7 hv SB))
        all_goals
          go_wp2
          refine bodyPost_ret (v := .tuple #[.slice (some ⟨gl, 0, none⟩) ls.length cl, .int .i64 x, .slice (some ⟨gp, 0, none⟩) ps.length cp]) (by simp [results, Try.results35, go_sem]) rfl ⟨gl, cl, ls, x, _, _, cp, ps.set i (pcset (pcg ps i) 3 v), rfl, hl40, hp80, x0, x1, HGB, ?_⟩
          exact HS.out _ v (by first | exact HSB.out | exact HSB.out.below ((Below.refl _ _).alloc (Nat.le_refl _) _) | exact HSB.out.below ((Below.refl _ _).alloc (Nat.le_refl _) _).drew | exact HSB.out.below ((Below.refl _ _).drew.alloc (Nat.le_refl _) _) | exact HSB.out.below (Below.refl _ _).drew) v0 v1
      · have HF : Hid _ := D6.fin HAl.out HWf.out HUp.out rfl
        have HD : Hid _ := HF.out.2.1.1.drop1 hl
        have hcp : ps.length ≤ cp := D6.op.le
        have HUd : Hid (UpOk (ps.drop 1)) := fun p hp => HUp.out p (List.mem_of_mem_drop hp)
        clear D6
        by_cases h1 : cp = 1
        · have HD1 : Hid (PieceS w6 (some ⟨gp, 0, none⟩) (ps.length - 1) (cp - 1) (ps.drop 1)) := by have := HD.out; rwa [if_pos h1] at this
          go_wp2
          exact bodyPost_ret (v := .tuple #[.slice (some ⟨gl, 0, none⟩) ls.length cl, .int .i64 x, .slice (some ⟨gp, 0, none⟩) (ps.length - 1) (cp - 1)]) (by simp [results, Try.results35, go_sem, h1]) rfl ⟨gl, cl, ls, x, _, _, _, _, rfl, hl40, by omega, x0, x1, HGB, HF.out.1, ⟨HD1.out, HUd.out⟩, HF.out.2.2.1, HF.out.2.2.2⟩
        · have HD1 : Hid (PieceS w6 (some ⟨gp, 4, none⟩) (ps.length - 1) (cp - 1) (ps.drop 1)) := by have := HD.out; rwa [if_neg h1] at this
          go_wp2
          exact bodyPost_ret (v := .tuple #[.slice (some ⟨gl, 0, none⟩) ls.length cl, .int .i64 x, .slice (some ⟨gp, 4, none⟩) (ps.length - 1) (cp - 1)]) (by simp [results, Try.results35, go_sem]) rfl ⟨gl, cl, ls, x, _, _, _, _, rfl, hl40, by omega, x0, x1, HGB4, HF.out.1, ⟨HD1.out, HUd.out⟩, HF.out.2.2.1, HF.out.2.2.2⟩
    · have HF : Hid _ := D4.fin HAl.out HWf.out HUp.out rfl
      have hl' : ¬ (0 : Int) < (ps.length : Int) := by omega
      clear D4
      go_wp2
      exact bodyPost_ret (v := .tuple #[.slice (some ⟨gl, 0, none⟩) ls.length cl, .int .i64 x, .slice (some ⟨gp, 0, none⟩) ps.length cp]) (by simp [results, Try.results35, go_sem]) rfl ⟨gl, cl, ls, x, _, _, cp, ps, rfl, hl40, hp80, x0, x1, HGB, HF.out.1, HF.out.2.1, HF.out.2.2.1, HF.out.2.2.2⟩

end Go.Proofs.Ytnndkdonbjeejaa

/- The draws of chapter 8, from a code on. -/
namespace Go.Proofs.Ytnndkdonbjeejaa
open Go.RowKit Go.Sort

theorem PieceS.butB {w w' : World} {cb : Nat} {a : Option Addr} {n cap : Nat} {ps : List Pc} (h : PieceS w a n cap ps) (hb : But cb w w') (hc : ∀ b off, a = some ⟨b, off, none⟩ → cb < b) : PieceS w' a n cap ps :=
  ⟨h.len, h.le, h.mx, h.nil, h.wf, fun h0 => by
    obtain ⟨b, off, e, hl, hat⟩ := h.at_ h0
    have hne := hc b off e
    exact ⟨b, off, e, Nat.lt_of_lt_of_le hl hb.size, fun i hi c hc => (World.cell?_of_block (a := ⟨b, off + i * 4 + c, none⟩) (hb.block b hl (by omega))).trans (hat i hi c hc)⟩⟩

theorem drawSpread8_any (a : Option Addr) (n cap : Nat) (zs : List Int) (w : World) (h : IsBytes w a n cap zs) (hn : n ≤ 4096) :
    Calls Try.prog 32 #[.slice a n cap] w fun e w' => ∃ (gl cl : Nat) (ls : List Jb) (x : Int), e = .returned (.tuple #[.slice (some ⟨gl, 0, none⟩) ls.length cl, .int .i64 x]) ∧ ls.length ≤ 40 ∧ -1 ≤ x ∧ x ≤ 11 ∧ JobS w' (some ⟨gl, 0, none⟩) ls.length cl ls ∧ Below w.heap.size w w' := by
  go_enter Try.func32, Try.ntmps32
  go_wp2_with fail
  refine (l1New_any a n cap zs _ h hn).mono ?_
  rintro e w1 ⟨cb, rfl, hcb, c1, U1⟩
  have z1 := U1.size
  go_wp2_with fail
  refine (drawMachines_any cb a n cap zs _ c1).mono ?_
  rintro e w2 ⟨x, rfl, x0, x1, c2, b2⟩
  go_wp2_with fail
  refine (l3DrawAny_any cb a n cap zs 6 _ c2 (by omega) (by omega)).mono ?_
  rintro e w3 ⟨gl, cl, ls, rfl, O, hl, hA, c3, b3⟩
  have J : JobS w3 (some ⟨gl, 0, none⟩) ls.length cl ls := O.toS (fun i hi => (hA _ (by rw [jg_get hi]; exact List.getElem_mem hi)).wf)
  go_wp2
  go_ret2
  exact ⟨gl, cl, ls, x, rfl, hl, x0, x1, J, U1.trans ((b2.trans b3).below hcb z1)⟩

theorem drawPieces_any (a : Option Addr) (n cap : Nat) (zs : List Int) (w : World) (h : IsBytes w a n cap zs) (hn : n ≤ 4096) :
    Calls Try.prog 8 #[.slice a n cap] w fun e w' => ∃ (gl cl : Nat) (ls : List Jb) (x : Int), e = .returned (.tuple #[.slice (some ⟨gl, 0, none⟩) ls.length cl, .int .i64 x]) ∧ ls.length ≤ 40 ∧ -1 ≤ x ∧ x ≤ 11 ∧ JobS w' (some ⟨gl, 0, none⟩) ls.length cl ls ∧ Below w.heap.size w w' := by
  go_enter Try.func8, Try.ntmps8
  go_wp2_with fail
  refine (drawSpread8_any a n cap zs _ h hn).mono ?_
  rintro e w1 ⟨gl, cl, ls, x, rfl, hl, x0, x1, J, U1⟩
  go_wp2
  go_ret2
  exact ⟨gl, cl, ls, x, rfl, hl, x0, x1, J, U1⟩

theorem drawPiecesOk_any (a : Option Addr) (n cap : Nat) (zs : List Int) (w : World) (h : IsBytes w a n cap zs) (hn : n ≤ 4096) :
    Calls Try.prog 10 #[.slice a n cap] w fun e w' => ∃ (gl cl : Nat) (ls : List Jb) (x : Int) (vp : Option Addr) (np cp : Nat) (ps : List Pc), e = .returned (.tuple #[.slice (some ⟨gl, 0, none⟩) ls.length cl, .int .i64 x, .slice vp np cp]) ∧ ls.length ≤ 40 ∧ np ≤ 80 ∧ -1 ≤ x ∧ x ≤ 11 ∧ JobS w' (some ⟨gl, 0, none⟩) ls.length cl ls ∧ PieceS w' vp np cp ps ∧ Below w.heap.size w w' := by
  go_enter Try.func10, Try.ntmps10
  go_wp2_with fail
  refine (l1New_any a n cap zs _ h hn).mono ?_
  rintro e w1 ⟨cb, rfl, hcb, c1, U1⟩
  have z1 := U1.size
  go_wp2_with fail
  refine (l8Draw_any cb a n cap zs _ c1).mono ?_
  rintro e w2 ⟨gl, cl, ls, x, vp, np, cp, ps, rfl, hl, hp, x0, x1, hvb, J, P, c2, b2⟩
  go_wp2
  exact bodyPost_ret (v := .tuple #[.slice (some ⟨gl, 0, none⟩) ls.length cl, .int .i64 x, .slice vp np cp]) (by simp [results, Try.results10, go_sem]) rfl ⟨gl, cl, ls, x, vp, np, cp, ps, rfl, hl, hp, x0, x1, J, P.1, U1.trans (b2.below hcb z1)⟩

theorem drawFinish_any (a : Option Addr) (n cap : Nat) (zs : List Int) (w : World) (h : IsBytes w a n cap zs) (hn : n ≤ 4096) :
    Calls Try.prog 11 #[.slice a n cap] w fun e w' => ∃ (vp : Option Addr) (np cp : Nat) (ps : List Pc), e = .returned (.slice vp np cp) ∧ np ≤ 80 ∧ UpOk ps ∧ PieceS w' vp np cp ps ∧ Below w.heap.size w w' := by
  go_enter Try.func11, Try.ntmps11
  go_wp2_with fail
  refine (l1New_any a n cap zs _ h hn).mono ?_
  rintro e w1 ⟨cb, rfl, hcb, c1, U1⟩
  have z1 := U1.size
  go_wp2_with fail
  refine (l8Draw_any cb a n cap zs _ c1).mono ?_
  rintro e w2 ⟨gl, cl, ls, x, vp, np, cp, ps, rfl, hl, hp, x0, x1, hvb, J, P, c2, b2⟩
  go_wp2
  go_ret
  exact ⟨vp, np, cp, ps, rfl, hp, P.2, P.1, U1.trans (b2.below hcb z1)⟩

theorem drawParts_any (a : Option Addr) (n cap : Nat) (zs : List Int) (w : World) (h : IsBytes w a n cap zs) (hn : n ≤ 4096) :
    Calls Try.prog 12 #[.slice a n cap] w fun e w' => ∃ (vp : Option Addr) (np cp : Nat) (ps : List Pc) (id : Int), e = .returned (.tuple #[.slice vp np cp, .int .i64 id]) ∧ np ≤ 80 ∧ 0 ≤ id ∧ id < 7 ∧ PieceS w' vp np cp ps ∧ Below w.heap.size w w' := by
  go_enter Try.func12, Try.ntmps12
  go_wp2_with fail
  refine (l1New_any a n cap zs _ h hn).mono ?_
  rintro e w1 ⟨cb, rfl, hcb, c1, U1⟩
  have z1 := U1.size
  go_wp2_with fail
  refine (l8Draw_any cb a n cap zs _ c1).mono ?_
  rintro e w2 ⟨gl, cl, ls, x, vp, np, cp, ps, rfl, hl, hp, x0, x1, hvb, J, P, c2, b2⟩
  go_wp2_with fail
  refine (l1Below_any cb a n cap zs 7 _ c2 (by omega) (by omega)).mono ?_
  rintro e w3 ⟨id, rfl, i0, i1, c3, b3⟩
  go_wp2
  go_ret2
  exact ⟨vp, np, cp, ps, id, rfl, hp, i0, i1, P.1.butB b3 hvb, U1.trans ((b2.trans b3).below hcb z1)⟩

end Go.Proofs.Ytnndkdonbjeejaa
