/- PiecesOk of the model. -/
import Derived.Test.YtnndkdonbjeejaaPieceS
import Derived.Test.YtnndkdonbjeejaaInts
import Derived.Deep.QuietTactic
namespace Go.Proofs.Ytnndkdonbjeejaa
open Go.RowKit Go.Sort

theorem workOf_step {ps : List Pc} {k : Nat} {id : Int} (hk : k < ps.length) : workOf id (ps.take (k + 1)) = workOf id (ps.take k) + if (pcg ps k).job = id then (pcg ps k).up - (pcg ps k).fr else 0 := by
  rw [take_stepP hk, workOf_app]; simp [workOf]
/-- how much of each job is in the first k pieces -/
def sumsV (ls : List Jb) (ps : List Pc) (k : Nat) : List Int := ls.map fun j => workOf j.id (ps.take k)
theorem sumsV_len (ls : List Jb) (ps : List Pc) (k : Nat) : (sumsV ls ps k).length = ls.length := by simp [sumsV]
theorem sumsV_at {ls : List Jb} {ps : List Pc} {k q : Nat} (hq : q < ls.length) : zg (sumsV ls ps k) q = workOf (jg ls q).id (ps.take k) := by
  rw [zg_get (by rw [sumsV_len]; exact hq), jg_get hq]; simp [sumsV]
theorem sumsV_0 (ls : List Jb) (ps : List Pc) : sumsV ls ps 0 = List.replicate ls.length 0 := by
  apply List.ext_getElem (by simp [sumsV])
  intro i h1 h2
  simp [sumsV, workOf]
theorem sumsV_step {ls : List Jb} {ps : List Pc} {k q : Nat} (hj : JsOk ls) (hk : k < ps.length) (hq : q < ls.length) (e : (jg ls q).id = (pcg ps k).job) :
    sumsV ls ps (k + 1) = (sumsV ls ps k).set q (workOf (jg ls q).id (ps.take k) + ((pcg ps k).up - (pcg ps k).fr)) := by
  apply List.ext_getElem (by simp [sumsV])
  intro i h1 h2
  have hi : i < ls.length := by rwa [sumsV_len] at h1
  rw [List.getElem_set]
  by_cases c : q = i
  · subst c
    rw [if_pos rfl]
    have := workOf_step (id := (jg ls q).id) hk
    rw [if_pos e.symm] at this
    rw [← this, jg_get hq]; simp [sumsV]
  · rw [if_neg c]
    have hne : (pcg ps k).job ≠ (jg ls i).id := fun h => by
      rcases Nat.lt_or_gt_of_ne c with h9 | h9
      · exact (hj.ok i hi).2 q h9 (by rw [e, h])
      · exact (hj.ok q hq).2 i h9 (by rw [e, h])
    have := workOf_step (id := (jg ls i).id) hk
    rw [if_neg hne, Int.add_zero, jg_get hi] at this
    simpa [sumsV] using this

/-- the first k pieces are right, no two at one time -/
structure GdTo (ls : List Jb) (m : Int) (ps : List Pc) (k : Nat) : Prop where
  one : ∀ i, i < k → Pk1 ls m (pcg ps i)
  apart : ∀ i, i < k → ∀ j, j < i → Apart (pcg ps j) (pcg ps i)
  short : ∀ i, i < k → (pcg ps i).up - (pcg ps i).fr ≤ 10000
theorem GdTo.succ {ls : List Jb} {m : Int} {ps : List Pc} {k : Nat} (h : GdTo ls m ps k) (h1 : Pk1 ls m (pcg ps k)) (h2 : ∀ j, j < k → Apart (pcg ps j) (pcg ps k)) (h3 : (pcg ps k).up - (pcg ps k).fr ≤ 10000) : GdTo ls m ps (k + 1) := by
  refine ⟨fun i hi => ?_, fun i hi => ?_, fun i hi => ?_⟩
  · by_cases e : i = k
    · subst e; exact h1
    · exact h.one i (by omega)
  · by_cases e : i = k
    · subst e; exact h2
    · exact h.apart i (by omega)
  · by_cases e : i = k
    · subst e; exact h3
    · exact h.short i (by omega)
theorem GdTo.work {ls : List Jb} {m : Int} {ps : List Pc} {k : Nat} (h : GdTo ls m ps k) (hk : k ≤ ps.length) (id : Int) : 0 ≤ workOf id (ps.take k) ∧ workOf id (ps.take k) ≤ 10000 * k := by
  induction k with
  | zero => simp [workOf]
  | succ k ih =>
    have h0 : GdTo ls m ps k := ⟨fun i hi => h.one i (by omega), fun i hi => h.apart i (by omega), fun i hi => h.short i (by omega)⟩
    have := ih h0 (by omega)
    have h1 := (h.one k (by omega)).lt
    have h2 := h.short k (by omega)
    rw [workOf_step (by omega)]
    split <;> omega
/-- what is amiss -/
theorem pk_no_one {ls : List Jb} {m : Int} {ps : List Pc} {k : Nat} (hk : k < ps.length) (h : ¬ Pk1 ls m (pcg ps k)) : pkB ls m ps = false := pkB_no fun p => h (by rw [pcg_get hk]; exact p.one _ (List.getElem_mem hk))
theorem pk_no_short {ls : List Jb} {m : Int} {ps : List Pc} {k : Nat} (hk : k < ps.length) (h : 10000 < (pcg ps k).up - (pcg ps k).fr) : pkB ls m ps = false := pkB_no fun p => by
  have := p.short _ (List.getElem_mem hk)
  rw [← pcg_get hk] at this
  omega
theorem pk_no_apart {ls : List Jb} {m : Int} {ps : List Pc} {k j : Nat} (hk : k < ps.length) (hj : j < k) (h : ¬ Apart (pcg ps j) (pcg ps k)) : pkB ls m ps = false := pkB_no fun p => h (by
  rw [pcg_get hk, pcg_get (Nat.lt_trans hj hk)]
  exact (List.pairwise_iff_getElem.1 p.apart) j k (by omega) hk hj)
theorem pk_no_work {ls : List Jb} {m : Int} {ps : List Pc} {q : Nat} (hq : q < ls.length) (h : workOf (jg ls q).id ps ≠ (jg ls q).long) : pkB ls m ps = false := pkB_no fun p => h (p.work _ (by rw [jg_get hq]; exact List.getElem_mem hq))
theorem pk_yes {ls : List Jb} {m : Int} {ps : List Pc} (hj : JsOk ls) (m0 : 1 ≤ m) (m1 : m ≤ 10) (g : GdTo ls m ps ps.length) (hw : ∀ q, q < ls.length → workOf (jg ls q).id ps = (jg ls q).long) : pkB ls m ps = true := pkB_mk (by
  refine ⟨hj, m0, m1, fun p hp => ?_, ?_, fun j hj' => ?_⟩
  · obtain ⟨i, hi, rfl⟩ := List.getElem_of_mem hp
    rw [← pcg_get hi]; exact g.one i hi
  · rw [List.pairwise_iff_getElem]
    intro i j hi hj' hij
    rw [← pcg_get hi, ← pcg_get hj']
    exact g.apart j hj' i hij
  · obtain ⟨i, hi, rfl⟩ := List.getElem_of_mem hj'
    rw [← jg_get hi]; exact hw i hi)
theorem pk_job {ls : List Jb} {m : Int} {p : Pc} (h : Pk1 ls m p) : ∃ q, q < ls.length ∧ (jg ls q).id = p.job := by
  obtain ⟨j, hj, e⟩ := h.job
  obtain ⟨i, hi, rfl⟩ := List.getElem_of_mem hj
  exact ⟨i, hi, by rw [jg_get hi]; exact e⟩

set_option maxRecDepth 8000 in
set_option maxHeartbeats 4000000 in
theorem specPiecesOk_any (a a2 : Option Addr) (n cap n2 cap2 : Nat) (ls : List Jb) (m : Int) (ps : List Pc) (w : World) (h : JobS w a n cap ls) (h2 : PieceS w a2 n2 cap2 ps) (hn2 : n2 ≤ 1048576) :
    Calls Try.prog 16 #[.slice a n cap, .int .i64 m, .slice a2 n2 cap2] w fun e w' => e = .returned (.bool (pkB ls m ps)) ∧ Below w.heap.size w w' := by
  have hlen := h.len
  have hmx := h.mx
  have hle := h.le
  have hlen2 := h2.len
  have hmx2 := h2.mx
  have hle2 := h2.le
  unfold maxLen at hmx hmx2
  rcases hq : jsB ls with _ | _
  · rw [pkB_no fun p => by have := jsB_mk p.jobs; rw [hq] at this; cases this]
    go_enter Try.func16, Try.ntmps16
    go_wp2_with (go_at_call 21; refine (specJobsOk_any a n cap ls _ h).mono ?_; rw [hq]; rintro e w1 ⟨rfl, hb1⟩)
    go_ret
    exact ⟨rfl, hb1⟩
  rcases hin : inB m 1 10 with _ | _
  · rw [pkB_no fun p => by have h8 := p.m0; have h9 := p.m1; unfold inB at hin; simp at hin; omega]
    go_enter Try.func16, Try.ntmps16
    go_wp2_with (first
      | (go_at_call 21; refine (specJobsOk_any a n cap ls _ h).mono ?_; rw [hq]; rintro e w1 ⟨rfl, hb1⟩)
      | (go_at_call 44; refine (l1In_any _ _ _ _).mono ?_; rw [hin]; rintro e w2 ⟨rfl, rfl⟩))
    go_ret
    exact ⟨rfl, hb1⟩
  have hm12 : 1 ≤ m ∧ m ≤ 10 := by unfold inB at hin; simpa using hin
  obtain ⟨hm1, hm2⟩ := hm12
  have hjs := jsB_t hq
  have hn := hjs.n
  have hmk := run_makeM n (by omega)
  have hmo : Try.prog.follows .mixedOrders = true := by kernel_rfl
  go_enter Try.func16, Try.ntmps16
  go_wp2_with (first
    | (go_at_call 21; refine (specJobsOk_any a n cap ls _ h).mono ?_; rw [hq]; rintro e w1 ⟨rfl, hb1⟩)
    | (go_at_call 44; refine (l1In_any _ _ _ _).mono ?_; rw [hin]; rintro e w2 ⟨rfl, hq2⟩; have hq2' := hq2.symm; clear hq2; subst hq2'))
  clear hmk
  have bx1 : Below w1.heap.size w1 (w1.alloc (.cells (madeCells #[.int .i64 0] n) 2)) := box_below
  have HL0 : Hid (LdB (w1.alloc (.cells (madeCells #[.int .i64 0] n) 2)) w1.heap.size (sumsV ls ps 0)) := by rw [sumsV_0, hlen]; exact LdB.made w1 n
  have HB0 : Hid _ := hb1.then bx1 hb1.size
  have hws := hb1.size
  clear bx1
  go_loopw [8] (fun i wr => ∃ (k : Nat), k ≤ n2 ∧ i = .int .i64 k ∧ Hid (GdTo ls m ps k) ∧ Hid (LdB wr w1.heap.size (sumsV ls ps k)) ∧ Hid (Below w.heap.size w wr)) (fun i _ => n2 - (intOf i).toNat)
  case atStart => exact ⟨0, by omega, rfl, ⟨fun i hi => by omega, fun i hi => by omega, fun i hi => by omega⟩, HL0.out, HB0.out⟩
  case round =>
    obtain ⟨k, hk, rfl, HG, HL, HB⟩ := hrel
    rename World => wo
    have zB := HL.out.lt
    by_cases hlt : k < n2
    · obtain ⟨b2, off2, rfl, hbw2, hat2⟩ := (h2.below HB.out).at_ (by omega)
      have hkp : k < ps.length := by omega
      obtain ⟨hc0, hc1, hc2, hc3⟩ := hat2.row (i := k) hkp
      have hlt' : (k : Int) < (n2 : Int) := by omega
      obtain ⟨W2, hW2⟩ : ∃ W2, W2 = wo.alloc (.cells #[.int .i64 (pcg ps k).job, .int .i64 (pcg ps k).mac, .int .i64 (pcg ps k).fr, .int .i64 (pcg ps k).up] 56) := ⟨_, rfl⟩
      have B2 : Below wo.heap.size wo W2 := by rw [hW2]; exact box_below0
      have z2 : wo.heap.size < W2.heap.size := by rw [hW2]; simp
      have P0 : W2.cell? ⟨wo.heap.size, 0, none⟩ = some (.int .i64 (pcg ps k).job) := by rw [hW2]; simp
      have P1 : W2.cell? ⟨wo.heap.size, 1, none⟩ = some (.int .i64 (pcg ps k).mac) := by rw [hW2]; simp
      have P2 : W2.cell? ⟨wo.heap.size, 2, none⟩ = some (.int .i64 (pcg ps k).fr) := by rw [hW2]; simp
      have P3 : W2.cell? ⟨wo.heap.size, 3, none⟩ = some (.int .i64 (pcg ps k).up) := by rw [hW2]; simp
      go_wp2
      rw [← hW2]
      clear hW2 hc0 hc1 hc2 hc3
      have HB2 : Hid (Below w.heap.size w W2) := HB.out.then B2 HB.out.size
      have HL2 : Hid (LdB W2 w1.heap.size (sumsV ls ps k)) := HL.out.below B2
      go_loopw [10, 11] (fun r i wr => ∃ (q : Nat) (t : Int), q ≤ n ∧ i = .int .i64 q ∧ r = .int .i64 t ∧ Hid ((t = -1 ∧ ∀ x, x < q → (jg ls x).id ≠ (pcg ps k).job) ∨ ∃ y : Nat, t = y ∧ y < q ∧ (jg ls y).id = (pcg ps k).job) ∧ Below W2.heap.size W2 wr) (fun _ i _ => n - (intOf i).toNat)
      case atStart => exact ⟨0, -1, by omega, rfl, rfl, Or.inl ⟨rfl, fun x hx => by omega⟩, Below.refl _ _⟩
      case round =>
        obtain ⟨q, t, hqn, rfl, rfl, HJ, hwi⟩ := hrel
        rename World => wi
        have p0 := (hwi.cell (p := ⟨wo.heap.size, 0, none⟩) z2).trans P0
        by_cases hql : q < n
        · obtain ⟨b, off, rfl, hbw, hat⟩ := (h.below (HB2.out.then hwi HB2.out.size)).at_ (by omega)
          have hi0 := hat q (by omega) 0 (by omega)
          simp only [jc, Nat.add_zero] at hi0
          have hql' : (q : Int) < (n : Int) := by omega
          by_cases hc : (jg ls q).id = (pcg ps k).job
          · have hc' : ((jg ls q).id == (pcg ps k).job) = true := by simpa using hc
            have HC : Hid _ := hc
            clear hc hat
            go_wp2
            go_quiet (fail)
            go_wp2
            go_roundw
            case rel => exact ⟨q + 1, q, by omega, by go_num, rfl, Or.inr ⟨q, rfl, by omega, HC.out⟩, hwi.drewN _⟩
            case measure => simp [intOf]; omega
          · have hc' : ((jg ls q).id == (pcg ps k).job) = false := by simpa using hc
            have HC : Hid _ := hc
            clear hc hat
            go_wp2
            go_quiet (fail)
            go_wp2
            go_roundw
            case rel => exact ⟨q + 1, t, by omega, by go_num, rfl, (by
              rcases HJ.out with ⟨e, h9⟩ | ⟨y, e, hy, h9⟩
              · exact Or.inl ⟨e, fun x hx => by (by_cases e9 : x = q; (subst e9; exact HC.out); exact h9 x (by omega))⟩
              · exact Or.inr ⟨y, e, by omega, h9⟩), hwi.drewN _⟩
            case measure => simp [intOf]; omega
        · obtain rfl : q = n := by omega
          have p1 := (hwi.cell (p := ⟨wo.heap.size, 1, none⟩) z2).trans P1
          have p2 := (hwi.cell (p := ⟨wo.heap.size, 2, none⟩) z2).trans P2
          have p3 := (hwi.cell (p := ⟨wo.heap.size, 3, none⟩) z2).trans P3
          have HB3 : Hid (Below w.heap.size w wi) := HB2.out.then hwi HB2.out.size
          have HL3 : Hid (LdB wi w1.heap.size (sumsV ls ps k)) := HL2.out.below hwi
          have z3 := hwi.size
          rcases HJ.out with ⟨rfl, hno⟩ | ⟨y, rfl, hy, hye⟩
          · have E : Hid (pkB ls m ps = false) := pk_no_one hkp (fun p => by obtain ⟨x, hx, e⟩ := pk_job p; exact hno x (by omega) e)
            clear hno HJ
            go_wp2
            go_ret
            exact ⟨by rw [E.out]; rfl, HB3.out⟩
          · have hy0 : ¬ (y : Int) < 0 := by omega
            have hyq : (y : Int) < (ls.length : Int) := by omega
            have HYE : Hid ((jg ls y).id = (pcg ps k).job) := hye
            clear HJ hye
            have hwf := h2.wf k hlt
            have u0 : (pcg ps k).up ≤ 9223372036854775807 := (hwf 3 (by omega)).2
            have u1 : -9223372036854775808 ≤ (pcg ps k).up := (hwf 3 (by omega)).1
            have v1 : -9223372036854775808 ≤ (pcg ps k).fr := (hwf 2 (by omega)).1
            clear hwf
            rcases hmc : inB (pcg ps k).mac 0 (m - 1) with _ | _
            · have E : Hid (pkB ls m ps = false) := pk_no_one hkp (fun p => by have h8 := p.m0; have h9 := p.m1; unfold inB at hmc; simp at hmc; omega)
              go_wp2_with (go_at_call 44; refine (l1In_any _ _ _ _).mono ?_; rw [hmc]; rintro e w2 ⟨rfl, hq2⟩; have hq2' := hq2.symm; clear hq2; subst hq2')
              go_ret
              exact ⟨by rw [E.out]; rfl, HB3.out⟩
            · by_cases f0 : (pcg ps k).fr < 0
              · have E : Hid (pkB ls m ps = false) := pk_no_one hkp (fun p => by have := p.f0; omega)
                go_wp2_with (go_at_call 44; refine (l1In_any _ _ _ _).mono ?_; rw [hmc]; rintro e w2 ⟨rfl, hq2⟩; have hq2' := hq2.symm; clear hq2; subst hq2')
                go_ret
                exact ⟨by rw [E.out]; rfl, HB3.out⟩
              · by_cases f1 : (pcg ps k).up ≤ (pcg ps k).fr
                · have E : Hid (pkB ls m ps = false) := pk_no_one hkp (fun p => by have := p.lt; omega)
                  go_wp2_with (go_at_call 44; refine (l1In_any _ _ _ _).mono ?_; rw [hmc]; rintro e w2 ⟨rfl, hq2⟩; have hq2' := hq2.symm; clear hq2; subst hq2')
                  go_ret
                  exact ⟨by rw [E.out]; rfl, HB3.out⟩
                · by_cases f2 : 10000 < (pcg ps k).up - (pcg ps k).fr
                  · have E : Hid (pkB ls m ps = false) := pk_no_short hkp f2
                    go_wp2_with (go_at_call 44; refine (l1In_any _ _ _ _).mono ?_; rw [hmc]; rintro e w2 ⟨rfl, hq2⟩; have hq2' := hq2.symm; clear hq2; subst hq2')
                    go_ret
                    exact ⟨by rw [E.out]; rfl, HB3.out⟩
                  · have HP1 : Hid (Pk1 ls m (pcg ps k)) := ⟨⟨jg ls y, by rw [jg_get (show y < ls.length by omega)]; exact List.getElem_mem _, HYE.out⟩, by unfold inB at hmc; simp at hmc; omega, by unfold inB at hmc; simp at hmc; omega, by omega, by omega⟩
                    have lc := HL3.out.cell (k := y) (by rw [sumsV_len]; omega)
                    have lf := HL3.out.free y
                    have HSV : Hid (zg (sumsV ls ps k) y = workOf (jg ls y).id (ps.take k)) := sumsV_at (by omega)
                    have HST : Hid (sumsV ls ps (k + 1) = (sumsV ls ps k).set y (workOf (jg ls y).id (ps.take k) + ((pcg ps k).up - (pcg ps k).fr))) := sumsV_step hjs hkp (by omega) HYE.out
                    obtain ⟨b0, b1⟩ := HG.out.work (by omega) (jg ls y).id
                    rw [HSV.out] at lc
                    obtain ⟨v, hv⟩ : ∃ v, v = workOf (jg ls y).id (ps.take k) := ⟨_, rfl⟩
                    rw [← hv] at lc b0 b1
                    have HV : Hid _ := hv
                    clear hv
                    have wS : wrap64 (wrap64 (v + (pcg ps k).up) - (pcg ps k).fr) = v + ((pcg ps k).up - (pcg ps k).fr) := by
                      unfold wrap64; omega
                    have hyn : y < ls.length := by omega
                    have f1' : ¬ (pcg ps k).up ≤ (pcg ps k).fr := f1
                    have sb0 : 0 ≤ (pcg ps k).up - (pcg ps k).fr := by omega
                    clear hat2
                    go_wp2_with (go_at_call 44; refine (l1In_any _ _ _ _).mono ?_; rw [hmc]; rintro e w2 ⟨rfl, hq2⟩; have hq2' := hq2.symm; clear hq2; subst hq2')
                    go_region
                    rw [wS]
                    have zwo : w1.heap.size < wo.heap.size := zB
                    have L5 : Hid (LdB (wi.setCell ⟨w1.heap.size, y, none⟩ (.int .i64 (v + ((pcg ps k).up - (pcg ps k).fr)))).drew w1.heap.size (sumsV ls ps (k + 1))) := by
                      have := HL3.out.set y (v + ((pcg ps k).up - (pcg ps k).fr))
                      rw [HV.out, ← HST.out] at this
                      rw [HV.out]
                      exact this
                    have B5 : Hid (Below w.heap.size w (wi.setCell ⟨w1.heap.size, y, none⟩ (.int .i64 (v + ((pcg ps k).up - (pcg ps k).fr)))).drew) := (HB3.out.setCell (by show w.heap.size ≤ w1.heap.size; omega) _).drew
                    have hpc : ∀ o, (wi.setCell ⟨w1.heap.size, y, none⟩ (.int .i64 (v + ((pcg ps k).up - (pcg ps k).fr)))).drew.cell? ⟨wo.heap.size, o, none⟩ = wi.cell? ⟨wo.heap.size, o, none⟩ := fun o =>
                      World.cell?_of_block (a := ⟨wo.heap.size, o, none⟩) (Below.heap_setCell _ _ _ _ (show wo.heap.size ≠ w1.heap.size by omega))
                    have s0 := (hpc 0).trans p0
                    have s1 := (hpc 1).trans p1
                    have s2 := (hpc 2).trans p2
                    have s3 := (hpc 3).trans p3
                    have z5 : (wi.setCell ⟨w1.heap.size, y, none⟩ (.int .i64 (v + ((pcg ps k).up - (pcg ps k).fr)))).drew.heap.size = wi.heap.size := by simp [World.setCell]
                    obtain ⟨w5, hw5⟩ : ∃ w5, (wi.setCell ⟨w1.heap.size, y, none⟩ (.int .i64 (v + ((pcg ps k).up - (pcg ps k).fr)))).drew = w5 := ⟨_, rfl⟩
                    rw [hw5] at L5 B5 s0 s1 s2 s3 z5 ⊢
                    have z6 : wo.heap.size < w5.heap.size := by omega
                    clear hw5 lc lf hpc wS p0 p1 p2 p3 P0 P1 P2 P3 HST HSV HV b0 b1
                    go_wp2
                    go_loopw [12] (fun i wr => ∃ j : Nat, j ≤ k ∧ i = .int .i64 j ∧ Hid (∀ x, x < j → Apart (pcg ps x) (pcg ps k)) ∧ Below w5.heap.size w5 wr) (fun i _ => k - (intOf i).toNat)
                    case atStart => exact ⟨0, by omega, rfl, fun x hx => by omega, Below.refl _ _⟩
                    case round =>
                      obtain ⟨j, hjk, rfl, HA, hwr⟩ := hrel
                      rename World => wr
                      have zr := hwr.size
                      have B6 : Hid (Below w.heap.size w wr) := B5.out.then hwr B5.out.size
                      by_cases hjl : j < k
                      · obtain ⟨b', off', he, hbw', hat'⟩ := (h2.below B6.out).at_ (by omega)
                        obtain ⟨rfl, rfl⟩ : b2 = b' ∧ off2 = off' := by simpa using he
                        obtain ⟨g0, g1, g2, g3⟩ := hat'.row (i := j) (by omega)
                        have hjl' : (j : Int) < (k : Int) := by omega
                        have hjn' : (j : Int) < (n2 : Int) := by omega
                        have pf : ∀ c u o, w5.cell? ⟨wo.heap.size, c, none⟩ = some u → (wr.alloc o).cell? ⟨wo.heap.size, c, none⟩ = some u := fun c u o hu =>
                          (World.cell?_alloc_lt _ _ _ (by simp; omega)).trans ((hwr.cell (p := ⟨wo.heap.size, c, none⟩) z6).trans hu)
                        have r0 := fun o => pf 0 _ o s0
                        have r1 := fun o => pf 1 _ o s1
                        have r2 := fun o => pf 2 _ o s2
                        have r3 := fun o => pf 3 _ o s3
                        have BA : Hid (∀ o, Below w.heap.size w (wr.alloc o)) := fun o => B6.out.alloc B6.out.size o
                        have BR : Hid (∀ o, Below w5.heap.size w5 (wr.alloc o)) := fun o => hwr.alloc zr o
                        clear he hat' pf
                        by_cases hap : Apart (pcg ps j) (pcg ps k)
                        · have HAn : Hid (∀ x, x < j + 1 → Apart (pcg ps x) (pcg ps k)) := fun x hx => by
                            by_cases e9 : x = j
                            · subst e9; exact hap
                            · exact HA.out x (by omega)
                          unfold Apart at hap
                          by_cases q1 : (pcg ps j).mac = (pcg ps k).mac
                          · have d1 : ((pcg ps j).mac == (pcg ps k).mac) = true := by simpa using q1
                            by_cases q3 : (pcg ps j).fr < (pcg ps k).up
                            · have q4 : ¬ (pcg ps k).fr < (pcg ps j).up := fun h9 => hap ⟨Or.inl q1.symm, h9, q3⟩
                              clear hap q1
                              go_wp2
                              go_roundw
                              case rel => exact ⟨j + 1, by omega, by go_num, HAn, BR.out _⟩
                              case measure => simp [intOf]; omega
                            · clear hap q1
                              go_wp2
                              go_roundw
                              case rel => exact ⟨j + 1, by omega, by go_num, HAn, BR.out _⟩
                              case measure => simp [intOf]; omega
                          · have d1 : ((pcg ps j).mac == (pcg ps k).mac) = false := by simpa using q1
                            by_cases q2 : (pcg ps j).job = (pcg ps k).job
                            · have d2 : ((pcg ps j).job == (pcg ps k).job) = true := by simpa using q2
                              by_cases q3 : (pcg ps j).fr < (pcg ps k).up
                              · have q4 : ¬ (pcg ps k).fr < (pcg ps j).up := fun h9 => hap ⟨Or.inr q2.symm, h9, q3⟩
                                clear hap q1 q2
                                go_wp2
                                go_roundw
                                case rel => exact ⟨j + 1, by omega, by go_num, HAn, BR.out _⟩
                                case measure => simp [intOf]; omega
                              · clear hap q1 q2
                                go_wp2
                                go_roundw
                                case rel => exact ⟨j + 1, by omega, by go_num, HAn, BR.out _⟩
                                case measure => simp [intOf]; omega
                            · have d2 : ((pcg ps j).job == (pcg ps k).job) = false := by simpa using q2
                              clear hap q1 q2
                              go_wp2
                              go_roundw
                              case rel => exact ⟨j + 1, by omega, by go_num, HAn, BR.out _⟩
                              case measure => simp [intOf]; omega
                        · have E : Hid (pkB ls m ps = false) := pk_no_apart hkp hjl hap
                          unfold Apart at hap
                          have hap' := Classical.not_not.1 hap
                          obtain ⟨q0, q3, q4⟩ := hap'
                          clear hap
                          by_cases q1 : (pcg ps j).mac = (pcg ps k).mac
                          · have d1 : ((pcg ps j).mac == (pcg ps k).mac) = true := by simpa using q1
                            clear q1 q0
                            go_wp2
                            go_ret
                            exact ⟨by rw [E.out]; rfl, BA.out _⟩
                          · have d1 : ((pcg ps j).mac == (pcg ps k).mac) = false := by simpa using q1
                            have d2 : ((pcg ps j).job == (pcg ps k).job) = true := by rcases q0 with h9 | h9; exact absurd h9.symm q1; simpa using h9.symm
                            clear q1 q0
                            go_wp2
                            go_ret
                            exact ⟨by rw [E.out]; rfl, BA.out _⟩
                      · obtain rfl : j = k := by omega
                        have HGn : Hid (GdTo ls m ps (j + 1)) := HG.out.succ HP1.out (fun x hx => HA.out x hx) (by omega)
                        have HLn : Hid (LdB wr w1.heap.size (sumsV ls ps (j + 1))) := L5.out.below hwr
                        go_wp2
                        go_roundw
                        case rel => exact ⟨j + 1, by omega, by go_num, HGn, HLn, B6⟩
                        case measure => simp [intOf]; omega
    · obtain rfl : k = n2 := by omega
      have HGp : Hid (GdTo ls m ps ps.length) := by rw [hlen2]; exact HG.out
      have HSp : Hid (sumsV ls ps k = sumsV ls ps ps.length) := by rw [hlen2]; rfl
      go_wp2
      go_loopw [14] (fun i wr => ∃ (q : Nat), q ≤ n ∧ i = .int .i64 q ∧ Hid (∀ x, x < q → workOf (jg ls x).id ps = (jg ls x).long) ∧ Below wo.heap.size wo wr) (fun i _ => n - (intOf i).toNat)
      case atStart => exact ⟨0, by omega, rfl, fun x hx => by omega, Below.refl _ _⟩
      case round =>
        obtain ⟨q, hqn, rfl, HW, hwi⟩ := hrel
        rename World => wi
        by_cases hql : q < n
        · obtain ⟨b, off, rfl, hbw, hat⟩ := (h.below (HB.out.then hwi HB.out.size)).at_ (by omega)
          have hi2 := ((hat.job (i := q) (by omega)).2.2.1 : wi.cell? ⟨b, off + q * 7 + 2, none⟩ = some (.int .i64 (jg ls q).long))
          have lc := (HL.out.below hwi).cell (k := q) (by rw [sumsV_len]; omega)
          rw [sumsV_at (by omega), show ps.take k = ps from List.take_of_length_le (by omega)] at lc
          have hql' : (q : Int) < (n : Int) := by omega
          by_cases hc : workOf (jg ls q).id ps = (jg ls q).long
          · have hc' : (workOf (jg ls q).id ps != (jg ls q).long) = false := by simpa using hc
            have HC : Hid _ := hc
            clear hc hat
            go_wp2
            go_quiet (fail)
            go_wp2
            go_roundw
            case rel => exact ⟨q + 1, by omega, by go_num, (fun x hx => by (by_cases e9 : x = q; (subst e9; exact HC.out); exact HW.out x (by omega))), hwi.drewN _⟩
            case measure => simp [intOf]; omega
          · have hc' : (workOf (jg ls q).id ps != (jg ls q).long) = true := by simpa using hc
            have E : Hid (pkB ls m ps = false) := pk_no_work (by omega) hc
            clear hc hat
            go_wp2
            go_quiet (fail)
            go_wp2
            go_ret
            exact ⟨by rw [E.out]; rfl, (HB.out.then hwi HB.out.size).drewN _⟩
        · obtain rfl : q = n := by omega
          have E : Hid (pkB ls m ps = true) := pk_yes hjs hm1 hm2 HGp.out (fun q hq => HW.out q (by omega))
          go_wp2
          go_ret
          exact ⟨by rw [E.out]; rfl, HB.out.then hwi HB.out.size⟩

end Go.Proofs.Ytnndkdonbjeejaa
