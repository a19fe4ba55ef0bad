/- Kept of the model. -/
import Derived.Test.YtmaojjjdepgaeaaTaskS
import Derived.Test.YtmaojjjdepgaeaaInts
import Derived.Deep.QuietTactic
namespace Go.Proofs.Ytmaojjjdepgaeaa
open Go.RowKit Go.Sort

theorem workN_succ (zs : List Int) (id : Int) (k : Nat) : workN zs id (k + 1) = workN zs id k + if zg zs k = id then 1 else 0 := rfl
theorem workN_bd (zs : List Int) (id : Int) : ∀ k, 0 ≤ workN zs id k ∧ workN zs id k ≤ k
  | 0 => by simp [workN, sumN]
  | k + 1 => by
    have := workN_bd zs id k
    rw [workN_succ]
    split <;> omega
/-- how often each has been worked at -/
def sumsK (ls : List Jb) (zs : List Int) (k : Nat) : List Int := ls.map fun j => workN zs j.id k
theorem sumsK_len (ls : List Jb) (zs : List Int) (k : Nat) : (sumsK ls zs k).length = ls.length := by simp [sumsK]
theorem sumsK_at {ls : List Jb} {zs : List Int} {k q : Nat} (hq : q < ls.length) : zg (sumsK ls zs k) q = workN zs (jg ls q).id k := by
  rw [zg_get (by rw [sumsK_len]; exact hq), jg_get hq]; simp [sumsK]
theorem sumsK_0 (ls : List Jb) (zs : List Int) : sumsK ls zs 0 = List.replicate ls.length 0 := by
  apply List.ext_getElem (by simp [sumsK])
  intro i h1 h2
  simp [sumsK, workN, sumN]
theorem sumsK_none {ls : List Jb} {zs : List Int} {k : Nat} (h : TsOk ls) (h0 : zg zs k = 0) : sumsK ls zs (k + 1) = sumsK ls zs k := by
  apply List.ext_getElem (by simp [sumsK])
  intro i h1 h2
  have hi : i < ls.length := by rwa [sumsK_len] at h1
  have hb := h.bd hi
  have := workN_succ zs (jg ls i).id k
  rw [if_neg (by omega), Int.add_zero, jg_get hi] at this
  simpa [sumsK] using this
theorem sumsK_step {ls : List Jb} {zs : List Int} {k q : Nat} (hj : JsOk ls) (hq : q < ls.length) (e : (jg ls q).id = zg zs k) : sumsK ls zs (k + 1) = (sumsK ls zs k).set q (workN zs (jg ls q).id k + 1) := by
  apply List.ext_getElem (by simp [sumsK])
  intro i h1 h2
  have hi : i < ls.length := by rwa [sumsK_len] at h1
  rw [List.getElem_set]
  by_cases c : q = i
  · subst c
    rw [if_pos rfl]
    have := workN_succ zs (jg ls q).id k
    rw [if_pos e.symm] at this
    rw [← this, jg_get hq]; simp [sumsK]
  · rw [if_neg c]
    have hne : zg zs k ≠ (jg ls i).id := fun h => by
      rcases Nat.lt_or_gt_of_ne c with h9 | h9
      · exact (hj.ok i hi).2 q h9 (by rw [e, h])
      · exact (hj.ok q hq).2 i h9 (by rw [e, h])
    have := workN_succ zs (jg ls i).id k
    rw [if_neg hne, Int.add_zero, jg_get hi] at this
    simpa [sumsK] using this
/-- the first k hours are right -/
def Hr (ls : List Jb) (zs : List Int) (t : Nat) : Prop := zg zs t = 0 ∨ ∃ i, i < ls.length ∧ (jg ls i).id = zg zs t ∧ (jg ls i).at_ ≤ t ∧ (t : Int) < (jg ls i).due
theorem kp_no_hr {ls : List Jb} {zs : List Int} {t : Nat} (ht : t < zs.length) (h : ¬ Hr ls zs t) : kpB ls zs = false := kpB_no fun p => h (p.one t ht)
theorem hr_same {ls : List Jb} {zs : List Int} {t y : Nat} (hj : JsOk ls) (h0 : zg zs t ≠ 0) (hy : y < ls.length) (e : (jg ls y).id = zg zs t) (h : Hr ls zs t) : (jg ls y).at_ ≤ t ∧ (t : Int) < (jg ls y).due := by
  rcases h with h | ⟨i, hi, e2, h1, h2⟩
  · exact absurd h h0
  · have : i = y := by
      rcases Nat.lt_trichotomy i y with c | c | c
      · exact absurd (e2.trans e.symm) ((hj.ok y hy).2 i c)
      · exact c
      · exact absurd (e.trans e2.symm) ((hj.ok i hi).2 y c)
    subst this; exact ⟨h1, h2⟩

set_option maxRecDepth 8000 in
set_option maxHeartbeats 4000000 in
theorem specKept_any (a a2 : Option Addr) (n cap n2 cap2 : Nat) (ls : List Jb) (zs : List Int) (w : World) (h : JobS w a n cap ls) (h2 : IntS w a2 n2 cap2 zs) (hn2 : n2 ≤ 1048576) :
    Calls Try.prog 36 #[.slice a n cap, .slice a2 n2 cap2] w fun e w' => e = .returned (.bool (kpB ls zs)) ∧ Below w.heap.size w w' := by
  have hlen := h.len
  have hmx := h.mx
  have hle := h.le
  have hlen2 := h2.len
  have hmx2 := h2.mx
  have hle2 := h2.le
  unfold maxLen at hmx hmx2
  rcases hq : tsB ls with _ | _
  · rw [kpB_no fun p => by have := tsB_mk p.tasks; rw [hq] at this; cases this]
    go_enter Try.func36, Try.ntmps36
    go_wp2_with (go_at_call 40; refine (specTasksOk_any a n cap ls _ h).mono ?_; rw [hq]; rintro e w1 ⟨rfl, hb1⟩)
    go_ret
    exact ⟨rfl, hb1⟩
  have ho := tsB_t hq
  have hjs := ho.jobs
  have hn := ho.n
  have hmk := run_makeM n (by omega)
  have hmo : Try.prog.follows .mixedOrders = true := by kernel_rfl
  go_enter Try.func36, Try.ntmps36
  go_wp2_with (go_at_call 40; refine (specTasksOk_any a n cap ls _ h).mono ?_; rw [hq]; rintro e w1 ⟨rfl, hb1⟩)
  clear hmk
  have bx1 : Below w1.heap.size w1 (w1.alloc (.cells (madeCells #[.int .i64 0] n) 2)) := box_below
  have HL0 : Hid (LdB (w1.alloc (.cells (madeCells #[.int .i64 0] n) 2)) w1.heap.size (sumsK ls zs 0)) := by rw [sumsK_0, hlen]; exact LdB.made w1 n
  have HB0 : Hid _ := hb1.then bx1 hb1.size
  have hws := hb1.size
  clear bx1
  go_loopw [6] (fun i wr => ∃ (k : Nat), k ≤ n2 ∧ i = .int .i64 k ∧ Hid (∀ t, t < k → Hr ls zs t) ∧ Hid (LdB wr w1.heap.size (sumsK ls zs k)) ∧ Hid (Below w.heap.size w wr)) (fun i _ => n2 - (intOf i).toNat)
  case atStart => exact ⟨0, by omega, rfl, fun t ht => by omega, HL0.out, HB0.out⟩
  case round =>
    obtain ⟨k, hk, rfl, HG, HL, HB⟩ := hrel
    rename World => wo
    have zB := HL.out.lt
    by_cases hlt : k < n2
    · obtain ⟨b2, off2, rfl, hbw2, hat2⟩ := (h2.below HB.out).at_ (by omega)
      have hz := hat2 k hlt
      have hlt' : (k : Int) < (n2 : Int) := by omega
      obtain ⟨z, hzz⟩ : ∃ z, z = zg zs k := ⟨_, rfl⟩
      rw [← hzz] at hz
      have HZ : Hid (z = zg zs k) := hzz
      clear hzz
      by_cases h0 : z = 0
      · subst h0
        have HGn : Hid (∀ t, t < k + 1 → Hr ls zs t) := fun t ht => by
          by_cases e : t = k
          · subst e; exact Or.inl HZ.out.symm
          · exact HG.out t (by omega)
        have HLn : Hid (LdB wo w1.heap.size (sumsK ls zs (k + 1))) := by unfold Hid; rw [sumsK_none ho HZ.out.symm]; exact HL.out
        clear hat2
        go_wp2
        go_roundw
        case rel => exact ⟨k + 1, by omega, by go_num, HGn, HLn, HB.out⟩
        case measure => simp [intOf]; omega
      · have h0' : (z == 0) = false := by simpa using h0
        have HH0 : Hid (zg zs k ≠ 0) := by rw [← HZ.out]; exact h0
        clear hat2
        go_wp2
        go_loopw [7, 8] (fun r i wr => ∃ (q : Nat) (t : Int), q ≤ n ∧ i = .int .i64 q ∧ r = .int .i64 t ∧ Hid ((t = -1 ∧ ∀ x, x < q → (jg ls x).id ≠ z) ∨ ∃ y : Nat, t = y ∧ y < q ∧ (jg ls y).id = z) ∧ Below wo.heap.size wo wr) (fun _ i _ => n - (intOf i).toNat)
        case atStart => exact ⟨0, -1, by omega, rfl, rfl, Or.inl ⟨rfl, fun x hx => by omega⟩, Below.refl _ _⟩
        case round =>
          obtain ⟨q, t, hqn, rfl, rfl, HJ, hwi⟩ := hrel
          rename World => wi
          have hzi := (hwi.cell (p := ⟨b2, off2 + k, none⟩) hbw2).trans hz
          by_cases hql : q < n
          · obtain ⟨b, off, rfl, hbw, hat⟩ := (h.below (HB.out.then hwi HB.out.size)).at_ (by omega)
            have hi0 := hat q (by omega) 0 (by omega)
            simp only [jc, Nat.add_zero] at hi0
            have hql' : (q : Int) < (n : Int) := by omega
            by_cases hc : (jg ls q).id = z
            · have hc' : ((jg ls q).id == z) = true := by simpa using hc
              have HC : Hid _ := hc
              clear hc hat
              go_wp2
              go_quiet (fail)
              go_wp2
              go_roundw
              case rel => exact ⟨q + 1, q, by omega, by go_num, rfl, Or.inr ⟨q, rfl, by omega, HC.out⟩, hwi.drewN _⟩
              case measure => simp [intOf]; omega
            · have hc' : ((jg ls q).id == z) = false := by simpa using hc
              have HC : Hid _ := hc
              clear hc hat
              go_wp2
              go_quiet (fail)
              go_wp2
              go_roundw
              case rel => exact ⟨q + 1, t, by omega, by go_num, rfl, (by
                rcases HJ.out with ⟨e, h9⟩ | ⟨y, e, hy, h9⟩
                · exact Or.inl ⟨e, fun x hx => by (by_cases e9 : x = q; (subst e9; exact HC.out); exact h9 x (by omega))⟩
                · exact Or.inr ⟨y, e, by omega, h9⟩), hwi.drewN _⟩
              case measure => simp [intOf]; omega
          · obtain rfl : q = n := by omega
            have HB3 : Hid (Below w.heap.size w wi) := HB.out.then hwi HB.out.size
            have HL3 : Hid (LdB wi w1.heap.size (sumsK ls zs k)) := HL.out.below hwi
            have kz : k < zs.length := by omega
            rcases HJ.out with ⟨rfl, hno⟩ | ⟨y, rfl, hy, hye⟩
            · have E : Hid (kpB ls zs = false) := kp_no_hr kz (fun h9 => by
                rcases h9 with h9 | ⟨i, hi, e, _⟩
                · exact HH0.out h9
                · exact hno i (by omega) (e.trans HZ.out.symm))
              clear hno HJ
              go_wp2
              go_ret
              exact ⟨by rw [E.out]; rfl, HB3.out⟩
            · have hy0 : ¬ (y : Int) < 0 := by omega
              have hyl : y < ls.length := by omega
              have HYE : Hid ((jg ls y).id = zg zs k) := by unfold Hid; rw [hye]; exact HZ.out
              obtain ⟨b, off, rfl, hbw, hat⟩ := (h.below HB3.out).at_ (by omega)
              obtain ⟨hc0, hc1, hc2, hc3, hc4, hc5, hc6⟩ := hat.job (i := y) hyl
              have hyq : (y : Int) < (ls.length : Int) := by omega
              clear HJ hye hat hc0 hc1 hc2 hc4 hc5
              by_cases d1 : (k : Int) < (jg ls y).at_
              · have E : Hid (kpB ls zs = false) := kp_no_hr kz (fun h9 => by have := hr_same hjs HH0.out hyl HYE.out h9; omega)
                go_wp2
                go_ret
                exact ⟨by rw [E.out]; rfl, HB3.out⟩
              · by_cases d2 : (jg ls y).due ≤ (k : Int)
                · have E : Hid (kpB ls zs = false) := kp_no_hr kz (fun h9 => by have := hr_same hjs HH0.out hyl HYE.out h9; omega)
                  go_wp2
                  go_ret
                  exact ⟨by rw [E.out]; rfl, HB3.out⟩
                · have HGn : Hid (∀ t, t < k + 1 → Hr ls zs t) := fun t ht => by
                    by_cases e : t = k
                    · subst e; exact Or.inr ⟨y, hyl, HYE.out, by omega, by omega⟩
                    · exact HG.out t (by omega)
                  have lc := HL3.out.cell (k := y) (by rw [sumsK_len]; omega)
                  have lf := HL3.out.free y
                  have HSV : Hid (zg (sumsK ls zs k) y = workN zs (jg ls y).id k) := sumsK_at hyl
                  have HST : Hid (sumsK ls zs (k + 1) = (sumsK ls zs k).set y (workN zs (jg ls y).id k + 1)) := sumsK_step hjs hyl HYE.out
                  obtain ⟨b0, b1⟩ := workN_bd zs (jg ls y).id k
                  rw [HSV.out] at lc
                  obtain ⟨v, hv⟩ : ∃ v, v = workN zs (jg ls y).id k := ⟨_, rfl⟩
                  rw [← hv] at lc b0 b1
                  have HV : Hid _ := hv
                  clear hv
                  have L5 : Hid (LdB (wi.setCell ⟨w1.heap.size, y, none⟩ (.int .i64 (v + 1))) w1.heap.size (sumsK ls zs (k + 1))) := by
                    have := HL3.out.set y (v + 1)
                    rw [HV.out, ← HST.out] at this
                    rw [HV.out]
                    exact this
                  have B5 : Hid (Below w.heap.size w (wi.setCell ⟨w1.heap.size, y, none⟩ (.int .i64 (v + 1)))) := HB3.out.setCell (by show w.heap.size ≤ w1.heap.size; omega) _
                  clear HST HSV HV
                  go_wp2
                  go_roundw
                  case rel => exact ⟨k + 1, by omega, by go_num, HGn, L5, B5⟩
                  case measure => simp [intOf]; omega
    · obtain rfl : k = n2 := by omega
      have HGp : Hid (∀ t, t < zs.length → Hr ls zs t) := by rw [hlen2]; exact HG.out
      go_wp2
      go_loopw [9] (fun i wr => ∃ (q : Nat), q ≤ n ∧ i = .int .i64 q ∧ Hid (∀ x, x < q → workN zs (jg ls x).id k = (jg ls x).long) ∧ Below wo.heap.size wo wr) (fun i _ => n - (intOf i).toNat)
      case atStart => exact ⟨0, by omega, rfl, fun x hx => by omega, Below.refl _ _⟩
      case round =>
        obtain ⟨q, hqn, rfl, HW, hwi⟩ := hrel
        rename World => wi
        by_cases hql : q < n
        · obtain ⟨b, off, rfl, hbw, hat⟩ := (h.below (HB.out.then hwi HB.out.size)).at_ (by omega)
          have hi2 := ((hat.job (i := q) (by omega)).2.2.1 : wi.cell? ⟨b, off + q * 7 + 2, none⟩ = some (.int .i64 (jg ls q).long))
          have lc := (HL.out.below hwi).cell (k := q) (by rw [sumsK_len]; omega)
          rw [sumsK_at (by omega)] at lc
          have hql' : (q : Int) < (n : Int) := by omega
          by_cases hc : workN zs (jg ls q).id k = (jg ls q).long
          · have hc' : (workN zs (jg ls q).id k != (jg ls q).long) = false := by simpa using hc
            have HC : Hid _ := hc
            clear hc hat
            go_wp2
            go_quiet (fail)
            go_wp2
            go_roundw
            case rel => exact ⟨q + 1, by omega, by go_num, (fun x hx => by (by_cases e9 : x = q; (subst e9; exact HC.out); exact HW.out x (by omega))), hwi.drewN _⟩
            case measure => simp [intOf]; omega
          · have hc' : (workN zs (jg ls q).id k != (jg ls q).long) = true := by simpa using hc
            have E : Hid (kpB ls zs = false) := kpB_no fun p => hc (by have := p.all q (by omega); rwa [hlen2] at this)
            clear hc hat
            go_wp2
            go_quiet (fail)
            go_wp2
            go_ret
            exact ⟨by rw [E.out]; rfl, (HB.out.then hwi HB.out.size).drewN _⟩
        · obtain rfl : q = n := by omega
          have E : Hid (kpB ls zs = true) := kpB_mk ⟨ho, HGp.out, fun i hi => by rw [hlen2]; exact HW.out i (by omega)⟩
          go_wp2
          go_ret
          exact ⟨by rw [E.out]; rfl, HB.out.then hwi HB.out.size⟩

end Go.Proofs.Ytmaojjjdepgaeaa
