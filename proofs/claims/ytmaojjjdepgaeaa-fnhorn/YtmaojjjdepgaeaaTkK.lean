/- Several texts in one. -/
import Derived.Test.YtmaojjjdepgaeaaTaskS
import Derived.Test.YtmaojjjdepgaeaaInts
import Derived.Deep.QuietTactic
import Derived.Test.YtmaojjjdepgaeaaJOk
import Derived.Laws.Rows
import Derived.Laws.ResultCell
import Derived.ChangeKeysEq
import Derived.Laws.StructEq
import Derived.Test.YtmaojjjdepgaeaaTks
import Derived.Deep.RegionHeld3
/- Kept of the model. -/
namespace Go.Proofs.Ytmaojjjdepgaeaa
open Go.RowKit Go.Sort

theorem workN_succ (zs : List Int) (id : Int) (k : Nat) : workN zs id (k + 1) = workN zs id k + if zg zs k = id then 1 else 0 := rfl
theorem workN_bd (zs : List Int) (id : Int) : ∀ k, 0 ≤ workN zs id k ∧ workN zs id k ≤ k
  | 0 => by simp [workN, sumN]
  | k + 1 => by
    have := workN_bd zs id k
    rw [workN_succ]
    split <;> omega
/-- how often each has been worked at -/
def sumsK (ls : List Jb) (zs : List Int) (k : Nat) : List Int := ls.map fun j => workN zs j.id k
theorem sumsK_len (ls : List Jb) (zs : List Int) (k : Nat) : (sumsK ls zs k).length = ls.length := by simp [sumsK]
theorem sumsK_at {ls : List Jb} {zs : List Int} {k q : Nat} (hq : q < ls.length) : zg (sumsK ls zs k) q = workN zs (jg ls q).id k := by
  rw [zg_get (by rw [sumsK_len]; exact hq), jg_get hq]; simp [sumsK]
theorem sumsK_0 (ls : List Jb) (zs : List Int) : sumsK ls zs 0 = List.replicate ls.length 0 := by
  apply List.ext_getElem (by simp [sumsK])
  intro i h1 h2
  simp [sumsK, workN, sumN]
theorem sumsK_none {ls : List Jb} {zs : List Int} {k : Nat} (h : TsOk ls) (h0 : zg zs k = 0) : sumsK ls zs (k + 1) = sumsK ls zs k := by
  apply List.ext_getElem (by simp [sumsK])
  intro i h1 h2
  have hi : i < ls.length := by rwa [sumsK_len] at h1
  have hb := h.bd hi
  have := workN_succ zs (jg ls i).id k
  rw [if_neg (by omega), Int.add_zero, jg_get hi] at this
  simpa [sumsK] using this
theorem sumsK_step {ls : List Jb} {zs : List Int} {k q : Nat} (hj : JsOk ls) (hq : q < ls.length) (e : (jg ls q).id = zg zs k) : sumsK ls zs (k + 1) = (sumsK ls zs k).set q (workN zs (jg ls q).id k + 1) := by
  apply List.ext_getElem (by simp [sumsK])
  intro i h1 h2
  have hi : i < ls.length := by rwa [sumsK_len] at h1
  rw [List.getElem_set]
  by_cases c : q = i
  · subst c
    rw [if_pos rfl]
    have := workN_succ zs (jg ls q).id k
    rw [if_pos e.symm] at this
    rw [← this, jg_get hq]; simp [sumsK]
  · rw [if_neg c]
    have hne : zg zs k ≠ (jg ls i).id := fun h => by
      rcases Nat.lt_or_gt_of_ne c with h9 | h9
      · exact (hj.ok i hi).2 q h9 (by rw [e, h])
      · exact (hj.ok q hq).2 i h9 (by rw [e, h])
    have := workN_succ zs (jg ls i).id k
    rw [if_neg hne, Int.add_zero, jg_get hi] at this
    simpa [sumsK] using this
/-- the first k hours are right -/
def Hr (ls : List Jb) (zs : List Int) (t : Nat) : Prop := zg zs t = 0 ∨ ∃ i, i < ls.length ∧ (jg ls i).id = zg zs t ∧ (jg ls i).at_ ≤ t ∧ (t : Int) < (jg ls i).due
theorem kp_no_hr {ls : List Jb} {zs : List Int} {t : Nat} (ht : t < zs.length) (h : ¬ Hr ls zs t) : kpB ls zs = false := kpB_no fun p => h (p.one t ht)
theorem hr_same {ls : List Jb} {zs : List Int} {t y : Nat} (hj : JsOk ls) (h0 : zg zs t ≠ 0) (hy : y < ls.length) (e : (jg ls y).id = zg zs t) (h : Hr ls zs t) : (jg ls y).at_ ≤ t ∧ (t : Int) < (jg ls y).due := by
  rcases h with h | ⟨i, hi, e2, h1, h2⟩
  · exact absurd h h0
  · have : i = y := by
      rcases Nat.lt_trichotomy i y with c | c | c
      · exact absurd (e2.trans e.symm) ((hj.ok y hy).2 i c)
      · exact c
      · exact absurd (e.trans e2.symm) ((hj.ok i hi).2 y c)
    subst this; exact ⟨h1, h2⟩

set_option maxRecDepth 8000 in
set_option maxHeartbeats 4000000 in
theorem specKept_any (a a2 : Option Addr) (n cap n2 cap2 : Nat) (ls : List Jb) (zs : List Int) (w : World) (h : JobS w a n cap ls) (h2 : IntS w a2 n2 cap2 zs) (hn2 : n2 ≤ 1048576) :
    Calls Try.prog 36 #[.slice a n cap, .slice a2 n2 cap2] w fun e w' => e = .returned (.bool (kpB ls zs)) ∧ Below w.heap.size w w' := by
  have hlen := h.len
  have hmx := h.mx
  have hle := h.le
  have hlen2 := h2.len
  have hmx2 := h2.mx
  have hle2 := h2.le
  unfold maxLen at hmx hmx2
  rcases hq : tsB ls with _ | _
  · rw [kpB_no fun p => by have := tsB_mk p.tasks; rw [hq] at this; cases this]
    go_enter Try.func36, Try.ntmps36
    go_wp2_with (go_at_call 40; refine (specTasksOk_any a n cap ls _ h).mono ?_; rw [hq]; rintro e w1 ⟨rfl, hb1⟩)
    go_ret
    exact ⟨rfl, hb1⟩
  have ho := tsB_t hq
  have hjs := ho.jobs
  have hn := ho.n
  have hmk := run_makeM n (by omega)
  have hmo : Try.prog.follows .mixedOrders = true := by kernel_rfl
  go_enter Try.func36, Try.ntmps36
  go_wp2_with (go_at_call 40; refine (specTasksOk_any a n cap ls _ h).mono ?_; rw [hq]; rintro e w1 ⟨rfl, hb1⟩)
  clear hmk
  have bx1 : Below w1.heap.size w1 (w1.alloc (.cells (madeCells #[.int .i64 0] n) 2)) := box_below
  have HL0 : Hid (LdB (w1.alloc (.cells (madeCells #[.int .i64 0] n) 2)) w1.heap.size (sumsK ls zs 0)) := by rw [sumsK_0, hlen]; exact LdB.made w1 n
  have HB0 : Hid _ := hb1.then bx1 hb1.size
  have hws := hb1.size
  clear bx1
  go_loopw [6] (fun i wr => ∃ (k : Nat), k ≤ n2 ∧ i = .int .i64 k ∧ Hid (∀ t, t < k → Hr ls zs t) ∧ Hid (LdB wr w1.heap.size (sumsK ls zs k)) ∧ Hid (Below w.heap.size w wr)) (fun i _ => n2 - (intOf i).toNat)
  case atStart => exact ⟨0, by omega, rfl, fun t ht => by omega, HL0.out, HB0.out⟩
  case round =>
    obtain ⟨k, hk, rfl, HG, HL, HB⟩ := hrel
    rename World => wo
    have zB := HL.out.lt
    by_cases hlt : k < n2
    · obtain ⟨b2, off2, rfl, hbw2, hat2⟩ := (h2.below HB.out).at_ (by omega)
      have hz := hat2 k hlt
      have hlt' : (k : Int) < (n2 : Int) := by omega
      obtain ⟨z, hzz⟩ : ∃ z, z = zg zs k := ⟨_, rfl⟩
      rw [← hzz] at hz
      have HZ : Hid (z = zg zs k) := hzz
      clear hzz
      by_cases h0 : z = 0
      · subst h0
        have HGn : Hid (∀ t, t < k + 1 → Hr ls zs t) := fun t ht => by
          by_cases e : t = k
          · subst e; exact Or.inl HZ.out.symm
          · exact HG.out t (by omega)
        have HLn : Hid (LdB wo w1.heap.size (sumsK ls zs (k + 1))) := by unfold Hid; rw [sumsK_none ho HZ.out.symm]; exact HL.out
        clear hat2
        go_wp2
        go_roundw
        case rel => exact ⟨k + 1, by omega, by go_num, HGn, HLn, HB.out⟩
        case measure => simp [intOf]; omega
      · have h0' : (z == 0) = false := by simpa using h0
        have HH0 : Hid (zg zs k ≠ 0) := by rw [← HZ.out]; exact h0
        clear hat2
        go_wp2
        go_loopw [7, 8] (fun r i wr => ∃ (q : Nat) (t : Int), q ≤ n ∧ i = .int .i64 q ∧ r = .int .i64 t ∧ Hid ((t = -1 ∧ ∀ x, x < q → (jg ls x).id ≠ z) ∨ ∃ y : Nat, t = y ∧ y < q ∧ (jg ls y).id = z) ∧ Below wo.heap.size wo wr) (fun _ i _ => n - (intOf i).toNat)
        case atStart => exact ⟨0, -1, by omega, rfl, rfl, Or.inl ⟨rfl, fun x hx => by omega⟩, Below.refl _ _⟩
        case round =>
          obtain ⟨q, t, hqn, rfl, rfl, HJ, hwi⟩ := hrel
          rename World => wi
          have hzi := (hwi.cell (p := ⟨b2, off2 + k, none⟩) hbw2).trans hz
          by_cases hql : q < n
          · obtain ⟨b, off, rfl, hbw, hat⟩ := (h.below (HB.out.then hwi HB.out.size)).at_ (by omega)
            have hi0 := hat q (by omega) 0 (by omega)
            simp only [jc, Nat.add_zero] at hi0
            have hql' : (q : Int) < (n : Int) := by omega
            by_cases hc : (jg ls q).id = z
            · have hc' : ((jg ls q).id == z) = true := by simpa using hc
              have HC : Hid _ := hc
              clear hc hat
              go_wp2
              go_quiet (fail)
              go_wp2
              go_roundw
              case rel => exact ⟨q + 1, q, by omega, by go_num, rfl, Or.inr ⟨q, rfl, by omega, HC.out⟩, hwi.drewN _⟩
              case measure => simp [intOf]; omega
            · have hc' : ((jg ls q).id == z) = false := by simpa using hc
              have HC : Hid _ := hc
              clear hc hat
              go_wp2
              go_quiet (fail)
              go_wp2
              go_roundw
              case rel => exact ⟨q + 1, t, by omega, by go_num, rfl, (by
                rcases HJ.out with ⟨e, h9⟩ | ⟨y, e, hy, h9⟩
                · exact Or.inl ⟨e, fun x hx => by (by_cases e9 : x = q; (subst e9; exact HC.out); exact h9 x (by omega))⟩
                · exact Or.inr ⟨y, e, by omega, h9⟩), hwi.drewN _⟩
              case measure => simp [intOf]; omega
          · obtain rfl : q = n := by omega
            have HB3 : Hid (Below w.heap.size w wi) := HB.out.then hwi HB.out.size
            have HL3 : Hid (LdB wi w1.heap.size (sumsK ls zs k)) := HL.out.below hwi
            have kz : k < zs.length := by omega
            rcases HJ.out with ⟨rfl, hno⟩ | ⟨y, rfl, hy, hye⟩
            · have E : Hid (kpB ls zs = false) := kp_no_hr kz (fun h9 => by
                rcases h9 with h9 | ⟨i, hi, e, _⟩
                · exact HH0.out h9
                · exact hno i (by omega) (e.trans HZ.out.symm))
              clear hno HJ
              go_wp2
              go_ret
              exact ⟨by rw [E.out]; rfl, HB3.out⟩
            · have hy0 : ¬ (y : Int) < 0 := by omega
              have hyl : y < ls.length := by omega
              have HYE : Hid ((jg ls y).id = zg zs k) := by unfold Hid; rw [hye]; exact HZ.out
              obtain ⟨b, off, rfl, hbw, hat⟩ := (h.below HB3.out).at_ (by omega)
              obtain ⟨hc0, hc1, hc2, hc3, hc4, hc5, hc6⟩ := hat.job (i := y) hyl
              have hyq : (y : Int) < (ls.length : Int) := by omega
              clear HJ hye hat hc0 hc1 hc2 hc4 hc5
              by_cases d1 : (k : Int) < (jg ls y).at_
              · have E : Hid (kpB ls zs = false) := kp_no_hr kz (fun h9 => by have := hr_same hjs HH0.out hyl HYE.out h9; omega)
                go_wp2
                go_ret
                exact ⟨by rw [E.out]; rfl, HB3.out⟩
              · by_cases d2 : (jg ls y).due ≤ (k : Int)
                · have E : Hid (kpB ls zs = false) := kp_no_hr kz (fun h9 => by have := hr_same hjs HH0.out hyl HYE.out h9; omega)
                  go_wp2
                  go_ret
                  exact ⟨by rw [E.out]; rfl, HB3.out⟩
                · have HGn : Hid (∀ t, t < k + 1 → Hr ls zs t) := fun t ht => by
                    by_cases e : t = k
                    · subst e; exact Or.inr ⟨y, hyl, HYE.out, by omega, by omega⟩
                    · exact HG.out t (by omega)
                  have lc := HL3.out.cell (k := y) (by rw [sumsK_len]; omega)
                  have lf := HL3.out.free y
                  have HSV : Hid (zg (sumsK ls zs k) y = workN zs (jg ls y).id k) := sumsK_at hyl
                  have HST : Hid (sumsK ls zs (k + 1) = (sumsK ls zs k).set y (workN zs (jg ls y).id k + 1)) := sumsK_step hjs hyl HYE.out
                  obtain ⟨b0, b1⟩ := workN_bd zs (jg ls y).id k
                  rw [HSV.out] at lc
                  obtain ⟨v, hv⟩ : ∃ v, v = workN zs (jg ls y).id k := ⟨_, rfl⟩
                  rw [← hv] at lc b0 b1
                  have HV : Hid _ := hv
                  clear hv
                  have L5 : Hid (LdB (wi.setCell ⟨w1.heap.size, y, none⟩ (.int .i64 (v + 1))) w1.heap.size (sumsK ls zs (k + 1))) := by
                    have := HL3.out.set y (v + 1)
                    rw [HV.out, ← HST.out] at this
                    rw [HV.out]
                    exact this
                  have B5 : Hid (Below w.heap.size w (wi.setCell ⟨w1.heap.size, y, none⟩ (.int .i64 (v + 1)))) := HB3.out.setCell (by show w.heap.size ≤ w1.heap.size; omega) _
                  clear HST HSV HV
                  go_wp2
                  go_roundw
                  case rel => exact ⟨k + 1, by omega, by go_num, HGn, L5, B5⟩
                  case measure => simp [intOf]; omega
    · obtain rfl : k = n2 := by omega
      have HGp : Hid (∀ t, t < zs.length → Hr ls zs t) := by rw [hlen2]; exact HG.out
      go_wp2
      go_loopw [9] (fun i wr => ∃ (q : Nat), q ≤ n ∧ i = .int .i64 q ∧ Hid (∀ x, x < q → workN zs (jg ls x).id k = (jg ls x).long) ∧ Below wo.heap.size wo wr) (fun i _ => n - (intOf i).toNat)
      case atStart => exact ⟨0, by omega, rfl, fun x hx => by omega, Below.refl _ _⟩
      case round =>
        obtain ⟨q, hqn, rfl, HW, hwi⟩ := hrel
        rename World => wi
        by_cases hql : q < n
        · obtain ⟨b, off, rfl, hbw, hat⟩ := (h.below (HB.out.then hwi HB.out.size)).at_ (by omega)
          have hi2 := ((hat.job (i := q) (by omega)).2.2.1 : wi.cell? ⟨b, off + q * 7 + 2, none⟩ = some (.int .i64 (jg ls q).long))
          have lc := (HL.out.below hwi).cell (k := q) (by rw [sumsK_len]; omega)
          rw [sumsK_at (by omega)] at lc
          have hql' : (q : Int) < (n : Int) := by omega
          by_cases hc : workN zs (jg ls q).id k = (jg ls q).long
          · have hc' : (workN zs (jg ls q).id k != (jg ls q).long) = false := by simpa using hc
            have HC : Hid _ := hc
            clear hc hat
            go_wp2
            go_quiet (fail)
            go_wp2
            go_roundw
            case rel => exact ⟨q + 1, by omega, by go_num, (fun x hx => by (by_cases e9 : x = q; (subst e9; exact HC.out); exact HW.out x (by omega))), hwi.drewN _⟩
            case measure => simp [intOf]; omega
          · have hc' : (workN zs (jg ls q).id k != (jg ls q).long) = true := by simpa using hc
            have E : Hid (kpB ls zs = false) := kpB_no fun p => hc (by have := p.all q (by omega); rwa [hlen2] at this)
            clear hc hat
            go_wp2
            go_quiet (fail)
            go_wp2
            go_ret
            exact ⟨by rw [E.out]; rfl, (HB.out.then hwi HB.out.size).drewN _⟩
        · obtain rfl : q = n := by omega
          have E : Hid (kpB ls zs = true) := kpB_mk ⟨ho, HGp.out, fun i hi => by rw [hlen2]; exact HW.out i (by omega)⟩
          go_wp2
          go_ret
          exact ⟨by rw [E.out]; rfl, HB.out.then hwi HB.out.size⟩

end Go.Proofs.Ytmaojjjdepgaeaa

/- Lines: arrays of forty numbers, loaded, stored and compared whole; lineOfJobs of the program. -/
namespace Go.Proofs.Ytmaojjjdepgaeaa
open Go.RowKit

/-- numbers as cells -/
def ar (zs : List Int) : Array Value := (zs.map (Value.int .i64)).toArray
theorem ar_size (zs : List Int) : (ar zs).size = zs.length := by simp [ar]
theorem ar_one (zs : List Int) : (ar zs).all (·.oneCell') = true := by
  rw [Array.all_eq_true_iff_forall_mem]
  intro v hv
  obtain ⟨z, _, rfl⟩ := List.mem_map.1 (show v ∈ zs.map (Value.int .i64) by simpa [ar] using hv)
  rfl
theorem ar_at {zs : List Int} {k : Nat} (hk : k < zs.length) : (ar zs)[k]? = some (.int .i64 (zg zs k)) := by simp [ar, zg, hk]
theorem ar_set {zs : List Int} {k : Nat} {v : Int} : (ar zs).setIfInBounds k (.int .i64 v) = ar (zs.set k v) := by
  apply Array.ext_getElem?
  intro i
  simp only [ar, Array.getElem?_setIfInBounds, List.getElem?_toArray, List.getElem?_map, List.getElem?_set, List.size_toArray, List.length_map]
  by_cases e : k = i
  · subst e; simp only [if_true]; split <;> simp
  · simp [e]
/-- block B is a line -/
def LnB (w : World) (B : Nat) (zs : List Int) : Prop := w.heap[B]? = some (.cells (ar zs) 89 (0, 0)) ∧ zs.length = 40
theorem LnB.cell {w : World} {B : Nat} {zs : List Int} (h : LnB w B zs) {k : Nat} (hk : k < 40) : w.cell? ⟨B, k, none⟩ = some (.int .i64 (zg zs k)) := by
  rw [cell_of_row _ _ _ _ _ _ h.1]; exact ar_at (by rw [h.2]; exact hk)
theorem LnB.free {w : World} {B : Nat} {zs : List Int} (h : LnB w B zs) (k : Nat) : w.frozen? ⟨B, k, none⟩ = false := free_of_blk k h.1
theorem LnB.lt {w : World} {B : Nat} {zs : List Int} (h : LnB w B zs) : B < w.heap.size := (Array.getElem?_eq_some_iff.1 h.1).1
theorem LnB.set {w : World} {B : Nat} {zs : List Int} (h : LnB w B zs) (k : Nat) (v : Int) : LnB (w.setCell ⟨B, k, none⟩ (.int .i64 v)) B (zs.set k v) :=
  ⟨by rw [← ar_set]; exact blk_set (j := k) h.1 _, by rw [List.length_set]; exact h.2⟩
theorem LnB.keep {w w' : World} {B : Nat} {zs : List Int} (h : LnB w B zs) (hb : w'.heap[B]? = w.heap[B]?) : LnB w' B zs := ⟨hb.trans h.1, h.2⟩
theorem LnB.below {w w' : World} {B : Nat} {zs : List Int} (h : LnB w B zs) (hb : Below w.heap.size w w') : LnB w' B zs := h.keep (hb.block B h.lt)
theorem sizedLn : (Try.prog.info? 89).map (·.size) = some 40 := by kernel_rfl

theorem eqItems_ints (d : Nat) (w : World) : ∀ (is : List Nat) (xs ys : List Int), (∀ i ∈ is, i < xs.length ∧ i < ys.length) →
    (Op.eqItems (d + 1) 2 (Try.prog.cellsOf 2) (ar xs) (ar ys) is).run Try.prog w = .ok (is.all fun i => zg xs i == zg ys i) w
  | [], _, _, _ => by simp [Op.eqItems]
  | i :: is, xs, ys, h => by
    have ih := eqItems_ints d w is xs ys fun j hj => h j (List.mem_cons_of_mem _ hj)
    obtain ⟨h1, h2⟩ := h i List.mem_cons_self
    have ec : Try.prog.cellsOf 2 = 1 := by kernel_rfl
    have hp : Try.prog.plainKey 2 = true := by kernel_rfl
    have px : (part 2 (ar xs) (i * 1)).run Try.prog w = .ok (.int .i64 (zg xs i)) w := run_part_plain w hp (by rw [Nat.mul_one]; exact ar_at h1)
    have py : (part 2 (ar ys) (i * 1)).run Try.prog w = .ok (.int .i64 (zg ys i)) w := run_part_plain w hp (by rw [Nat.mul_one]; exact ar_at h2)
    rw [ec] at ih ⊢
    simp only [Op.eqItems, Sem.run_bind, px, py, Result.andThen_ok, run_equalIn_int (P := Try.prog) w d 2 .i64 .i64 _ _ Try.underlying2]
    rcases hb : (zg xs i == zg ys i) with _ | _
    · simp [hb]
    · simp [hb, ih]

/-- lines are alike where each number is -/
def eqL (xs ys : List Int) : Bool := (List.range 40).all fun i => zg xs i == zg ys i
theorem eqL_iff {xs ys : List Int} : eqL xs ys = true ↔ ∀ i, i < 40 → zg xs i = zg ys i := by unfold eqL; simp
theorem run_eqLine (w : World) (d : Nat) (xs ys : List Int) (hx : xs.length = 40) (hy : ys.length = 40) : (Op.equalIn (d + 2) 89 (.agg (ar xs)) (.agg (ar ys))).run Try.prog w = .ok (eqL xs ys) w := by
  obtain ⟨i1, hi, _⟩ := info_parts infoI
  rw [run_equalIn_array (P := Try.prog) w (d + 1) (ar xs) (ar ys) Try.underlying89 hi]
  exact eqItems_ints d w (List.range 40) xs ys fun i hi => by have := List.mem_range.1 hi; omega

/-- what the jobs ask for, the first k -/
def lnJ (ls : List Jb) (k : Nat) : List Int := (List.range 40).map fun i => if i < k then (jg ls i).long else 0
theorem lnJ_len (ls : List Jb) (k : Nat) : (lnJ ls k).length = 40 := by simp [lnJ]
theorem lnJ_at {ls : List Jb} {k i : Nat} (hi : i < 40) : zg (lnJ ls k) i = if i < k then (jg ls i).long else 0 := by simp [zg, lnJ, hi]
theorem lnJ_set (ls : List Jb) (k : Nat) : (lnJ ls k).set k (jg ls k).long = lnJ ls (k + 1) := by
  apply List.ext_getElem (by simp [lnJ])
  intro i h1 h2
  rw [List.getElem_set]
  simp only [lnJ, List.getElem_map, List.getElem_range]
  by_cases e : k = i
  · subst e; simp
  · rw [if_neg e]; by_cases h : i < k <;> simp [h, show (i < k + 1) ↔ (i < k) by omega]
def z40 : List Int := List.replicate 40 0
theorem z40_len : z40.length = 40 := rfl
theorem ar_z40 : (#[.int .i64 0, .int .i64 0, .int .i64 0, .int .i64 0, .int .i64 0, .int .i64 0, .int .i64 0, .int .i64 0, .int .i64 0, .int .i64 0, .int .i64 0, .int .i64 0, .int .i64 0, .int .i64 0, .int .i64 0, .int .i64 0, .int .i64 0, .int .i64 0, .int .i64 0, .int .i64 0, .int .i64 0, .int .i64 0, .int .i64 0, .int .i64 0, .int .i64 0, .int .i64 0, .int .i64 0, .int .i64 0, .int .i64 0, .int .i64 0, .int .i64 0, .int .i64 0, .int .i64 0, .int .i64 0, .int .i64 0, .int .i64 0, .int .i64 0, .int .i64 0, .int .i64 0, .int .i64 0] : Array Value) = ar z40 := rfl
theorem lnJ_0 (ls : List Jb) : lnJ ls 0 = z40 := by
  have e : ∀ i ∈ List.range 40, (if i < 0 then (jg ls i).long else 0) = (fun _ => (0 : Int)) i := fun i _ => by simp
  unfold lnJ
  rw [List.map_congr_left e]
  rfl
theorem heap_old (w : World) (o : Obj) (B : Nat) (h : B < w.heap.size) : (w.alloc o).heap[B]? = w.heap[B]? := Below.heap_alloc _ _ _ h
theorem heap_new (w : World) (o : Obj) : (w.alloc o).heap[w.heap.size]? = some o := by
  show (w.heap.push o)[w.heap.size]? = some o
  simp

theorem setRow_below {B g : Nat} {w0 w : World} (h : Below B w0 w) (hg : B ≤ g) (c : Array Value) : Below B w0 (w.setRow g c) :=
  ⟨h.os, h.tape, h.output, by simpa [World.setRow] using h.size, fun k hk => (setRow_other w g k _ (by omega)).trans (h.block k hk)⟩

set_option maxRecDepth 8000 in
set_option maxHeartbeats 2000000 in
theorem lineOfJobs_any (a : Option Addr) (n cap : Nat) (ls : List Jb) (w : World) (h : JobS w a n cap ls) (hn : n ≤ 40) :
    Calls Try.prog 86 #[.slice a n cap] w fun e w' => e = .returned (.agg (ar (lnJ ls n))) ∧ Below w.heap.size w w' := by
  have hlen := h.len
  have hm := h.mx
  have hle := h.le
  unfold maxLen at hm
  go_enter Try.func86, Try.ntmps86
  go_wp2
  rw [ar_z40]
  obtain ⟨W0, hW0⟩ : ∃ W0, W0 = (w.alloc (.cells (ar z40) 89)).alloc (.cells (ar z40) 89) := ⟨_, rfl⟩
  have B0 : Below w.heap.size w W0 := by rw [hW0]; exact ((Below.refl _ _).alloc (Nat.le_refl _) _).alloc (by simp) _
  have L0 : LnB W0 w.heap.size z40 := by rw [hW0]; exact ⟨(heap_old _ _ _ (by simp)).trans (heap_new _ _), rfl⟩
  have L1 : LnB W0 (w.heap.size + 1) (lnJ ls 0) := by
    rw [hW0, lnJ_0]
    have := heap_new (w.alloc (.cells (ar z40) 89)) (.cells (ar z40) 89)
    rw [show (w.alloc (.cells (ar z40) 89)).heap.size = w.heap.size + 1 by simp] at this
    exact ⟨this, rfl⟩
  rw [← hW0]
  clear hW0
  go_loopw [4, 5, 8] (fun _ _ i wr => ∃ k : Nat, k ≤ n ∧ i = .int .i64 k ∧ Hid (LnB wr w.heap.size z40) ∧ Hid (LnB wr (w.heap.size + 1) (lnJ ls k)) ∧ Below w.heap.size w wr) (fun _ _ i _ => n - (intOf i).toNat)
  case atStart => exact ⟨0, by omega, rfl, L0, L1, B0⟩
  case round =>
    obtain ⟨k, hk, rfl, HA, HB, hw⟩ := hrel
    rename World => wr
    by_cases hlt : k < n
    · obtain ⟨b, off, rfl, hbw, hat⟩ := h.at_ (by omega)
      obtain ⟨hc0, hc1, hc2, hc3, hc4, hc5, hc6⟩ := (hat.below hw hbw).job (i := k) (by omega)
      have hlt' : (k : Int) < (n : Int) := by omega
      have hk40 : (k : Int) < 40 := by omega
      have hz := HB.out.lt
      have cl := HB.out.cell (k := k) (by omega)
      have fr := HB.out.free k
      obtain ⟨W2, hW2⟩ : ∃ W2, W2 = (wr.setCell ⟨w.heap.size + 1, k, none⟩ (.int .i64 (jg ls k).long)).alloc (.cells #[.int .i64 (jg ls k).id, .int .i64 (jg ls k).cores, .int .i64 (jg ls k).long, .int .i64 (jg ls k).due, .int .i64 (jg ls k).wt, .int .i64 (jg ls k).rank, .int .i64 (jg ls k).at_] 49) := ⟨_, rfl⟩
      have z1 : (wr.setCell ⟨w.heap.size + 1, k, none⟩ (.int .i64 (jg ls k).long)).heap.size = wr.heap.size := by simp [World.setCell]
      have HS : Hid (LnB W2 (w.heap.size + 1) (lnJ ls (k + 1))) := by
        have := HB.out.set k (jg ls k).long
        rw [lnJ_set] at this
        rw [hW2]; exact this.keep (heap_old _ _ _ (by rw [z1]; exact hz))
      have HT : Hid (LnB W2 w.heap.size z40) := by
        rw [hW2]; exact HA.out.keep ((heap_old _ _ _ (by rw [z1]; omega)).trans (Below.heap_setCell _ _ _ _ (by simp)))
      have HU : Hid (Below w.heap.size w W2) := by rw [hW2]; exact (hw.setCell (by simp) _).alloc (by rw [z1]; exact hw.size) _
      clear z1
      go_wp2
      rw [← hW2]
      go_roundw
      case rel => exact ⟨k + 1, by omega, by go_num, HT, HS, HU.out⟩
      case measure => simp [intOf]; omega
    · obtain rfl : k = n := by omega
      have sz : (Try.prog.info? 89).map (·.size) = some (ar (lnJ ls k)).size := by rw [ar_size, lnJ_len]; exact sizedLn
      have sz0 : (ar z40).size = (ar (lnJ ls k)).size := by rw [ar_size, ar_size, lnJ_len]; rfl
      go_wp2_with (first
        | (refine wpList_load_row rfl 89 (.tmp 3) rfl (w.heap.size + 1) rfl 89 (ar (lnJ ls k)) (0, 0) _ HB.out.1 Try.underlying89 rfl sz ?_)
        | (refine wpList_plain rfl fun _ hK => wp_store_row 89 (.tmp 2) (.tmp 18) rfl w.heap.size (ar (lnJ ls k)) rfl rfl 89 (ar z40) HA.out.1 sz sz0 (ar_one _) (hK _ _ ?_)))
      refine bodyPost_ret (v := .agg (ar (lnJ ls k))) (results_cell_row rfl _ _ w.heap.size 89 (ar (lnJ ls k)) (0, 0) _ rfl (setRow_heap wr w.heap.size _ _ _ _ HA.out.1) Try.underlying89 rfl sz) rfl ⟨rfl, setRow_below hw (Nat.le_refl _) _⟩
end Go.Proofs.Ytmaojjjdepgaeaa

/- Kept of the program. -/
namespace Go.Proofs.Ytmaojjjdepgaeaa
open Go.RowKit Go.Sort

/-- how often each has been worked at, as a line -/
def lnW (ls : List Jb) (zs : List Int) (k : Nat) : List Int := (List.range 40).map fun i => if i < ls.length then workN zs (jg ls i).id k else 0
theorem lnW_len (ls : List Jb) (zs : List Int) (k : Nat) : (lnW ls zs k).length = 40 := by simp [lnW]
theorem lnW_at {ls : List Jb} {zs : List Int} {k i : Nat} (hi : i < 40) : zg (lnW ls zs k) i = if i < ls.length then workN zs (jg ls i).id k else 0 := by simp [zg, lnW, hi]
theorem lnW_0 (ls : List Jb) (zs : List Int) : lnW ls zs 0 = z40 := by
  have e : ∀ i ∈ List.range 40, (if i < ls.length then workN zs (jg ls i).id 0 else 0) = (fun _ => (0 : Int)) i := fun i _ => by simp [workN, sumN]
  unfold lnW
  rw [List.map_congr_left e]
  rfl
theorem lnW_none {ls : List Jb} {zs : List Int} {k : Nat} (h : TsOk ls) (h0 : zg zs k = 0) : lnW ls zs (k + 1) = lnW ls zs k := by
  unfold lnW
  apply List.map_congr_left
  intro i _
  by_cases hi : i < ls.length
  · have hb := h.bd hi
    rw [if_pos hi, if_pos hi, workN_succ, if_neg (by omega), Int.add_zero]
  · rw [if_neg hi, if_neg hi]
theorem lnW_step {ls : List Jb} {zs : List Int} {k q : Nat} (hj : JsOk ls) (hq : q < ls.length) (e : (jg ls q).id = zg zs k) : lnW ls zs (k + 1) = (lnW ls zs k).set q (workN zs (jg ls q).id k + 1) := by
  apply List.ext_getElem (by simp [lnW])
  intro i h1 h2
  rw [List.getElem_set]
  simp only [lnW, List.getElem_map, List.getElem_range]
  by_cases c : q = i
  · subst c
    rw [if_pos rfl, if_pos hq, workN_succ, if_pos e.symm]
  · rw [if_neg c]
    by_cases hi : i < ls.length
    · have hne : zg zs k ≠ (jg ls i).id := fun h => by
        rcases Nat.lt_or_gt_of_ne c with h9 | h9
        · exact (hj.ok i hi).2 q h9 (by rw [e, h])
        · exact (hj.ok q hq).2 i h9 (by rw [e, h])
      rw [if_pos hi, if_pos hi, workN_succ, if_neg hne, Int.add_zero]
    · rw [if_neg hi, if_neg hi]
theorem eqL_all {ls : List Jb} {zs : List Int} (ho : TsOk ls) (h : ∀ t, t < zs.length → Hr ls zs t) : kpB ls zs = eqL (lnW ls zs zs.length) (lnJ ls ls.length) := by
  have hn := ho.n
  rcases he : eqL (lnW ls zs zs.length) (lnJ ls ls.length) with _ | _
  · refine kpB_no fun p => ?_
    have : eqL (lnW ls zs zs.length) (lnJ ls ls.length) = true := eqL_iff.2 fun i hi => by
      rw [lnW_at hi, lnJ_at hi]
      by_cases c : i < ls.length
      · rw [if_pos c, if_pos c]; exact p.all i c
      · rw [if_neg c, if_neg c]
    rw [he] at this; cases this
  · refine kpB_mk ⟨ho, h, fun i hi => ?_⟩
    have := eqL_iff.1 he i (by omega)
    rwa [lnW_at (by omega), lnJ_at (by omega), if_pos hi, if_pos hi] at this

theorem kp_in {a : Int} (h1 : -9223372036854775808 ≤ a) (h2 : a ≤ 9223372036854775807) : wrap64 a = a := by unfold wrap64; omega
theorem kp_wrap (a : Int) : IntKind.i64.wrap a = wrap64 a := by
  show (if (true && decide (a % 2 ^ 64 ≥ 2 ^ 63)) = true then a % 2 ^ 64 - 2 ^ 64 else a % 2 ^ 64) = wrap64 a
  unfold wrap64
  by_cases h : a % 2 ^ 64 ≥ 2 ^ 63
  · rw [if_pos (by simpa using h)]; omega
  · rw [if_neg (by simpa using h)]; omega

set_option maxRecDepth 8000 in
set_option maxHeartbeats 4000000 in
theorem implKept_any (a a2 : Option Addr) (n cap n2 cap2 : Nat) (ls : List Jb) (zs : List Int) (w : World) (h : JobS w a n cap ls) (h2 : IntS w a2 n2 cap2 zs) (hn2 : n2 ≤ 1048576) :
    Calls Try.prog 35 #[.slice a n cap, .slice a2 n2 cap2] w fun e w' => e = .returned (.bool (kpB ls zs)) ∧ Below w.heap.size w w' := by
  have hlen := h.len
  have hle := h.le
  have hlen2 := h2.len
  rcases hq : tsB ls with _ | _
  · rw [kpB_no fun p => by have := tsB_mk p.tasks; rw [hq] at this; cases this]
    go_enter Try.func35, Try.ntmps35
    go_wp2_with (go_at_call 39; refine (implTasksOk_any a n cap ls _ h).mono ?_; rw [hq]; rintro e w1 ⟨rfl, hb1⟩)
    go_ret
    exact ⟨rfl, hb1⟩
  have ho := tsB_t hq
  have hn := ho.n
  have hjs := ho.jobs
  have hmo : Try.prog.follows .mixedOrders = true := by kernel_rfl
  obtain ⟨R, hR⟩ : ∃ R, R = kpB ls zs := ⟨_, rfl⟩
  rw [← hR]
  have HR : Hid (R = kpB ls zs) := hR
  clear hR
  go_enter Try.func35, Try.ntmps35
  go_wp2_with (go_at_call 39; refine (implTasksOk_any a n cap ls _ h).mono ?_; rw [hq]; rintro e w1 ⟨rfl, hb1⟩)
  rw [ar_z40]
  obtain ⟨W0, hW0⟩ : ∃ W0, W0 = w1.alloc (.cells (ar z40) 89) := ⟨_, rfl⟩
  have B0 : Below w.heap.size w W0 := by rw [hW0]; exact hb1.alloc hb1.size _
  have L0 : LnB W0 w1.heap.size (lnW ls zs 0) := by rw [hW0, lnW_0]; exact ⟨heap_new _ _, rfl⟩
  have z1 := hb1.size
  rw [← hW0]
  clear hW0
  go_loopw [6, 7, 8, 14] (fun _ _ _ i wr => ∃ k : Nat, k ≤ n2 ∧ i = .int .i64 k ∧ Hid (∀ t, t < k → Hr ls zs t) ∧ Hid (LnB wr w1.heap.size (lnW ls zs k)) ∧ Below w.heap.size w wr) (fun _ _ _ i _ => n2 - (intOf i).toNat)
  case atStart => exact ⟨0, by omega, rfl, fun t ht => by omega, L0, B0⟩
  case round =>
    obtain ⟨k, hk, rfl, HA, HL, hw⟩ := hrel
    rename World => wr
    by_cases hlt : k < n2
    · have hlt' : (k : Int) < (n2 : Int) := by omega
      have h2r := h2.below hw
      obtain ⟨b2, off2, rfl, hbw2, hat2⟩ := h2r.at_ (by omega)
      have hz := hat2 k hlt
      have HNH : Hid (¬ Hr ls zs k → R = false) := fun hx => HR.out.trans (kp_no_hr (by omega) hx)
      by_cases c0 : zg zs k = 0
      · have c0' : (zg zs k == 0) = true := by simpa using c0
        have HA2 : Hid (∀ t, t < k + 1 → Hr ls zs t) := fun t ht => by
          by_cases e : t = k
          · subst e; exact Or.inl c0
          · exact HA.out t (by omega)
        have HL2 : Hid (LnB wr w1.heap.size (lnW ls zs (k + 1))) := by unfold Hid; rw [lnW_none ho c0]; exact HL.out
        clear c0
        go_wp2
        go_roundw
        case rel => exact ⟨k + 1, by omega, by go_num, HA2, HL2, hw⟩
        case measure => simp [intOf]; omega
      · have c0' : (zg zs k == 0) = false := by simpa using c0
        have C0 : Hid (zg zs k ≠ 0) := c0
        clear c0
        go_wp2_with fail
        refine (numberOf_any a n cap ls (zg zs k) wr (h.below hw)).mono ?_
        rintro e w3 ⟨r, rfl, hr, hg3⟩
        have b3 : Below wr.heap.size wr w3 := GrS.below hg3
        clear hg3
        have U3 := hw.then b3 hw.size
        have LA3 : Hid (LnB w3 w1.heap.size (lnW ls zs k)) := HL.out.below b3
        rcases hr with ⟨rfl, hr⟩ | ⟨i, rfl, hin, hie, _⟩
        · have E : Hid (R = false) := HNH.out (fun hx => by
            rcases hx with hx | ⟨i, hi, e, _⟩
            · exact C0.out hx
            · exact hr i (by omega) e)
          clear hr
          go_wp2
          go_quiet (fail)
          go_wp2
          go_ret
          exact ⟨by rw [E.out]; rfl, by first | exact U3 | exact U3.drew | exact U3.drewN _⟩
        · obtain ⟨b, off, rfl, hbw, hat⟩ := h.at_ (by omega)
          obtain ⟨hc0, hc1, hc2, hc3, hc4, hc5, hc6⟩ := (hat.below U3 hbw).job (i := i) (by omega)
          clear hat
          have hib : (i : Int) < (n : Int) := by omega
          have hi0 : ¬ ((i : Int) < 0) := by omega
          have hi0' : decide ((i : Int) < 0) = false := by simp
          have tb := ho.bd (i := i) (by omega)
          have w1' : IntKind.i64.wrap ((jg ls i).due - 1) = (jg ls i).due - 1 := by rw [kp_wrap]; exact kp_in (by omega) (by omega)
          by_cases g : (jg ls i).at_ ≤ k ∧ (k : Int) < (jg ls i).due
          · have g1 : inB (k : Int) (jg ls i).at_ ((jg ls i).due - 1) = true := by unfold inB; simp; omega
            have HA2 : Hid (∀ t, t < k + 1 → Hr ls zs t) := fun t ht => by
              by_cases e : t = k
              · subst e; exact Or.inr ⟨i, by omega, hie, g.1, g.2⟩
              · exact HA.out t (by omega)
            have CW : ∀ W, Calls Try.prog 68 #[.int .i64 k, .int .i64 (jg ls i).at_, .int .i64 ((jg ls i).due - 1)] W fun e w' => e = .returned (.bool true) ∧ w' = W := fun W => by
              have := within_any (k : Int) (jg ls i).at_ ((jg ls i).due - 1) W
              rwa [g1] at this
            have hset := lnW_step (zs := zs) (k := k) hjs (show i < ls.length by omega) hie
            have wb := workN_bd zs (jg ls i).id k
            have cl := LA3.out.cell (k := i) (by omega)
            have fr := LA3.out.free i
            rw [lnW_at (by omega), if_pos (by omega)] at cl
            obtain ⟨V, hV⟩ : ∃ V, V = workN zs (jg ls i).id k := ⟨_, rfl⟩
            rw [← hV] at hset cl wb
            have w2 : IntKind.i64.wrap (V + 1) = V + 1 := by rw [kp_wrap]; exact kp_in (by omega) (by omega)
            have hi40 : (i : Int) < 40 := by omega
            have HS : Hid (∀ q, LnB ((w3.drewN q).setCell ⟨w1.heap.size, i, none⟩ (.int .i64 (V + 1))) w1.heap.size (lnW ls zs (k + 1))) := fun q => by
              have := (LA3.out.keep (w' := w3.drewN q) rfl).set i (V + 1)
              rwa [← hset] at this
            have HU : Hid (∀ q, Below w.heap.size w ((w3.drewN q).setCell ⟨w1.heap.size, i, none⟩ (.int .i64 (V + 1)))) := fun q => (U3.drewN q).setCell (by simpa using z1) _
            clear hset hV g wb hie
            go_wp2
            go_quiet ((go_at_call 68; exact Calls.quiet_of_same (CW _)))
            go_wp2
            go_roundw
            case rel => exact ⟨k + 1, by omega, by go_num, HA2, HS.out _, HU.out _⟩
            case measure => simp [intOf]; omega
          · have g1 : inB (k : Int) (jg ls i).at_ ((jg ls i).due - 1) = false := by
              unfold inB
              rcases Classical.not_and_iff_not_or_not.1 g with g | g
              · simp; omega
              · simp; omega
            have E : Hid (R = false) := HNH.out (fun hx => g (hr_same hjs C0.out (by omega) hie hx))
            have CW : ∀ W, Calls Try.prog 68 #[.int .i64 k, .int .i64 (jg ls i).at_, .int .i64 ((jg ls i).due - 1)] W fun e w' => e = .returned (.bool false) ∧ w' = W := fun W => by
              have := within_any (k : Int) (jg ls i).at_ ((jg ls i).due - 1) W
              rwa [g1] at this
            clear g hie
            go_wp2
            go_quiet ((go_at_call 68; exact Calls.quiet_of_same (CW _)))
            go_wp2
            go_ret
            exact ⟨by rw [E.out]; rfl, U3.drewN _⟩
    · obtain rfl : k = n2 := by omega
      have hE : R = eqL (lnW ls zs k) (lnJ ls n) := by
        have := eqL_all ho (fun t ht => HA.out t (by omega))
        rw [hlen, hlen2] at this
        exact HR.out.trans this
      have hxl := lnW_len ls zs k
      have hzl := lnJ_len ls n
      have L5 := HL.out
      have hls : ((Try.prog.info? 89).map (·.size)) = some ((lnW ls zs k).map (Value.int .i64)).length := by rw [List.length_map, hxl]; exact sizedLn
      have hul := Try.underlying89
      have hrg : wr.rangeAt w1.heap.size 0 ((lnW ls zs k).map (Value.int .i64)) := fun j v hv => by
        rw [cell_of_row _ _ _ _ _ _ L5.1, Nat.zero_add]
        simpa [ar] using hv
      have H5 : JobS wr a n cap ls := h.below hw
      obtain ⟨vs, hvs⟩ : ∃ vs, vs = (lnW ls zs k).map (Value.int .i64) := ⟨_, rfl⟩
      obtain ⟨us, hus⟩ : ∃ us, us = ar (lnJ ls n) := ⟨_, rfl⟩
      have hEq : ∀ W, (Op.equalIn 10000 89 (.agg vs.toArray) (.agg us)).run Try.prog W = .ok R W := fun W => by rw [hvs, hus, hE]; exact run_eqLine W 9998 (lnW ls zs k) (lnJ ls n) hxl hzl
      have hgd : Try.prog.eqGuardType Try.prog.depth 89 = false := by kernel_rfl
      have CL : ∀ W, JobS W a n cap ls → Calls Try.prog 86 #[.slice a n cap] W fun e w' => e = .returned (.agg us) ∧ Below W.heap.size W w' := fun W hW => by rw [hus]; exact lineOfJobs_any a n cap ls W hW (by omega)
      rw [← hvs] at hls hrg
      have HK : Hid (∀ W, Below wr.heap.size wr W → Below wr.heap.size wr W ∧ W.rangeAt w1.heap.size 0 vs) := fun W hb => ⟨hb, fun j v hv => (hb.cell (p := ⟨w1.heap.size, 0 + j, none⟩) L5.lt).trans (hrg j v hv)⟩
      have S0 : Below wr.heap.size wr wr := Below.refl _ _
      have K0 := HK.out _ S0
      have KB : ∀ W, (Below wr.heap.size wr W ∧ W.rangeAt w1.heap.size 0 vs) → Below wr.heap.size wr W := fun _ h => h.1
      clear hvs hus hrg hE L5
      go_wp2_with fail
      go_region_held3 (fun W => Below wr.heap.size wr W ∧ W.rangeAt w1.heap.size 0 vs) ((refine HK.out _ ?_; first | with_reducible exact SB | with_reducible exact SB.drew | with_reducible exact S0.drew | with_reducible exact S0)) ((go_at_call 86; refine (CL _ (H5.below (KB _ (by assumption)))).mono ?_; rintro e w6 ⟨rfl, hb6⟩; have SB : Below wr.heap.size wr w6 := (KB _ (by assumption)).then hb6 (KB _ (by assumption)).size))
      all_goals
        go_wp2
        go_ret
        exact ⟨rfl, hw.then (by first | exact SB | exact SB.drew) hw.size⟩

end Go.Proofs.Ytmaojjjdepgaeaa
