/- apart of the program: no neighbours of a sorted row clash. -/
import Derived.Test.YtnndkdonbjeejaaPieceBy
namespace Go.Proofs.Ytnndkdonbjeejaa
open Go.RowKit Go.Sort

theorem wf_perm {ps ys : List Pc} {n : Nat} (hp : ys.Perm ps) (hl : ps.length = n) (wf : ∀ i, i < n → pcwf (pcg ps i)) : ∀ i, i < n → pcwf (pcg ys i) := fun i hi => by
  have e := hp.length_eq
  have hm : pcg ys i ∈ ps := hp.mem_iff.1 (by rw [pcg_get (by omega)]; exact List.getElem_mem _)
  obtain ⟨j, hj, h⟩ := List.getElem_of_mem hm
  rw [← h, ← pcg_get hj]; exact wf j (by omega)

set_option maxRecDepth 8000 in
set_option maxHeartbeats 8000000 in
theorem apartM_any (a : Option Addr) (n cap : Nat) (ps : List Pc) (w : World) (h : PieceS w a n cap ps) (hn : n ≤ 1048576) :
    Calls Try.prog 39 #[.slice a n cap, .func (.func 40) #[] #[]] w fun e w' => ∃ ys, ys.Perm ps ∧ Srt (·.mac) ys ∧ e = .returned (.bool (nbB (·.mac) ys (ys.length - 1))) ∧ Below w.heap.size w w' := by
  have hlen := h.len
  go_enter Try.func39, Try.ntmps39
  go_wp2_with fail
  refine (then_makeC 40 61 _).mono ?_
  rintro e w2 ⟨rfl, rfl⟩
  go_wp2_with fail
  refine (sortedByM w _ rfl a n cap ps h hn).mono ?_
  rintro e w3 ⟨B, ys, rfl, hB, hp, hl, hs, hJ, hb3⟩
  have PS := hJ.toS hl hn (wf_perm hp hlen h.wf)
  have HP : Hid (ys.Perm ps) := hp
  have HS : Hid (Srt (·.mac) ys) := hs
  have HL : Hid (ys.length = n) := hl
  clear hp hs hJ hlen hl
  go_wp2
  go_loopw [6, 7, 8] (fun i _ _ wr => ∃ p : Nat, (p < n ∨ p = 0) ∧ i = .int .i64 ((p : Int) + 1) ∧ (∀ i, i < p → clash (·.mac) ys i = false) ∧ Below w3.heap.size w3 wr) (fun i _ _ _ => n - (intOf i).toNat)
  case atStart => exact ⟨0, Or.inr rfl, rfl, fun i hi => by omega, Below.refl _ _⟩
  case round =>
    obtain ⟨p, kn, rfl, hno, hw⟩ := hrel
    rename World => wr
    have hwz := hw.size
    by_cases hlt : p + 1 < n
    · obtain ⟨b, off, e, hbw, hat⟩ := (PS.below hw).at_ (by omega)
      obtain ⟨rfl, rfl⟩ : B = b ∧ 0 = off := by simpa using e
      obtain ⟨c0, c1, c2, c3⟩ := hat.row (i := p) (by have := HL.out; omega)
      obtain ⟨d0, d1, d2, d3⟩ := hat.row (i := p + 1) (by have := HL.out; omega)
      simp only [Nat.zero_add] at c0 c1 c2 c3 d0 d1 d2 d3
      have hlt' : (p : Int) + 1 < (n : Int) := by omega
      clear hat e
      have HNo : Hid (clash (·.mac) ys p = false → ∀ i, i < p + 1 → clash (·.mac) ys i = false) := fun h i hi => by
        by_cases e : i = p
        · subst e; exact h
        · exact hno i (by omega)
      have CA : ∀ W, Calls Try.prog 40 #[.agg #[.int .i64 (pcg ys p).job, .int .i64 (pcg ys p).mac, .int .i64 (pcg ys p).fr, .int .i64 (pcg ys p).up], .agg #[.int .i64 (pcg ys (p + 1)).job, .int .i64 (pcg ys (p + 1)).mac, .int .i64 (pcg ys (p + 1)).fr, .int .i64 (pcg ys (p + 1)).up]] W fun e w' => e = .returned (.int .i64 (kMac (pcg ys p) (pcg ys (p + 1)))) ∧ GrS W w' := fun W => byPieceMachine_any _ _ W
      have EC : Hid (clash (·.mac) ys p = ((kMac (pcg ys p) (pcg ys (p + 1)) == 0) && decide ((pcg ys (p + 1)).fr < (pcg ys p).up))) := rfl
      obtain ⟨cv, hcv⟩ : ∃ cv, cv = kMac (pcg ys p) (pcg ys (p + 1)) := ⟨_, rfl⟩
      rw [← hcv] at CA EC
      clear hcv hno
      go_wp2
      go_region
      · obtain ⟨W5, hW5⟩ : ∃ W5, W5 = ((wr.alloc (.cells #[.int .i64 (pcg ys p).job, .int .i64 (pcg ys p).mac, .int .i64 (pcg ys p).fr, .int .i64 (pcg ys p).up] 56)).alloc (.cells #[.int .i64 (pcg ys (p + 1)).job, .int .i64 (pcg ys (p + 1)).mac, .int .i64 (pcg ys (p + 1)).fr, .int .i64 (pcg ys (p + 1)).up] 56)).drew := ⟨_, rfl⟩
        have B5 : Below w3.heap.size w3 W5 := by rw [hW5]; exact ((hw.alloc hwz _).alloc (by simp; omega) _).drew
        have z5 : W5.heap.size = wr.heap.size + 2 := by rw [hW5]; simp
        have x0 : W5.cell? ⟨wr.heap.size, 0, none⟩ = some (.int .i64 (pcg ys p).job) := by rw [hW5]; simp
        have x1 : W5.cell? ⟨wr.heap.size, 1, none⟩ = some (.int .i64 (pcg ys p).mac) := by rw [hW5]; simp
        have x2 : W5.cell? ⟨wr.heap.size, 2, none⟩ = some (.int .i64 (pcg ys p).fr) := by rw [hW5]; simp
        have x3 : W5.cell? ⟨wr.heap.size, 3, none⟩ = some (.int .i64 (pcg ys p).up) := by rw [hW5]; simp
        have y0 : W5.cell? ⟨wr.heap.size + 1, 0, none⟩ = some (.int .i64 (pcg ys (p + 1)).job) := by rw [hW5]; simp
        have y1 : W5.cell? ⟨wr.heap.size + 1, 1, none⟩ = some (.int .i64 (pcg ys (p + 1)).mac) := by rw [hW5]; simp
        have y2 : W5.cell? ⟨wr.heap.size + 1, 2, none⟩ = some (.int .i64 (pcg ys (p + 1)).fr) := by rw [hW5]; simp
        have y3 : W5.cell? ⟨wr.heap.size + 1, 3, none⟩ = some (.int .i64 (pcg ys (p + 1)).up) := by rw [hW5]; simp
        rw [← hW5]
        clear hW5
        have K5 : ∀ W, GrS W5 W → Below w3.heap.size w3 W ∧ W.cell? ⟨wr.heap.size, 3, none⟩ = some (.int .i64 (pcg ys p).up) ∧ W.cell? ⟨wr.heap.size + 1, 2, none⟩ = some (.int .i64 (pcg ys (p + 1)).fr) := fun W hg =>
          ⟨B5.then hg.below (by omega), (hg.cell (a := ⟨wr.heap.size, 3, none⟩) (by show wr.heap.size < _; omega)).trans x3, (hg.cell (a := ⟨wr.heap.size + 1, 2, none⟩) (by show (wr.heap.size + 1) < _; omega)).trans y2⟩
        rcases g : (cv == 0) with _ | _
        · have HC : Hid (∀ i, i < p + 1 → clash (·.mac) ys i = false) := HNo.out (by rw [EC.out, g, Bool.false_and])
          go_wp2_with (go_at_call 40; refine (CA _).mono ?_; rintro e w6 ⟨rfl, hg6⟩; have S6 := K5 _ hg6)
          go_roundw
          case rel => exact ⟨p + 1, by omega, by go_num, HC.out, S6.1⟩
          case measure => simp [intOf]; omega
        · by_cases gl : (pcg ys (p + 1)).fr < (pcg ys p).up
          · have HC : Hid (nbB (·.mac) ys (ys.length - 1) = false) := nbB_no (i := p) (by have := HL.out; omega) (by rw [EC.out, g, Bool.true_and]; exact decide_eq_true gl)
            go_wp2_with (go_at_call 40; refine (CA _).mono ?_; rintro e w6 ⟨rfl, hg6⟩; obtain ⟨S6, S7, S8⟩ := K5 _ hg6)
            go_ret
            exact ⟨ys, HP.out, HS.out, by rw [HC.out]; rfl, hb3.then S6 hb3.size⟩
          · have HC : Hid (∀ i, i < p + 1 → clash (·.mac) ys i = false) := HNo.out (by rw [EC.out, g, Bool.true_and]; exact decide_eq_false gl)
            go_wp2_with (go_at_call 40; refine (CA _).mono ?_; rintro e w6 ⟨rfl, hg6⟩; obtain ⟨S6, S7, S8⟩ := K5 _ hg6)
            go_roundw
            case rel => exact ⟨p + 1, by omega, by go_num, HC.out, S6⟩
            case measure => simp [intOf]; omega
      · obtain ⟨W5, hW5⟩ : ∃ W5, W5 = ((wr.alloc (.cells #[.int .i64 (pcg ys (p + 1)).job, .int .i64 (pcg ys (p + 1)).mac, .int .i64 (pcg ys (p + 1)).fr, .int .i64 (pcg ys (p + 1)).up] 56)).alloc (.cells #[.int .i64 (pcg ys p).job, .int .i64 (pcg ys p).mac, .int .i64 (pcg ys p).fr, .int .i64 (pcg ys p).up] 56)).drew := ⟨_, rfl⟩
        have B5 : Below w3.heap.size w3 W5 := by rw [hW5]; exact ((hw.alloc hwz _).alloc (by simp; omega) _).drew
        have z5 : W5.heap.size = wr.heap.size + 2 := by rw [hW5]; simp
        have x0 : W5.cell? ⟨wr.heap.size + 1, 0, none⟩ = some (.int .i64 (pcg ys p).job) := by rw [hW5]; simp
        have x1 : W5.cell? ⟨wr.heap.size + 1, 1, none⟩ = some (.int .i64 (pcg ys p).mac) := by rw [hW5]; simp
        have x2 : W5.cell? ⟨wr.heap.size + 1, 2, none⟩ = some (.int .i64 (pcg ys p).fr) := by rw [hW5]; simp
        have x3 : W5.cell? ⟨wr.heap.size + 1, 3, none⟩ = some (.int .i64 (pcg ys p).up) := by rw [hW5]; simp
        have y0 : W5.cell? ⟨wr.heap.size, 0, none⟩ = some (.int .i64 (pcg ys (p + 1)).job) := by rw [hW5]; simp
        have y1 : W5.cell? ⟨wr.heap.size, 1, none⟩ = some (.int .i64 (pcg ys (p + 1)).mac) := by rw [hW5]; simp
        have y2 : W5.cell? ⟨wr.heap.size, 2, none⟩ = some (.int .i64 (pcg ys (p + 1)).fr) := by rw [hW5]; simp
        have y3 : W5.cell? ⟨wr.heap.size, 3, none⟩ = some (.int .i64 (pcg ys (p + 1)).up) := by rw [hW5]; simp
        rw [← hW5]
        clear hW5
        have K5 : ∀ W, GrS W5 W → Below w3.heap.size w3 W ∧ W.cell? ⟨wr.heap.size + 1, 3, none⟩ = some (.int .i64 (pcg ys p).up) ∧ W.cell? ⟨wr.heap.size, 2, none⟩ = some (.int .i64 (pcg ys (p + 1)).fr) := fun W hg =>
          ⟨B5.then hg.below (by omega), (hg.cell (a := ⟨wr.heap.size + 1, 3, none⟩) (by show (wr.heap.size + 1) < _; omega)).trans x3, (hg.cell (a := ⟨wr.heap.size, 2, none⟩) (by show wr.heap.size < _; omega)).trans y2⟩
        rcases g : (cv == 0) with _ | _
        · have HC : Hid (∀ i, i < p + 1 → clash (·.mac) ys i = false) := HNo.out (by rw [EC.out, g, Bool.false_and])
          go_wp2_with (go_at_call 40; refine (CA _).mono ?_; rintro e w6 ⟨rfl, hg6⟩; have S6 := K5 _ hg6)
          go_roundw
          case rel => exact ⟨p + 1, by omega, by go_num, HC.out, S6.1⟩
          case measure => simp [intOf]; omega
        · by_cases gl : (pcg ys (p + 1)).fr < (pcg ys p).up
          · have HC : Hid (nbB (·.mac) ys (ys.length - 1) = false) := nbB_no (i := p) (by have := HL.out; omega) (by rw [EC.out, g, Bool.true_and]; exact decide_eq_true gl)
            go_wp2_with (go_at_call 40; refine (CA _).mono ?_; rintro e w6 ⟨rfl, hg6⟩; obtain ⟨S6, S7, S8⟩ := K5 _ hg6)
            go_ret
            exact ⟨ys, HP.out, HS.out, by rw [HC.out]; rfl, hb3.then S6 hb3.size⟩
          · have HC : Hid (∀ i, i < p + 1 → clash (·.mac) ys i = false) := HNo.out (by rw [EC.out, g, Bool.true_and]; exact decide_eq_false gl)
            go_wp2_with (go_at_call 40; refine (CA _).mono ?_; rintro e w6 ⟨rfl, hg6⟩; obtain ⟨S6, S7, S8⟩ := K5 _ hg6)
            go_roundw
            case rel => exact ⟨p + 1, by omega, by go_num, HC.out, S6⟩
            case measure => simp [intOf]; omega
    · have HC : Hid (nbB (·.mac) ys (ys.length - 1) = true) := nbB_all.2 fun i hi => hno i (by have := HL.out; omega)
      clear hno
      go_wp2
      go_ret
      exact ⟨ys, HP.out, HS.out, by rw [HC.out]; rfl, hb3.then hw hb3.size⟩

set_option maxRecDepth 8000 in
set_option maxHeartbeats 8000000 in
theorem apartJ_any (a : Option Addr) (n cap : Nat) (ps : List Pc) (w : World) (h : PieceS w a n cap ps) (hn : n ≤ 1048576) :
    Calls Try.prog 39 #[.slice a n cap, .func (.func 41) #[] #[]] w fun e w' => ∃ ys, ys.Perm ps ∧ Srt (·.job) ys ∧ e = .returned (.bool (nbB (·.job) ys (ys.length - 1))) ∧ Below w.heap.size w w' := by
  have hlen := h.len
  go_enter Try.func39, Try.ntmps39
  go_wp2_with fail
  refine (then_makeC 41 61 _).mono ?_
  rintro e w2 ⟨rfl, rfl⟩
  go_wp2_with fail
  refine (sortedByJ w _ rfl a n cap ps h hn).mono ?_
  rintro e w3 ⟨B, ys, rfl, hB, hp, hl, hs, hJ, hb3⟩
  have PS := hJ.toS hl hn (wf_perm hp hlen h.wf)
  have HP : Hid (ys.Perm ps) := hp
  have HS : Hid (Srt (·.job) ys) := hs
  have HL : Hid (ys.length = n) := hl
  clear hp hs hJ hlen hl
  go_wp2
  go_loopw [6, 7, 8] (fun i _ _ wr => ∃ p : Nat, (p < n ∨ p = 0) ∧ i = .int .i64 ((p : Int) + 1) ∧ (∀ i, i < p → clash (·.job) ys i = false) ∧ Below w3.heap.size w3 wr) (fun i _ _ _ => n - (intOf i).toNat)
  case atStart => exact ⟨0, Or.inr rfl, rfl, fun i hi => by omega, Below.refl _ _⟩
  case round =>
    obtain ⟨p, kn, rfl, hno, hw⟩ := hrel
    rename World => wr
    have hwz := hw.size
    by_cases hlt : p + 1 < n
    · obtain ⟨b, off, e, hbw, hat⟩ := (PS.below hw).at_ (by omega)
      obtain ⟨rfl, rfl⟩ : B = b ∧ 0 = off := by simpa using e
      obtain ⟨c0, c1, c2, c3⟩ := hat.row (i := p) (by have := HL.out; omega)
      obtain ⟨d0, d1, d2, d3⟩ := hat.row (i := p + 1) (by have := HL.out; omega)
      simp only [Nat.zero_add] at c0 c1 c2 c3 d0 d1 d2 d3
      have hlt' : (p : Int) + 1 < (n : Int) := by omega
      clear hat e
      have HNo : Hid (clash (·.job) ys p = false → ∀ i, i < p + 1 → clash (·.job) ys i = false) := fun h i hi => by
        by_cases e : i = p
        · subst e; exact h
        · exact hno i (by omega)
      have CA : ∀ W, Calls Try.prog 41 #[.agg #[.int .i64 (pcg ys p).job, .int .i64 (pcg ys p).mac, .int .i64 (pcg ys p).fr, .int .i64 (pcg ys p).up], .agg #[.int .i64 (pcg ys (p + 1)).job, .int .i64 (pcg ys (p + 1)).mac, .int .i64 (pcg ys (p + 1)).fr, .int .i64 (pcg ys (p + 1)).up]] W fun e w' => e = .returned (.int .i64 (kJob (pcg ys p) (pcg ys (p + 1)))) ∧ GrS W w' := fun W => byPieceJob_any _ _ W
      have EC : Hid (clash (·.job) ys p = ((kJob (pcg ys p) (pcg ys (p + 1)) == 0) && decide ((pcg ys (p + 1)).fr < (pcg ys p).up))) := rfl
      obtain ⟨cv, hcv⟩ : ∃ cv, cv = kJob (pcg ys p) (pcg ys (p + 1)) := ⟨_, rfl⟩
      rw [← hcv] at CA EC
      clear hcv hno
      go_wp2
      go_region
      · obtain ⟨W5, hW5⟩ : ∃ W5, W5 = ((wr.alloc (.cells #[.int .i64 (pcg ys p).job, .int .i64 (pcg ys p).mac, .int .i64 (pcg ys p).fr, .int .i64 (pcg ys p).up] 56)).alloc (.cells #[.int .i64 (pcg ys (p + 1)).job, .int .i64 (pcg ys (p + 1)).mac, .int .i64 (pcg ys (p + 1)).fr, .int .i64 (pcg ys (p + 1)).up] 56)).drew := ⟨_, rfl⟩
        have B5 : Below w3.heap.size w3 W5 := by rw [hW5]; exact ((hw.alloc hwz _).alloc (by simp; omega) _).drew
        have z5 : W5.heap.size = wr.heap.size + 2 := by rw [hW5]; simp
        have x0 : W5.cell? ⟨wr.heap.size, 0, none⟩ = some (.int .i64 (pcg ys p).job) := by rw [hW5]; simp
        have x1 : W5.cell? ⟨wr.heap.size, 1, none⟩ = some (.int .i64 (pcg ys p).mac) := by rw [hW5]; simp
        have x2 : W5.cell? ⟨wr.heap.size, 2, none⟩ = some (.int .i64 (pcg ys p).fr) := by rw [hW5]; simp
        have x3 : W5.cell? ⟨wr.heap.size, 3, none⟩ = some (.int .i64 (pcg ys p).up) := by rw [hW5]; simp
        have y0 : W5.cell? ⟨wr.heap.size + 1, 0, none⟩ = some (.int .i64 (pcg ys (p + 1)).job) := by rw [hW5]; simp
        have y1 : W5.cell? ⟨wr.heap.size + 1, 1, none⟩ = some (.int .i64 (pcg ys (p + 1)).mac) := by rw [hW5]; simp
        have y2 : W5.cell? ⟨wr.heap.size + 1, 2, none⟩ = some (.int .i64 (pcg ys (p + 1)).fr) := by rw [hW5]; simp
        have y3 : W5.cell? ⟨wr.heap.size + 1, 3, none⟩ = some (.int .i64 (pcg ys (p + 1)).up) := by rw [hW5]; simp
        rw [← hW5]
        clear hW5
        have K5 : ∀ W, GrS W5 W → Below w3.heap.size w3 W ∧ W.cell? ⟨wr.heap.size, 3, none⟩ = some (.int .i64 (pcg ys p).up) ∧ W.cell? ⟨wr.heap.size + 1, 2, none⟩ = some (.int .i64 (pcg ys (p + 1)).fr) := fun W hg =>
          ⟨B5.then hg.below (by omega), (hg.cell (a := ⟨wr.heap.size, 3, none⟩) (by show wr.heap.size < _; omega)).trans x3, (hg.cell (a := ⟨wr.heap.size + 1, 2, none⟩) (by show (wr.heap.size + 1) < _; omega)).trans y2⟩
        rcases g : (cv == 0) with _ | _
        · have HC : Hid (∀ i, i < p + 1 → clash (·.job) ys i = false) := HNo.out (by rw [EC.out, g, Bool.false_and])
          go_wp2_with (go_at_call 41; refine (CA _).mono ?_; rintro e w6 ⟨rfl, hg6⟩; have S6 := K5 _ hg6)
          go_roundw
          case rel => exact ⟨p + 1, by omega, by go_num, HC.out, S6.1⟩
          case measure => simp [intOf]; omega
        · by_cases gl : (pcg ys (p + 1)).fr < (pcg ys p).up
          · have HC : Hid (nbB (·.job) ys (ys.length - 1) = false) := nbB_no (i := p) (by have := HL.out; omega) (by rw [EC.out, g, Bool.true_and]; exact decide_eq_true gl)
            go_wp2_with (go_at_call 41; refine (CA _).mono ?_; rintro e w6 ⟨rfl, hg6⟩; obtain ⟨S6, S7, S8⟩ := K5 _ hg6)
            go_ret
            exact ⟨ys, HP.out, HS.out, by rw [HC.out]; rfl, hb3.then S6 hb3.size⟩
          · have HC : Hid (∀ i, i < p + 1 → clash (·.job) ys i = false) := HNo.out (by rw [EC.out, g, Bool.true_and]; exact decide_eq_false gl)
            go_wp2_with (go_at_call 41; refine (CA _).mono ?_; rintro e w6 ⟨rfl, hg6⟩; obtain ⟨S6, S7, S8⟩ := K5 _ hg6)
            go_roundw
            case rel => exact ⟨p + 1, by omega, by go_num, HC.out, S6⟩
            case measure => simp [intOf]; omega
      · obtain ⟨W5, hW5⟩ : ∃ W5, W5 = ((wr.alloc (.cells #[.int .i64 (pcg ys (p + 1)).job, .int .i64 (pcg ys (p + 1)).mac, .int .i64 (pcg ys (p + 1)).fr, .int .i64 (pcg ys (p + 1)).up] 56)).alloc (.cells #[.int .i64 (pcg ys p).job, .int .i64 (pcg ys p).mac, .int .i64 (pcg ys p).fr, .int .i64 (pcg ys p).up] 56)).drew := ⟨_, rfl⟩
        have B5 : Below w3.heap.size w3 W5 := by rw [hW5]; exact ((hw.alloc hwz _).alloc (by simp; omega) _).drew
        have z5 : W5.heap.size = wr.heap.size + 2 := by rw [hW5]; simp
        have x0 : W5.cell? ⟨wr.heap.size + 1, 0, none⟩ = some (.int .i64 (pcg ys p).job) := by rw [hW5]; simp
        have x1 : W5.cell? ⟨wr.heap.size + 1, 1, none⟩ = some (.int .i64 (pcg ys p).mac) := by rw [hW5]; simp
        have x2 : W5.cell? ⟨wr.heap.size + 1, 2, none⟩ = some (.int .i64 (pcg ys p).fr) := by rw [hW5]; simp
        have x3 : W5.cell? ⟨wr.heap.size + 1, 3, none⟩ = some (.int .i64 (pcg ys p).up) := by rw [hW5]; simp
        have y0 : W5.cell? ⟨wr.heap.size, 0, none⟩ = some (.int .i64 (pcg ys (p + 1)).job) := by rw [hW5]; simp
        have y1 : W5.cell? ⟨wr.heap.size, 1, none⟩ = some (.int .i64 (pcg ys (p + 1)).mac) := by rw [hW5]; simp
        have y2 : W5.cell? ⟨wr.heap.size, 2, none⟩ = some (.int .i64 (pcg ys (p + 1)).fr) := by rw [hW5]; simp
        have y3 : W5.cell? ⟨wr.heap.size, 3, none⟩ = some (.int .i64 (pcg ys (p + 1)).up) := by rw [hW5]; simp
        rw [← hW5]
        clear hW5
        have K5 : ∀ W, GrS W5 W → Below w3.heap.size w3 W ∧ W.cell? ⟨wr.heap.size + 1, 3, none⟩ = some (.int .i64 (pcg ys p).up) ∧ W.cell? ⟨wr.heap.size, 2, none⟩ = some (.int .i64 (pcg ys (p + 1)).fr) := fun W hg =>
          ⟨B5.then hg.below (by omega), (hg.cell (a := ⟨wr.heap.size + 1, 3, none⟩) (by show (wr.heap.size + 1) < _; omega)).trans x3, (hg.cell (a := ⟨wr.heap.size, 2, none⟩) (by show wr.heap.size < _; omega)).trans y2⟩
        rcases g : (cv == 0) with _ | _
        · have HC : Hid (∀ i, i < p + 1 → clash (·.job) ys i = false) := HNo.out (by rw [EC.out, g, Bool.false_and])
          go_wp2_with (go_at_call 41; refine (CA _).mono ?_; rintro e w6 ⟨rfl, hg6⟩; have S6 := K5 _ hg6)
          go_roundw
          case rel => exact ⟨p + 1, by omega, by go_num, HC.out, S6.1⟩
          case measure => simp [intOf]; omega
        · by_cases gl : (pcg ys (p + 1)).fr < (pcg ys p).up
          · have HC : Hid (nbB (·.job) ys (ys.length - 1) = false) := nbB_no (i := p) (by have := HL.out; omega) (by rw [EC.out, g, Bool.true_and]; exact decide_eq_true gl)
            go_wp2_with (go_at_call 41; refine (CA _).mono ?_; rintro e w6 ⟨rfl, hg6⟩; obtain ⟨S6, S7, S8⟩ := K5 _ hg6)
            go_ret
            exact ⟨ys, HP.out, HS.out, by rw [HC.out]; rfl, hb3.then S6 hb3.size⟩
          · have HC : Hid (∀ i, i < p + 1 → clash (·.job) ys i = false) := HNo.out (by rw [EC.out, g, Bool.true_and]; exact decide_eq_false gl)
            go_wp2_with (go_at_call 41; refine (CA _).mono ?_; rintro e w6 ⟨rfl, hg6⟩; obtain ⟨S6, S7, S8⟩ := K5 _ hg6)
            go_roundw
            case rel => exact ⟨p + 1, by omega, by go_num, HC.out, S6⟩
            case measure => simp [intOf]; omega
    · have HC : Hid (nbB (·.job) ys (ys.length - 1) = true) := nbB_all.2 fun i hi => hno i (by have := HL.out; omega)
      clear hno
      go_wp2
      go_ret
      exact ⟨ys, HP.out, HS.out, by rw [HC.out]; rfl, hb3.then hw hb3.size⟩

end Go.Proofs.Ytnndkdonbjeejaa
