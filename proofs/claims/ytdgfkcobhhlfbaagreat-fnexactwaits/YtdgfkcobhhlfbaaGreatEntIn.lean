/- Entries in memory: a slice of them, each with its parts in a slice of their own. -/
import Derived.Test.YtdgfkcobhhlfbaaGreatEntryD
import Derived.Test.YtdgfkcobhhlfbaaGreatMem
import Derived.Test.YtdgfkcobhhlfbaaGreatEntBox
import Derived.Deep.Cut
import Derived.Deep.CutRange
import Derived.Test.YtdgfkcobhhlfbaaGreatPartIn
import Derived.Test.YtdgfkcobhhlfbaaGreatJobIn
namespace Go.Proofs.YtdgfkcobhhlfbaaGreat
open Go.RowKit

/-- from ⟨b, off⟩ on lie ls, eleven cells each -/
def EntAt (w : World) (b off : Nat) (ls : List En) : Prop :=
  ∀ i, i < ls.length → (∀ c, c < 10 → w.cell? ⟨b, off + i * 11 + c, none⟩ = some (.int .i64 (enc (eng ls i) c))) ∧
    ∃ v m, w.cell? ⟨b, off + i * 11 + 10, none⟩ = some (.slice v (eng ls i).ps.length m) ∧ PartS w v (eng ls i).ps.length m (eng ls i).ps

/-- one lies at ⟨b, o⟩ -/
structure Ent1 (w : World) (b o : Nat) (e : En) (v : Option Addr) (m : Nat) : Prop where
  c0 : w.cell? ⟨b, o, none⟩ = some (.int .i64 e.job.id)
  c1 : w.cell? ⟨b, o + 1, none⟩ = some (.int .i64 e.job.cores)
  c2 : w.cell? ⟨b, o + 2, none⟩ = some (.int .i64 e.job.long)
  c3 : w.cell? ⟨b, o + 3, none⟩ = some (.int .i64 e.job.due)
  c4 : w.cell? ⟨b, o + 4, none⟩ = some (.int .i64 e.job.wt)
  c5 : w.cell? ⟨b, o + 5, none⟩ = some (.int .i64 e.job.rank)
  c6 : w.cell? ⟨b, o + 6, none⟩ = some (.int .i64 e.job.at_)
  c7 : w.cell? ⟨b, o + 7, none⟩ = some (.int .i64 e.ph)
  c8 : w.cell? ⟨b, o + 8, none⟩ = some (.int .i64 e.st)
  c9 : w.cell? ⟨b, o + 9, none⟩ = some (.int .i64 e.ep)
  c10 : w.cell? ⟨b, o + 10, none⟩ = some (.slice v e.ps.length m)
  ps : PartS w v e.ps.length m e.ps

theorem EntAt.row {w : World} {b off : Nat} {ls : List En} (h : EntAt w b off ls) {i : Nat} (hi : i < ls.length) : ∃ v m, Ent1 w b (off + i * 11) (eng ls i) v m := by
  obtain ⟨h1, v, m, h2, h3⟩ := h i hi
  exact ⟨v, m, h1 0 (by omega), h1 1 (by omega), h1 2 (by omega), h1 3 (by omega), h1 4 (by omega), h1 5 (by omega), h1 6 (by omega), h1 7 (by omega), h1 8 (by omega), h1 9 (by omega), h2, h3⟩

/-- the slice at a, n of cap, holds ls -/
structure EntS (w : World) (a : Option Addr) (n cap : Nat) (ls : List En) : Prop where
  len : ls.length = n
  le : n ≤ cap
  mx : cap ≤ maxLen
  nil : a = none → cap = 0
  wf : ∀ i, i < n → enwf (eng ls i)
  at_ : 0 < n → ∃ b off, a = some ⟨b, off, none⟩ ∧ b < w.heap.size ∧ EntAt w b off ls

theorem EntS.nil_ (w : World) : EntS w none 0 0 [] := ⟨rfl, Nat.le_refl _, Nat.zero_le _, fun _ => rfl, fun i hi => by omega, fun h => by omega⟩

theorem EntAt.below {w w' : World} {b off : Nat} {ls : List En} (h : EntAt w b off ls) (hb : Below w.heap.size w w') (hB : b < w.heap.size) : EntAt w' b off ls := fun i hi => by
  obtain ⟨h1, v, m, h2, h3⟩ := h i hi
  exact ⟨fun c hc => (hb.cell (p := ⟨b, off + i * 11 + c, none⟩) hB).trans (h1 c hc), v, m, (hb.cell (p := ⟨b, off + i * 11 + 10, none⟩) hB).trans h2, h3.below hb⟩
theorem EntS.below {w w' : World} {a : Option Addr} {n cap : Nat} {ls : List En} (h : EntS w a n cap ls) (hb : Below w.heap.size w w') : EntS w' a n cap ls :=
  ⟨h.len, h.le, h.mx, h.nil, h.wf, fun hn => by
    obtain ⟨b, off, e, h1, h2⟩ := h.at_ hn
    exact ⟨b, off, e, Nat.lt_of_lt_of_le h1 hb.size, h2.below hb h1⟩⟩

/-- its value, its parts in the slice at v, m of room -/
def enV (e : En) (v : Option Addr) (m : Nat) : Value := .agg #[.int .i64 e.job.id, .int .i64 e.job.cores, .int .i64 e.job.long, .int .i64 e.job.due, .int .i64 e.job.wt, .int .i64 e.job.rank, .int .i64 e.job.at_, .int .i64 e.ph, .int .i64 e.st, .int .i64 e.ep, .slice v e.ps.length m]

theorem szEntry_any (e : En) (v : Option Addr) (m : Nat) (left : Int) (w : World) (hn : e.ps.length ≤ maxLen) (h0 : 0 ≤ left) (h1 : left ≤ 1048576) :
    Calls Tryz.prog 28 #[enV e v m, .int .i64 left] w fun en w' => en = .returned (.int .i64 (if left < (e.ps.length : Int) then -1 else left - e.ps.length)) ∧ Below w.heap.size w w' := by
  unfold enV
  by_cases hc : left < (e.ps.length : Int)
  · rw [if_pos hc]
    go_enter Tryz.func28, Tryz.ntmps28
    go_wp2_with (go_at_call 51; refine (szPartS_any _ _ _ _ _ hn h0 h1).mono ?_; rw [if_pos hc]; rintro e w' ⟨rfl, hq⟩; have hq' := hq.symm; clear hq; subst hq')
    go_ret
    exact ⟨rfl, box_below0⟩
  · rw [if_neg hc]
    have hd : ¬ left - (e.ps.length : Int) < 0 := by omega
    go_enter Tryz.func28, Tryz.ntmps28
    go_wp2_with (go_at_call 51; refine (szPartS_any _ _ _ _ _ hn h0 h1).mono ?_; rw [if_neg hc]; rintro e w' ⟨rfl, hq⟩; have hq' := hq.symm; clear hq; subst hq')
    go_ret
    exact ⟨rfl, box_below0⟩

/-- how many parts the first k have -/
def psum (ls : List En) : Nat → Nat
  | 0 => 0
  | k + 1 => psum ls k + (eng ls k).ps.length
theorem psum_le (ls : List En) : ∀ (d k : Nat), psum ls k ≤ psum ls (k + d)
  | 0, _ => Nat.le_refl _
  | d + 1, k => by have := psum_le ls d k; rw [← Nat.add_assoc]; simp only [psum]; omega
theorem psum_one {ls : List En} {i n : Nat} (h : i < n) : (eng ls i).ps.length ≤ psum ls n := by
  have := psum_le ls (n - (i + 1)) (i + 1)
  rw [show i + 1 + (n - (i + 1)) = n by omega] at this
  simp only [psum] at this
  omega

/-- what is left: nothing (-1), or so much -/
def szLeft (left : Int) (n s : Nat) (r : Int) : Prop := r = -1 ∨ (0 ≤ r ∧ r = left - n - s)
set_option maxHeartbeats 2000000 in
theorem szEntryS_any (a : Option Addr) (n cap : Nat) (ls : List En) (left : Int) (w : World) (h : EntS w a n cap ls) (h0 : 0 ≤ left) (h1 : left ≤ 1048576) :
    Calls Tryz.prog 14 #[.slice a n cap, .int .i64 left] w fun e w' => ∃ r, e = .returned (.int .i64 r) ∧ szLeft left n (psum ls n) r ∧ Below w.heap.size w w' := by
  have hlen := h.len
  have hmx := h.mx
  have hle := h.le
  unfold maxLen at hmx
  by_cases hc : left < (n : Int)
  · go_enter Tryz.func14, Tryz.ntmps14
    go_wp2
    go_ret
    exact ⟨-1, rfl, Or.inl rfl, Below.refl _ _⟩
  · have hd : ¬ left - (n : Int) < 0 := by omega
    have hn : n ≤ 1048576 := by omega
    go_enter Tryz.func14, Tryz.ntmps14
    go_wp2
    go_loopw [1, 5] (fun lv i wr => ∃ k : Nat, k ≤ n ∧ i = .int .i64 k ∧ lv = .int .i64 (left - n - psum ls k) ∧ 0 ≤ left - n - psum ls k ∧ Below w.heap.size w wr) (fun _ i _ => n - (intOf i).toNat)
    case atStart => exact ⟨0, by omega, rfl, by simp [psum], by simp [psum]; omega, Below.refl _ _⟩
    case round =>
      obtain ⟨k, hk, rfl, rfl, hp, hw⟩ := hrel
      rename World => wr
      by_cases hlt : k < n
      · obtain ⟨b, off, rfl, hbw, hat⟩ := (h.below hw).at_ (by omega)
        obtain ⟨v, m, E⟩ := hat.row (i := k) (by omega)
        obtain ⟨c0, c1, c2, c3, c4, c5, c6, c7, c8, c9, c10, hps⟩ := E
        have hpl := hps.mx
        have hpl2 := hps.le
        have hlt' : (k : Int) < (n : Int) := by omega
        have HP : Hid (psum ls (k + 1) = psum ls k + (eng ls k).ps.length) := rfl
        have CS := fun W => szEntry_any (eng ls k) v m (left - n - psum ls k) W (by omega) hp (by omega)
        clear hat
        by_cases hx : left - n - psum ls k < ((eng ls k).ps.length : Int)
        · rw [if_pos hx] at CS
          go_wp2_with (go_at_call 28; refine (CS _).mono ?_; rintro e w2 ⟨rfl, hb2⟩; have hw2 := hw.then hb2 hw.size)
          go_ret
          exact ⟨-1, rfl, Or.inl rfl, hw2⟩
        · rw [if_neg hx] at CS
          have hz : ¬ left - (n : Int) - (psum ls k : Int) - ((eng ls k).ps.length : Int) < 0 := by omega
          go_wp2_with (go_at_call 28; refine (CS _).mono ?_; rintro e w2 ⟨rfl, hb2⟩; have hw2 := hw.then hb2 hw.size)
          go_roundw
          case rel => exact ⟨k + 1, by omega, by go_num, by rw [HP.out]; push_cast; congr 1; omega, by rw [HP.out]; push_cast; omega, hw2⟩
          case measure => simp [intOf]; omega
      · obtain rfl : k = n := by omega
        have hnn : ¬ (k : Int) < (k : Int) := by omega
        go_wp2
        go_ret
        exact ⟨_, rfl, Or.inr ⟨hp, rfl⟩, hw⟩

/-- two of one text are like one another -/
theorem eqEntry_same (e : En) (v v' : Option Addr) (m m' : Nat) (w : World) (h : PartS w v e.ps.length m e.ps) (h' : PartS w v' e.ps.length m' e.ps) :
    Calls Tryz.prog 49 #[enV e v m, enV e v' m'] w fun en w' => en = .returned (.bool true) ∧ Below w.heap.size w w' := by
  unfold enV
  obtain ⟨W0, hW0⟩ : ∃ W0, W0 = (w.alloc (.cells #[.int .i64 e.job.id, .int .i64 e.job.cores, .int .i64 e.job.long, .int .i64 e.job.due, .int .i64 e.job.wt, .int .i64 e.job.rank, .int .i64 e.job.at_, .int .i64 e.ph, .int .i64 e.st, .int .i64 e.ep, .slice v e.ps.length m] 64)).alloc (.cells #[.int .i64 e.job.id, .int .i64 e.job.cores, .int .i64 e.job.long, .int .i64 e.job.due, .int .i64 e.job.wt, .int .i64 e.job.rank, .int .i64 e.job.at_, .int .i64 e.ph, .int .i64 e.st, .int .i64 e.ep, .slice v' e.ps.length m'] 64) := ⟨_, rfl⟩
  have B0 : Below w.heap.size w W0 := by rw [hW0]; exact box_below0.alloc (by simp) _
  have x0 : W0.heap[w.heap.size]? = some (.cells #[.int .i64 e.job.id, .int .i64 e.job.cores, .int .i64 e.job.long, .int .i64 e.job.due, .int .i64 e.job.wt, .int .i64 e.job.rank, .int .i64 e.job.at_, .int .i64 e.ph, .int .i64 e.st, .int .i64 e.ep, .slice v e.ps.length m] 64 (0, 0)) := by rw [hW0]; exact (Below.heap_alloc _ _ _ (by simp)).trans (heap_alloc_new _ _)
  have y0 : W0.heap[w.heap.size + 1]? = some (.cells #[.int .i64 e.job.id, .int .i64 e.job.cores, .int .i64 e.job.long, .int .i64 e.job.due, .int .i64 e.job.wt, .int .i64 e.job.rank, .int .i64 e.job.at_, .int .i64 e.ph, .int .i64 e.st, .int .i64 e.ep, .slice v' e.ps.length m'] 64 (0, 0)) := by rw [hW0]; exact new_box _ _ _ (by simp)
  have lx := lt_of_block x0
  have ly := lt_of_block y0
  have HX : Hid (∀ W, Below W0.heap.size W0 W → Box11 W w.heap.size (.int .i64 e.job.id) (.int .i64 e.job.cores) (.int .i64 e.job.long) (.int .i64 e.job.due) (.int .i64 e.job.wt) (.int .i64 e.job.rank) (.int .i64 e.job.at_) (.int .i64 e.ph) (.int .i64 e.st) (.int .i64 e.ep) (.slice v e.ps.length m)) := fun W hW => box11 ((hW.block _ lx).trans x0)
  have HY : Hid (∀ W, Below W0.heap.size W0 W → Box11 W (w.heap.size + 1) (.int .i64 e.job.id) (.int .i64 e.job.cores) (.int .i64 e.job.long) (.int .i64 e.job.due) (.int .i64 e.job.wt) (.int .i64 e.job.rank) (.int .i64 e.job.at_) (.int .i64 e.ph) (.int .i64 e.st) (.int .i64 e.ep) (.slice v' e.ps.length m')) := fun W hW => box11 ((hW.block _ ly).trans y0)
  clear x0 y0 lx ly
  obtain ⟨c0, c1, c2, c3, c4, c5, c6, c7, c8, c9, c10, _, _, _, _, _, _, _, _, _, _, _⟩ := HX.out W0 (Below.refl _ _)
  obtain ⟨d0, d1, d2, d3, d4, d5, d6, d7, d8, d9, d10, _, _, _, _, _, _, _, _, _, _, _⟩ := HY.out W0 (Below.refl _ _)
  go_enter Tryz.func49, Tryz.ntmps49
  go_upto_region 1 with fail
  rw [← hW0]
  clear hW0
  go_wp2_with fail
  refine (eqJob_same _ _ _ _ _ _ _ _).mono ?_
  rintro en w1 ⟨rfl, hb1⟩
  clear c0 c1 c2 c3 c4 c5 c6 c7 c8 c9 c10 d0 d1 d2 d3 d4 d5 d6 d7 d8 d9 d10
  obtain ⟨c0, c1, c2, c3, c4, c5, c6, c7, c8, c9, c10, _, _, _, _, _, _, _, _, _, _, _⟩ := HX.out w1 hb1
  obtain ⟨d0, d1, d2, d3, d4, d5, d6, d7, d8, d9, d10, _, _, _, _, _, _, _, _, _, _, _⟩ := HY.out w1 hb1
  have B1 := B0.then hb1 B0.size
  go_wp2_with fail
  refine (eqPartS_same _ _ _ _ _ _ _ (h.below B1) (h'.below B1)).mono ?_
  rintro en w2 ⟨rfl, hb2⟩
  go_wp2
  go_ret
  exact ⟨rfl, B1.then hb2 B1.size⟩

set_option maxHeartbeats 2000000 in
theorem eqEntryS_same (a a' : Option Addr) (n cap cap' : Nat) (ls : List En) (w : World) (h : EntS w a n cap ls) (h' : EntS w a' n cap' ls) :
    Calls Tryz.prog 25 #[.slice a n cap, .slice a' n cap'] w fun e w' => e = .returned (.bool true) ∧ Below w.heap.size w w' := by
  have hlen := h.len
  have hmx := h.mx
  have hle := h.le
  unfold maxLen at hmx
  go_enter Tryz.func25, Tryz.ntmps25
  go_wp2
  go_loopw [5] (fun i wr => ∃ k : Nat, k ≤ n ∧ i = .int .i64 k ∧ Below w.heap.size w wr) (fun i _ => n - (intOf i).toNat)
  case atStart => exact ⟨0, by omega, rfl, Below.refl _ _⟩
  case round =>
    obtain ⟨k, hk, rfl, hw⟩ := hrel
    rename World => wr
    by_cases hlt : k < n
    · obtain ⟨b, off, rfl, hbw, hat⟩ := (h.below hw).at_ (by omega)
      obtain ⟨b', off', rfl, hbw', hat'⟩ := (h'.below hw).at_ (by omega)
      obtain ⟨v, m, E⟩ := hat.row (i := k) (by omega)
      obtain ⟨v', m', E'⟩ := hat'.row (i := k) (by omega)
      obtain ⟨c0, c1, c2, c3, c4, c5, c6, c7, c8, c9, c10, hps⟩ := E
      obtain ⟨d0, d1, d2, d3, d4, d5, d6, d7, d8, d9, d10, hps'⟩ := E'
      have hlt' : (k : Int) < (n : Int) := by omega
      have HPS : Hid (∀ W, Below wr.heap.size wr W → Calls Tryz.prog 49 #[enV (eng ls k) v m, enV (eng ls k) v' m'] W fun en w' => en = .returned (.bool true) ∧ Below W.heap.size W w') := fun W hW => eqEntry_same _ _ _ _ _ W (hps.below hW) (hps'.below hW)
      clear hat hat' hps hps'
      go_wp2
      go_region_with ((go_at_call 49; refine (HPS.out _ (by first | exact Below.refl _ _ | exact (Below.refl _ _).drew)).mono ?_; rintro en w2 ⟨rfl, hb2⟩; have hw2 : Below w.heap.size w w2 := by first | exact hw.then hb2 hw.size | exact hw.drew.then hb2 hw.drew.size))
      all_goals
        go_wp2
        go_roundw
        case rel => exact ⟨k + 1, by omega, by go_num, hw2⟩
        case measure => simp [intOf]; omega
    · obtain rfl : k = n := by omega
      have hnn : ¬ (k : Int) < (k : Int) := by omega
      go_wp2
      go_ret
      exact ⟨rfl, hw⟩

end Go.Proofs.YtdgfkcobhhlfbaaGreat
