/- The model's cut: levels at some times, with some more from one time on, ahead of another. -/
import Derived.Test.YtfepkchopndpeaaPkA
namespace Go.Proofs.Ytfepkchopndpeaa
open Go.RowKit

/-- the first time behind last -/
def nextT (ts : List Int) (last : Int) : Int := ts.foldl (fun m t => if last < t then min m t else m) 1000000000
/-- a level more, where it is unlike the last -/
def addL (out : List Lev) (t free : Int) : List Lev := match out.getLast? with
  | some l => if l.2 = free then out else out ++ [(t, free)]
  | none => out ++ [(t, free)]
def freeC (ls : List Lev) (x y more t : Int) : Int := if x ≤ t ∧ t ≤ y - 1 then atI ls t + more else atI ls t
def cutGo (ls : List Lev) (ts : List Int) (x y more : Int) : Nat → Int → List Lev → List Lev
  | 0, _, out => out
  | g + 1, last, out => if nextT ts last = 1000000000 then out else cutGo ls ts x y more g (nextT ts last) (addL out (nextT ts last) (freeC ls x y more (nextT ts last)))
def timesC (ls : List Lev) (x y : Int) : List Int := ls.map (·.1) ++ [x, y]
def cutL (ls : List Lev) (x y more : Int) : List Lev := cutGo ls (timesC ls x y) x y more (ls.length + 3) (-1) []

/-- how many times are behind last -/
def behind (ts : List Int) (last : Int) : Nat := (ts.filter fun t => decide (last < t)).length

theorem nextT_fold (last : Int) : ∀ (ts : List Int) (m : Int), (ts.foldl (fun m t => if last < t then min m t else m) m ≤ m) ∧ (ts.foldl (fun m t => if last < t then min m t else m) m = m ∨ (ts.foldl (fun m t => if last < t then min m t else m) m ∈ ts ∧ last < ts.foldl (fun m t => if last < t then min m t else m) m))
  | [], m => ⟨Int.le_refl _, Or.inl rfl⟩
  | t :: r, m => by
    simp only [List.foldl_cons]
    by_cases c : last < t
    · rw [if_pos c]
      obtain ⟨h1, h2⟩ := nextT_fold last r (min m t)
      refine ⟨by omega, ?_⟩
      rcases h2 with h2 | ⟨h2, h3⟩
      · rw [h2]
        by_cases c2 : m ≤ t
        · left; omega
        · right; rw [show min m t = t from by omega]; exact ⟨List.mem_cons_self, c⟩
      · right; exact ⟨List.mem_cons_of_mem _ h2, h3⟩
    · rw [if_neg c]
      obtain ⟨h1, h2⟩ := nextT_fold last r m
      refine ⟨h1, ?_⟩
      rcases h2 with h2 | ⟨h2, h3⟩
      · exact Or.inl h2
      · exact Or.inr ⟨List.mem_cons_of_mem _ h2, h3⟩

theorem nextT_spec (ts : List Int) (last : Int) (h : nextT ts last ≠ 1000000000) : nextT ts last ∈ ts ∧ last < nextT ts last ∧ nextT ts last < 1000000000 := by
  obtain ⟨h1, h2⟩ := nextT_fold last ts 1000000000
  have h3 : nextT ts last ≤ 1000000000 := h1
  rcases h2 with h2 | ⟨h2, h4⟩
  · exact absurd h2 h
  · exact ⟨h2, h4, by omega⟩

theorem filter_lt {ts : List Int} {p q : Int → Bool} (hpq : ∀ t, q t = true → p t = true) {a : Int} (ha : a ∈ ts) (hp : p a = true) (hq : q a = false) : (ts.filter q).length < (ts.filter p).length := by
  induction ts with
  | nil => cases ha
  | cons b r ih =>
    have hle : (r.filter q).length ≤ (r.filter p).length := by
      clear ih ha
      induction r with
      | nil => exact Nat.le_refl _
      | cons c s ih2 =>
        simp only [List.filter_cons]
        by_cases e1 : q c = true
        · rw [if_pos e1, if_pos (hpq c e1), List.length_cons, List.length_cons]; omega
        · rw [if_neg e1]
          split
          · rw [List.length_cons]; omega
          · exact ih2
    simp only [List.filter_cons]
    rcases List.mem_cons.1 ha with rfl | h
    · rw [if_pos hp, if_neg (by rw [hq]; exact Bool.false_ne_true)]; rw [List.length_cons]; omega
    · have h5 := ih h
      by_cases e1 : q b = true
      · rw [if_pos e1, if_pos (hpq b e1), List.length_cons, List.length_cons]; omega
      · rw [if_neg e1]
        split
        · rw [List.length_cons]; omega
        · exact h5

theorem behind_lt (ts : List Int) (last : Int) (h : nextT ts last ≠ 1000000000) : behind ts (nextT ts last) < behind ts last := by
  obtain ⟨h1, h2, _⟩ := nextT_spec ts last h
  exact filter_lt (p := fun t => decide (last < t)) (q := fun t => decide (nextT ts last < t)) (fun t ht => decide_eq_true (by have := of_decide_eq_true ht; omega)) h1 (decide_eq_true h2) (decide_eq_false (by omega))

theorem cutGo_end {ls : List Lev} {ts : List Int} {x y more last : Int} {out : List Lev} (h : nextT ts last = 1000000000) : ∀ g, cutGo ls ts x y more g last out = out
  | 0 => rfl
  | g + 1 => by rw [cutGo, if_pos h]
theorem cutGo_step {ls : List Lev} {ts : List Int} {x y more last : Int} {out : List Lev} {g : Nat} (h : nextT ts last ≠ 1000000000) :
    cutGo ls ts x y more (g + 1) last out = cutGo ls ts x y more g (nextT ts last) (addL out (nextT ts last) (freeC ls x y more (nextT ts last))) := by rw [cutGo, if_neg h]

theorem info2 : (Try.prog.info? 2).map (fun i => (i.zero, i.size, i.bytes)) = some (some (.int .i64 0), 1, 8) := by kernel_rfl

/-- numbers as they lie -/
def numsV (l : List Int) : List Value := l.map fun x => .int .i64 x

/-- the times of the first k levels, as they lie -/
def timesV (ls : List Lev) (k : Nat) : List Value := numsV ((ls.take k).map (·.1))
theorem timesV_zero (ls : List Lev) : timesV ls 0 = [] := by simp [timesV, numsV]
theorem timesV_succ {ls : List Lev} {k : Nat} (h : k < ls.length) : timesV ls (k + 1) = timesV ls k ++ [.int .i64 (fr ls k)] := by
  unfold timesV
  rw [List.take_succ_eq_append_getElem h]
  simp only [numsV, List.map_append, List.map_cons, List.map_nil, fr, List.getElem?_eq_getElem h, Option.getD_some]
theorem timesV_all {ls : List Lev} {x y : Int} : timesV ls ls.length ++ [.int .i64 x, .int .i64 y] = numsV (timesC ls x y) := by
  simp [timesV, numsV, timesC]

theorem own_base {w : World} {base : Nat} {e : TypeId} {size : Nat} {v : Value} {n : Nat} {xs : List Value} (h : w.ownsRow base e size v n xs) : ∀ k, v.ownBlock = some k → base ≤ k := by
  intro k hk
  rcases h.2 with ⟨rfl, _⟩ | ⟨g, cap, cur, rfl, hg, _⟩
  · simp [Value.ownBlock] at hk
  · simp [Value.ownBlock] at hk; omega

/-- numbers in memory -/
def IntsAt (w : World) (g : Nat) (ts : List Int) : Prop := ∀ j, j < ts.length → w.cell? ⟨g, j, none⟩ = some (.int .i64 (ts.getD j 0))

theorem own_open {w : World} {base n : Nat} {v : Value} {ts : List Int} (h : w.ownsRow base 2 1 v n (numsV ts)) (hn : 0 < n) :
    ∃ g cap, v = .slice (some ⟨g, 0, none⟩) n cap ∧ base ≤ g ∧ g < w.heap.size ∧ n ≤ cap ∧ cap ≤ maxLen ∧ IntsAt w g ts := by
  have hc := @World.ownsRow.cells _ _ _ _ _ _ _ h
  have hl := h.lt
  rcases h.2 with ⟨rfl, h0⟩ | ⟨g, cap, cur, rfl, hb, hg, h1, h2, _⟩
  · omega
  · refine ⟨g, cap, rfl, hb, (hl g rfl).2, h1, h2, fun j hj => ?_⟩
    have := hc (g := g) rfl j (.int .i64 (ts.getD j 0)) (by unfold numsV; rw [List.getElem?_map, List.getElem?_eq_getElem hj, List.getD_eq_getElem?_getD, List.getElem?_eq_getElem hj]; rfl)
    have hadd : (⟨g, 0, none⟩ : Addr).add j = ⟨g, j, none⟩ := by unfold Addr.add; split <;> simp_all
    rwa [hadd] at this

/-- the least of the first k times behind last -/
def nxtTo (ts : List Int) (last : Int) : Nat → Int
  | 0 => 1000000000
  | k + 1 => if last < ts.getD k 0 then min (nxtTo ts last k) (ts.getD k 0) else nxtTo ts last k
theorem nxtTo_take (ts : List Int) (last : Int) : ∀ k, k ≤ ts.length → nxtTo ts last k = (ts.take k).foldl (fun m t => if last < t then min m t else m) 1000000000
  | 0, _ => rfl
  | k + 1, h => by
    rw [List.take_succ_eq_append_getElem (by omega), List.foldl_append, ← nxtTo_take ts last k (by omega), nxtTo]
    have e : ts.getD k 0 = ts[k] := by rw [List.getD_eq_getElem?_getD, List.getElem?_eq_getElem (by omega)]; rfl
    rw [e]
    simp only [List.foldl_cons, List.foldl_nil]
theorem nxtTo_all (ts : List Int) (last : Int) : nxtTo ts last ts.length = nextT ts last := by
  rw [nxtTo_take ts last _ (Nat.le_refl _), List.take_length]; rfl

theorem addL_len (out : List Lev) (t f : Int) : (addL out t f).length ≤ out.length + 1 := by
  unfold addL
  split
  · split
    · omega
    · simp
  · simp
theorem addL_nil (t f : Int) : addL [] t f = [(t, f)] := rfl
theorem addL_same {out : List Lev} {t f : Int} (h0 : 0 < out.length) (h : fe out (out.length - 1) = f) : addL out t f = out := by
  obtain ⟨l, hl⟩ : ∃ l, out.getLast? = some l := by
    rw [List.getLast?_eq_getElem?, List.getElem?_eq_getElem (by omega)]; exact ⟨_, rfl⟩
  have e : fe out (out.length - 1) = l.2 := by
    unfold fe; rw [← List.getLast?_eq_getElem?, hl]; rfl
  unfold addL; rw [hl]; simp only; rw [if_pos (by rw [← e]; exact h)]
theorem addL_other {out : List Lev} {t f : Int} (h0 : 0 < out.length) (h : fe out (out.length - 1) ≠ f) : addL out t f = out ++ [(t, f)] := by
  obtain ⟨l, hl⟩ : ∃ l, out.getLast? = some l := by
    rw [List.getLast?_eq_getElem?, List.getElem?_eq_getElem (by omega)]; exact ⟨_, rfl⟩
  have e : fe out (out.length - 1) = l.2 := by
    unfold fe; rw [← List.getLast?_eq_getElem?, hl]; rfl
  unfold addL; rw [hl]; simp only; rw [if_neg (by rw [← e]; exact h)]

/-- what is built: O holds it, and of the old blocks nothing else has turned -/
structure CutS (W : World) (O : Nat) (T : Int) (u : Value) (out : List Lev) (wr : World) : Prop where
  blk : wr.heap[O]? = some (.cells #[.int .i64 T, u] 26 (0, 0))
  own : wr.ownsRow W.heap.size 65 2 u out.length (cellsOf out)
  but : But O W wr

theorem new_at (w : World) (o : Obj) (s : Nat) (hs : s = w.heap.size) : (w.alloc o).heap[s]? = some o := by subst hs; exact heap_alloc_new w o

theorem own_levs {w : World} {base : Nat} {v : Value} {out : List Lev} (h : w.ownsRow base 65 2 v out.length (cellsOf out)) (hn : 0 < out.length) :
    ∃ g cap, v = .slice (some ⟨g, 0, none⟩) out.length cap ∧ base ≤ g ∧ g < w.heap.size ∧ out.length ≤ cap ∧ cap ≤ maxLen ∧ w.cell? ⟨g, (out.length - 1) * 2 + 1, none⟩ = some (.int .i64 (fe out (out.length - 1))) := by
  have hc := @World.ownsRow.cells _ _ _ _ _ _ _ h
  have hl := h.lt
  rcases h.2 with ⟨rfl, h0⟩ | ⟨g, cap, cur, rfl, hb, hg, h1, h2, _⟩
  · omega
  · refine ⟨g, cap, rfl, hb, (hl g rfl).2, h1, h2, ?_⟩
    have := hc (g := g) rfl ((out.length - 1) * 2 + 1) _ (cellsOf_at out (out.length - 1) (by omega)).2
    have hadd : (⟨g, 0, none⟩ : Addr).add ((out.length - 1) * 2 + 1) = ⟨g, (out.length - 1) * 2 + 1, none⟩ := by unfold Addr.add; split <;> simp_all
    rwa [hadd] at this

theorem own_shape {w : World} {base : Nat} {v : Value} {out : List Lev} (h : w.ownsRow base 65 2 v out.length (cellsOf out)) :
    ∃ a cap, v = .slice a out.length cap := by
  rcases h.2 with ⟨rfl, h0⟩ | ⟨g, cap, cur, rfl, _⟩
  · exact ⟨none, 0, by rw [h0]⟩
  · exact ⟨_, cap, rfl⟩

theorem own_low {w : World} {base base' : Nat} {e : TypeId} {size : Nat} {v : Value} {n : Nat} {xs : List Value} (h : w.ownsRow base e size v n xs) (hb : base' ≤ base) : w.ownsRow base' e size v n xs := by
  refine ⟨h.1, ?_⟩
  rcases h.2 with h | ⟨g, cap, cur, e1, hg, h⟩
  · exact .inl h
  · exact .inr ⟨g, cap, cur, e1, by omega, h⟩

theorem own_below {w w' : World} {base : Nat} {e : TypeId} {size : Nat} {v : Value} {n : Nat} {xs : List Value} (h : w.ownsRow base e size v n xs) (hb : Below w.heap.size w w') : w'.ownsRow base e size v n xs := by
  have hl := h.lt
  refine ⟨h.1, ?_⟩
  rcases h.2 with h | ⟨g, cap, cur, rfl, hg, hgg, h⟩
  · exact .inl h
  · exact .inr ⟨g, cap, cur, rfl, hg, (hb.block g (hl g rfl).2).trans hgg, h⟩

theorem own_set {w : World} {base : Nat} {e : TypeId} {size : Nat} {v : Value} {n : Nat} {xs : List Value} (h : w.ownsRow base e size v n xs) {a : Addr} (ha : a.block < base) (u : Value) : (w.setCell a u).ownsRow base e size v n xs := by
  refine ⟨h.1, ?_⟩
  rcases h.2 with h | ⟨g, cap, cur, rfl, hg, hgg, h⟩
  · exact .inl h
  · exact .inr ⟨g, cap, cur, rfl, hg, (Below.heap_setCell _ _ _ _ (by omega)).trans hgg, h⟩

theorem IntsAt.but {W w : World} {O g : Nat} {ts : List Int} (h : IntsAt W g ts) (hb : But O W w) (hg : g < W.heap.size) (hO : g ≠ O) : IntsAt w g ts :=
  fun j hj => (World.cell?_of_block (w := W) (a := ⟨g, j, none⟩) (hb.block g hg hO)).trans (h j hj)

theorem But.grown {O : Nat} {W w w' : World} {row : Option Nat} (h : But O W w) (hg : w.grownBy w' row) (hr : ∀ k, row = some k → W.heap.size ≤ k) : But O W w' :=
  ⟨hg.os.trans h.os, hg.tape.trans h.tape, hg.output.trans h.output, Nat.le_trans h.size hg.size, fun k hk hne =>
    (hg.block k (Nat.lt_of_lt_of_le hk h.size) (fun e => by have := hr k e.symm; omega)).trans (h.block k hk hne)⟩

theorem timesC_mem {T : Int} {ls : List Lev} {x y t : Int} (po : PO T ls) (hx : 0 ≤ x) (hy : 0 ≤ y) (h : t ∈ timesC ls x y) : 0 ≤ t := by
  unfold timesC at h
  rcases List.mem_append.1 h with h | h
  · obtain ⟨l, hl, rfl⟩ := List.mem_map.1 h
    obtain ⟨i, hi, e⟩ := List.getElem_of_mem hl
    have := po.pos hi
    have e2 : fr ls i = l.1 := by unfold fr; rw [List.getElem?_eq_getElem hi, e]; rfl
    omega
  · simp at h; omega

theorem timesC_len (ls : List Lev) (x y : Int) : (timesC ls x y).length = ls.length + 2 := by
  unfold timesC; simp

theorem PO.at_bd {T : Int} {ls : List Lev} (po : PO T ls) {t : Int} (ht : 0 ≤ t) : 0 ≤ atI ls t ∧ atI ls t ≤ 1000 := by
  have h := po.el _ (po.lvl_spec ht).1
  have := po.t1
  unfold atI
  omega

theorem cellsOf_more (out : List Lev) (t f : Int) : cellsOf (out ++ [(t, f)]) = cellsOf out ++ [.int .i64 t, .int .i64 f] := by simp [cellsOf]

theorem sized26 : (Try.prog.info? 26).map (·.size) = some 2 := by kernel_rfl

theorem own_start (w : World) (s : Nat) (hs : s = w.heap.size) : (w.alloc (.cells #[] 2)).ownsRow s 2 1 (.slice (some ⟨s, 0, none⟩) 0 0) 0 [] := by
  subst hs
  exact World.ownsRow_made w #[] 0 (Nat.le_refl _) (Nat.zero_le _) rfl

set_option maxRecDepth 8000 in
set_option maxHeartbeats 2000000 in
theorem l2Cut_any (T x y more : Int) (a : Option Addr) (n cap : Nat) (ls : List Lev) (w : World) (h : LevS w a n cap ls) (po : PO T ls) (hx : okB x = true) (hy : okB y = true) (hm : -1000 ≤ more ∧ more ≤ 1000) :
    Calls Try.prog 67 #[.agg #[.int .i64 T, .slice a n cap], .int .i64 x, .int .i64 y, .int .i64 more] w fun e w' =>
      ∃ v, e = .returned (.agg #[.int .i64 T, v]) ∧ w'.ownsRow w.heap.size 65 2 v (cutL ls x y more).length (cellsOf (cutL ls x y more)) ∧ Below w.heap.size w w' := by
  obtain ⟨i0, hi, hz0, hz1, hz2⟩ := info_parts info2
  have hlen := h.len
  have hn : n ≤ 200 := by have := po.n2; omega
  have h0 : 0 < n := by have := po.n1; omega
  obtain ⟨x0, x1⟩ := okB_t hx
  obtain ⟨y0, y1⟩ := okB_t hy
  obtain ⟨b, off, rfl, hbw, hat⟩ := h.at_ h0
  have w0 : Below w.heap.size w (w.alloc (.cells #[.int .i64 T, .slice (some ⟨b, off, none⟩) n cap] 26)) := box_below
  have WW : Below w.heap.size w ((w.alloc (.cells #[.int .i64 T, .slice (some ⟨b, off, none⟩) n cap] 26)).alloc (.cells #[.int .i64 0, .slice none 0 0] 26)) := w0.trans (box_below.mono (by simp))
  go_enter Try.func67, Try.ntmps67
  go_wp2
  go_loopw [9, 10] (fun v i wr => ∃ k : Nat, k ≤ n ∧ i = .int .i64 k ∧ wr.ownsRow (w.heap.size + 1 + 1) 2 1 v k (timesV ls k) ∧ Below (w.heap.size + 1 + 1) ((w.alloc (.cells #[.int .i64 T, .slice (some ⟨b, off, none⟩) n cap] 26)).alloc (.cells #[.int .i64 0, .slice none 0 0] 26)) wr) (fun _ i _ => n - (intOf i).toNat)
  case atStart =>
    refine ⟨0, by omega, rfl, ?_, (Below.refl _ _).alloc (by simp) _⟩
    rw [timesV_zero]
    exact own_start _ _ (by simp)
  case round =>
    obtain ⟨k, hk, rfl, hown, hw⟩ := hrel
    obtain ⟨p0, p1, hz⟩ := box_cells (box_below.trans (hw.mono (by simp)))
    have V := WW.trans (hw.mono (by omega))
    by_cases hlt : k < n
    · obtain ⟨q0, q1⟩ := cells_below (k := k) hat V hbw (by omega)
      have hsz := hw.size
      go_wp2_with (at_builtin; refine wpList_append_own _ rfl (.tmp 25) (.tmp 32) 30 rfl (w.heap.size + 1 + 1) 2 i0 (.int .i64 0) 1 8 Try.underlying30 hi hz0 hz1 hz2 rfl (by decide) _ _ _ rfl (hown.alloc _) ⟨wr.heap.size, 0, none⟩ 1 1 [.int .i64 (fr ls k)] rfl rfl ?c1 ?c2 ?c3 ?c4 ?c5 ?_)
      case c1 =>
        intro j u hj
        match j, hj with
        | 0, hj => simp at hj; subst hj; simp [Addr.add]
      case c2 => intro u hu; simp at hu; subst hu; rfl
      case c3 => unfold maxLen; omega
      case c4 => omega
      case c5 => have := hw.size; simp at this ⊢; omega
      intro v' w1 hown' hgrow _
      rw [← timesV_succ (by omega)] at hown'
      have hb1 := (hw.alloc (by simpa using hsz) _).grown hgrow (by simp at hsz ⊢; omega) (own_base hown)
      clear hgrow
      go_wp2
      go_roundw
      case rel => exact ⟨k + 1, by omega, by go_num, hown', hb1⟩
      case measure => simp [intOf]; omega
    · have e : k = n := by omega
      subst e
      have hsz := hw.size
      go_wp2_with (at_builtin; refine wpList_append_own _ rfl (.tmp 34) (.tmp 37) 30 rfl (w.heap.size + 1 + 1) 2 i0 (.int .i64 0) 1 8 Try.underlying30 hi hz0 hz1 hz2 rfl (by decide) _ _ _ rfl (hown.alloc _) ⟨wr.heap.size, 0, none⟩ 2 2 [.int .i64 x, .int .i64 y] rfl rfl ?d1 ?d2 ?d3 ?d4 ?d5 ?_)
      case d1 =>
        intro j u hj
        match j, hj with
        | 0, hj => simp at hj; subst hj; simp [Addr.add]
        | 1, hj => simp at hj; subst hj; simp [Addr.add]
      case d2 => intro u hu; simp at hu; rcases hu with rfl | rfl <;> rfl
      case d3 => unfold maxLen; omega
      case d4 => omega
      case d5 => simp at hsz ⊢; omega
      intro v' w1 hown' hgrow _
      have hown2 : w1.ownsRow (w.heap.size + 1 + 1) 2 1 v' (k + 2) (numsV (timesC ls x y)) := by rw [← timesV_all, hlen]; simpa using hown'
      have hb1 := (hw.alloc (by simpa using hsz) _).grown hgrow (by simp at hsz ⊢; omega) (own_base hown)
      clear hgrow hown' hown hw p0 p1 V WW hsz hz
      have hV1 := box_below.trans (hb1.mono (by simp))
      obtain ⟨p0, p1, hz⟩ := box_cells (hV1.mono (by simp))
      have hsz1 := hb1.size
      simp at hsz1
      have hO : w1.heap[w.heap.size + 1]? = some (.cells #[.int .i64 0, .slice none 0 0] 26 (0, 0)) := by rw [hb1.block _ (by omega)]; exact new_at _ _ _ (by simp)
      have o0 := cell_of_blk 0 hO (by simp)
      have o1 := cell_of_blk 1 hO (by simp)
      have f0 := free_of_blk 0 hO
      have f1 := free_of_blk 1 hO
      go_wp2
      obtain ⟨g, tcap, rfl, hg1, hg2, hg3, hg4, hI⟩ := own_open hown2 (by omega)
      clear o0 o1 f0 f1 p0 p1 hown2
      obtain ⟨K, hKe⟩ : ∃ K, K = k + 2 := ⟨_, rfl⟩
      rw [← hKe]
      have hK1 : K ≤ k + 2 := by omega
      have hK2 : k + 2 ≤ K := by omega
      clear hg3 hg4
      obtain ⟨w2, hw2⟩ : ∃ w2, w2 = w1.alloc (.cells #[.int .i64 T, .slice none 0 0] 26) := ⟨_, rfl⟩
      rw [← hw2]
      have hB2 : Below w1.heap.size w1 w2 := by rw [hw2]; exact box_below
      have hz2' : w2.heap.size = w1.heap.size + 1 := by rw [hw2]; simp
      have hO2 : w2.heap[w1.heap.size]? = some (.cells #[.int .i64 T, .slice none 0 0] 26 (0, 0)) := by rw [hw2]; exact heap_alloc_new _ _
      have hR2 : w2.heap[w.heap.size + 1]? = some (.cells #[.int .i64 0, .slice none 0 0] 26 (0, 0)) := (hB2.block _ (by omega)).trans hO
      have hI2 : IntsAt w2 g (timesC ls x y) := fun j hj => (hB2.cell (p := ⟨g, j, none⟩) hg2).trans (hI j hj)
      have hV2 : Below (w.alloc (.cells #[.int .i64 T, .slice (some ⟨b, off, none⟩) k cap] 26)).heap.size (w.alloc (.cells #[.int .i64 T, .slice (some ⟨b, off, none⟩) k cap] 26)) w2 := (hV1.mono (by simp)).trans (hB2.mono (by simp; omega))
      clear hw2 hV1 hO hI hb1
      obtain ⟨O, hOe⟩ : ∃ O, O = w1.heap.size := ⟨_, rfl⟩
      rw [← hOe] at hO2 hz2' hz hsz1 hg2 ⊢
      clear hB2
      have hN0 : Hid (cutGo ls (timesC ls x y) x y more (k + 3) (-1) [] = cutL ls x y more) := by unfold Hid cutL; rw [hlen]
      have hTL : Hid ((timesC ls x y).length = K) := by unfold Hid; rw [timesC_len, hlen, hKe]
      clear hKe
      have hPO : Hid (PO T ls) := po
      have hbe : behind (timesC ls x y) (-1) ≤ K := by have hTL := hTL.out; unfold behind; have := List.length_filter_le (fun t => decide ((-1 : Int) < t)) (timesC ls x y); omega
      clear hOe po
      go_loopw [12] (fun l wr => ∃ (last : Int) (c : Nat) (out : List Lev) (u : Value), l = .int .i64 last ∧ -1 ≤ last ∧ behind (timesC ls x y) last ≤ c ∧ out.length + c ≤ k + 3 ∧ Hid (cutGo ls (timesC ls x y) x y more c last out = cutL ls x y more) ∧ CutS w2 O T u out wr) (fun l _ => behind (timesC ls x y) (intOf l))
      case atStart => exact ⟨-1, k + 3, [], .slice none 0 0, rfl, by omega, by omega, by simp, hN0, ⟨hO2, World.ownsRow_nil _ _ _ _, But.refl _ _⟩⟩
      case round =>
        obtain ⟨last, c, out, u, rfl, l0, hc, hoc, hN, S⟩ := hrel
        obtain ⟨ua, ucap, rfl⟩ := own_shape S.own
        clear hN0 hbe hO2
        have VW : Below (w.heap.size + 1) w2 wr := S.but.below (by omega) (by omega)
        have hVr := hV2.trans (VW.mono (by simp))
        obtain ⟨p0, p1, hzr⟩ := box_cells hVr
        have V : Below w.heap.size w wr := box_below.trans (hVr.mono (by simp))
        have hR : wr.heap[w.heap.size + 1]? = some (.cells #[.int .i64 0, .slice none 0 0] 26 (0, 0)) := (S.but.block _ (by omega) (by omega)).trans hR2
        have hI := hI2.but S.but (by omega) (by omega)
        have hsr := S.but.size
        go_wp2
        go_loop [13, 14] (fun m i => ∃ q : Nat, q ≤ K ∧ i = .int .i64 q ∧ m = .int .i64 (nxtTo (timesC ls x y) last q)) (fun _ i => K - (intOf i).toNat)
        case atStart => exact ⟨0, by omega, rfl, rfl⟩
        case round =>
          obtain ⟨q, hq, rfl, rfl⟩ := hrel
          by_cases hlt : q < K
          · have I0 := hI q (by rw [hTL.out]; exact hlt)
            have i2 : (q : Int) < ((K : Nat) : Int) := by omega
            obtain ⟨tv, htv⟩ : ∃ tv, (timesC ls x y).getD q 0 = tv := ⟨_, rfl⟩
            obtain ⟨m0, hm0⟩ : ∃ m0, nxtTo (timesC ls x y) last q = m0 := ⟨_, rfl⟩
            rw [htv] at I0
            rw [hm0]
            by_cases hc2 : last < tv
            · have E : Hid (nxtTo (timesC ls x y) last (q + 1) = min m0 tv) := by unfold Hid; rw [nxtTo, htv, hm0, if_pos hc2]
              clear htv hm0 hV2 hVr V VW hR S hI hI2 hR2 hN hc hoc hPO hat h w0
              go_wp2_with (go_at_call 65; refine (l1Min_any _ _ _).mono ?_; rintro e w' ⟨rfl, hq⟩; have hq' := hq.symm; clear hq; subst hq')
              go_round
              case rel => exact ⟨q + 1, by omega, by go_num, by rw [E.out]⟩
              case measure => simp [intOf]; omega
            · have E : Hid (nxtTo (timesC ls x y) last (q + 1) = m0) := by unfold Hid; rw [nxtTo, htv, hm0, if_neg hc2]
              clear htv hm0 hV2 hVr V VW hR S hI hI2 hR2 hN hc hoc hPO hat h w0
              go_wp2
              go_round
              case rel => exact ⟨q + 1, by omega, by go_num, by rw [E.out]⟩
              case measure => simp [intOf]; omega
          · have e : K = q := by omega
            subst e
            have hE : nxtTo (timesC ls x y) last (K) = nextT (timesC ls x y) last := by rw [← hTL.out]; exact nxtTo_all _ _
            rw [hE]
            clear hE
            by_cases hn1 : nextT (timesC ls x y) last = 1000000000
            · have hN1 : Hid (out = cutL ls x y more) := by have := hN.out; rw [cutGo_end hn1] at this; exact this
              rw [hn1]
              have o0 := cell_of_blk 0 S.blk (by simp)
              have o1 := cell_of_blk 1 S.blk (by simp)
              have f0 := free_of_blk 0 hR
              have f1 := free_of_blk 1 hR
              have r0 := cell_of_blk 0 hR (by simp)
              have r1 := cell_of_blk 1 hR (by simp)
              simp at o0 o1 r0 r1
              go_wp2
              have hg := blk_set (blk_set hR (.int .i64 T) (j := 0)) (.slice ua out.length ucap) (j := 1)
              refine bodyPost_ret (results_cell_row rfl _ _ (w.heap.size + 1) _ _ _ _ rfl hg Try.underlying26 rfl sized26) rfl ?_
              refine ⟨_, rfl, ?_, (V.setCell (by simp) _).setCell (by simp) _⟩
              rw [← hN1.out]
              exact own_low (own_set (own_set S.own (by simp; omega) _) (by simp; omega) _) (by omega)
            · have hM := nextT_spec _ _ hn1
              have hB := behind_lt _ _ hn1
              obtain ⟨t, ht⟩ : ∃ t, nextT (timesC ls x y) last = t := ⟨_, rfl⟩
              have hN1 : Hid (cutGo ls (timesC ls x y) x y more (c - 1) t (addL out t (freeC ls x y more t)) = cutL ls x y more) := by
                have h1 := hN.out
                obtain ⟨c', rfl⟩ : ∃ c', c = c' + 1 := ⟨c - 1, by omega⟩
                rw [cutGo_step hn1, ht] at h1
                exact h1
              rw [ht] at hM hB hn1 ⊢
              have t0 := timesC_mem hPO.out x0 y0 hM.1
              have t1 := hM.2.2
              have t2 := hM.2.1
              clear hM ht hN hI hI2
              go_wp2_with fail
              refine (specAt_any T t _ k cap ls _ (h.below V) h0).mono ?_
              rintro e w3 ⟨rfl, U⟩
              have hz3 := U.size
              have hO3 : w3.heap[O]? = some (.cells #[.int .i64 T, .slice ua out.length ucap] 26 (0, 0)) := (U.block O (by omega)).trans S.blk
              have own3 := own_below S.own U
              have But3 := S.but.trans (But.of U)
              have o0 := cell_of_blk 0 hO3 (by simp)
              have o1 := cell_of_blk 1 hO3 (by simp)
              simp at o0 o1
              have f0 := free_of_blk 0 hO3
              have f1 := free_of_blk 1 hO3
              clear p0 p1 hVr VW V hR S U
              have hA : 0 ≤ atI ls t ∧ atI ls t ≤ 1000 := hPO.out.at_bd t0
              obtain ⟨av, hav⟩ : ∃ av, atI ls t = av := ⟨_, rfl⟩
              rw [hav] at hA ⊢
              obtain ⟨i1, hj, hj0, hj1, hj2⟩ := info_parts info69
              have hol : out.length ≤ 300 := by omega
              by_cases hin : inB t x (y - 1) = true
              · obtain ⟨f, hf⟩ : ∃ f, freeC ls x y more t = f := ⟨_, rfl⟩
                have hf2 : f = av + more := by rw [← hf, ← hav]; unfold freeC; rw [if_pos (inB_t hin)]
                rw [hf] at hN1
                clear hav hf
                have e1 : av + more = f := hf2.symm
                have e2 : IntKind.i64.wrap (av + more) = f := by rw [hf2, IntKind.wrap_i64]; omega
                clear hf2
                by_cases hl : out.length = 0
                · obtain rfl : out = [] := List.eq_nil_of_length_eq_zero hl
                  have HS : Hid (addL [] t f = [] ++ [(t, f)]) := rfl
                  go_wp2_with (first | (go_at_call 42; refine (l1In_any _ _ _ _).mono ?_; rintro e w' ⟨rfl, hq⟩; have hq' := hq.symm; clear hq; subst hq') | (at_builtin; refine wpList_append_own _ rfl (.tmp 92) (.tmp 96) 24 rfl w2.heap.size 65 i1 (.agg #[.int .i64 0, .int .i64 0]) 2 16 Try.underlying24 hj hj0 hj1 hj2 rfl (by decide) _ _ _ rfl (own3.alloc _) ⟨w3.heap.size, 0, none⟩ 1 1 [.int .i64 t, .int .i64 f] rfl rfl ?g1 ?g2 ?g3 ?g4 ?g5 ?_))
                  case g1 =>
                    intro j u hj
                    match j, hj with
                    | 0, hj => simp at hj; subst hj; simp [Addr.add]
                    | 1, hj => simp at hj; subst hj; simp [Addr.add]
                  case g2 => intro u hu; simp at hu; rcases hu with rfl | rfl <;> rfl
                  case g3 => unfold maxLen; omega
                  case g4 => omega
                  case g5 => simp; omega
                  intro v' w4 hown' hgrow _
                  rw [← cellsOf_more] at hown'
                  have hown2 : w4.ownsRow w2.heap.size 65 2 v' ([] ++ [(t, f)]).length (cellsOf ([] ++ [(t, f)])) := by rw [List.length_append, hz2']; exact hown'
                  have But4 : But O w2 w4 := (But3.alloc _).grown hgrow (own_base own3)
                  have hO4 := (hgrow.block O (by simp; omega) (fun e => by have := own_base own3 O e.symm; omega)).trans ((Below.heap_alloc _ _ _ (by omega)).trans hO3)
                  clear hown' hgrow own3 But3 o0 o1 f0 f1 hO3
                  obtain ⟨va, vcap, rfl⟩ := own_shape hown2
                  have o0 := cell_of_blk 0 hO4 (by simp)
                  have o1 := cell_of_blk 1 hO4 (by simp)
                  simp at o0 o1
                  have f0 := free_of_blk 0 hO4
                  have f1 := free_of_blk 1 hO4
                  go_wp2
                  go_roundw
                  case rel => exact ⟨t, c - 1, [] ++ [(t, f)], _, rfl, by omega, by omega, by rw [List.length_append]; simp; omega, by rw [← HS.out]; exact hN1, ⟨blk_set hO4 _ (j := 1), own_set (a := ⟨O, 1, none⟩) hown2 (show O < w2.heap.size by omega) _, But4.setCell 1 _⟩⟩
                  case measure => simp only [intOf]; exact hB
                · obtain ⟨g2, cap2, hsl, hg21, hg22, hle2, hmx2, hcell⟩ := own_levs own3 (by omega)
                  obtain ⟨rfl, rfl⟩ : ua = some ⟨g2, 0, none⟩ ∧ ucap = cap2 := by injection hsl with h1 _ h2; exact ⟨h1, h2⟩
                  clear hsl hle2 hmx2
                  obtain ⟨la, hla⟩ : ∃ la, fe out (out.length - 1) = la := ⟨_, rfl⟩
                  rw [hla] at hcell
                  have hl1 : 0 < out.length := by omega
                  by_cases hs : la = f
                  · rw [← hla] at hs
                    have HS : Hid (addL out t f = out) := addL_same hl1 hs
                    rw [hla] at hs
                    subst hs
                    clear hla
                    go_wp2_with (go_at_call 42; refine (l1In_any _ _ _ _).mono ?_; rintro e w' ⟨rfl, hq⟩; have hq' := hq.symm; clear hq; subst hq')
                    go_roundw
                    case rel => exact ⟨t, c - 1, out, _, rfl, by omega, by omega, by omega, by have := HS.out; rw [this] at hN1; exact hN1, ⟨hO3, own3, But3⟩⟩
                    case measure => simp only [intOf]; exact hB
                  · have HS : Hid (addL out t f = out ++ [(t, f)]) := addL_other hl1 (by rw [hla]; exact hs)
                    have hs1 : (la == f) = false := by simpa using hs
                    have hs2 : (la != f) = true := by simpa using hs
                    clear hla
                    go_wp2_with (first | (go_at_call 42; refine (l1In_any _ _ _ _).mono ?_; rintro e w' ⟨rfl, hq⟩; have hq' := hq.symm; clear hq; subst hq') | (at_builtin; refine wpList_append_own _ rfl (.tmp 92) (.tmp 96) 24 rfl w2.heap.size 65 i1 (.agg #[.int .i64 0, .int .i64 0]) 2 16 Try.underlying24 hj hj0 hj1 hj2 rfl (by decide) _ _ _ rfl (own3.alloc _) ⟨w3.heap.size, 0, none⟩ 1 1 [.int .i64 t, .int .i64 f] rfl rfl ?g1 ?g2 ?g3 ?g4 ?g5 ?_))
                    case g1 =>
                      intro j u hj
                      match j, hj with
                      | 0, hj => simp at hj; subst hj; simp [Addr.add]
                      | 1, hj => simp at hj; subst hj; simp [Addr.add]
                    case g2 => intro u hu; simp at hu; rcases hu with rfl | rfl <;> rfl
                    case g3 => unfold maxLen; omega
                    case g4 => omega
                    case g5 => simp; omega
                    intro v' w4 hown' hgrow _
                    rw [← cellsOf_more] at hown'
                    have hown2 : w4.ownsRow w2.heap.size 65 2 v' (out ++ [(t, f)]).length (cellsOf (out ++ [(t, f)])) := by rw [List.length_append, hz2']; exact hown'
                    have But4 : But O w2 w4 := (But3.alloc _).grown hgrow (own_base own3)
                    have hO4 := (hgrow.block O (by simp; omega) (fun e => by have := own_base own3 O e.symm; omega)).trans ((Below.heap_alloc _ _ _ (by omega)).trans hO3)
                    clear hown' hgrow own3 But3 o0 o1 f0 f1 hO3
                    obtain ⟨va, vcap, rfl⟩ := own_shape hown2
                    have hL : (out ++ [(t, f)]).length = out.length + 1 := by simp
                    rw [hL] at hown2
                    have o0 := cell_of_blk 0 hO4 (by simp)
                    have o1 := cell_of_blk 1 hO4 (by simp)
                    simp at o0 o1
                    have f0 := free_of_blk 0 hO4
                    have f1 := free_of_blk 1 hO4
                    go_wp2
                    go_roundw
                    case rel => exact ⟨t, c - 1, out ++ [(t, f)], _, rfl, by omega, by omega, by rw [List.length_append]; simp; omega, by rw [← HS.out]; exact hN1, ⟨blk_set hO4 _ (j := 1), by rw [hL]; exact own_set (a := ⟨O, 1, none⟩) hown2 (show O < w2.heap.size by omega) _, But4.setCell 1 _⟩⟩
                    case measure => simp only [intOf]; exact hB
              · simp only [Bool.not_eq_true] at hin
                have hf2 : freeC ls x y more t = av := by rw [← hav]; unfold freeC; rw [if_neg (by have := inB_f hin; omega)]
                rw [hf2] at hN1
                clear hav hf2
                obtain ⟨f, hf⟩ : ∃ f, av = f := ⟨_, rfl⟩
                rw [hf] at hN1 hA ⊢
                clear hf
                by_cases hl : out.length = 0
                · obtain rfl : out = [] := List.eq_nil_of_length_eq_zero hl
                  have HS : Hid (addL [] t f = [] ++ [(t, f)]) := rfl
                  go_wp2_with (first | (go_at_call 42; refine (l1In_any _ _ _ _).mono ?_; rintro e w' ⟨rfl, hq⟩; have hq' := hq.symm; clear hq; subst hq') | (at_builtin; refine wpList_append_own _ rfl (.tmp 92) (.tmp 96) 24 rfl w2.heap.size 65 i1 (.agg #[.int .i64 0, .int .i64 0]) 2 16 Try.underlying24 hj hj0 hj1 hj2 rfl (by decide) _ _ _ rfl (own3.alloc _) ⟨w3.heap.size, 0, none⟩ 1 1 [.int .i64 t, .int .i64 f] rfl rfl ?g1 ?g2 ?g3 ?g4 ?g5 ?_))
                  case g1 =>
                    intro j u hj
                    match j, hj with
                    | 0, hj => simp at hj; subst hj; simp [Addr.add]
                    | 1, hj => simp at hj; subst hj; simp [Addr.add]
                  case g2 => intro u hu; simp at hu; rcases hu with rfl | rfl <;> rfl
                  case g3 => unfold maxLen; omega
                  case g4 => omega
                  case g5 => simp; omega
                  intro v' w4 hown' hgrow _
                  rw [← cellsOf_more] at hown'
                  have hown2 : w4.ownsRow w2.heap.size 65 2 v' ([] ++ [(t, f)]).length (cellsOf ([] ++ [(t, f)])) := by rw [List.length_append, hz2']; exact hown'
                  have But4 : But O w2 w4 := (But3.alloc _).grown hgrow (own_base own3)
                  have hO4 := (hgrow.block O (by simp; omega) (fun e => by have := own_base own3 O e.symm; omega)).trans ((Below.heap_alloc _ _ _ (by omega)).trans hO3)
                  clear hown' hgrow own3 But3 o0 o1 f0 f1 hO3
                  obtain ⟨va, vcap, rfl⟩ := own_shape hown2
                  have o0 := cell_of_blk 0 hO4 (by simp)
                  have o1 := cell_of_blk 1 hO4 (by simp)
                  simp at o0 o1
                  have f0 := free_of_blk 0 hO4
                  have f1 := free_of_blk 1 hO4
                  go_wp2
                  go_roundw
                  case rel => exact ⟨t, c - 1, [] ++ [(t, f)], _, rfl, by omega, by omega, by rw [List.length_append]; simp; omega, by rw [← HS.out]; exact hN1, ⟨blk_set hO4 _ (j := 1), own_set (a := ⟨O, 1, none⟩) hown2 (show O < w2.heap.size by omega) _, But4.setCell 1 _⟩⟩
                  case measure => simp only [intOf]; exact hB
                · obtain ⟨g2, cap2, hsl, hg21, hg22, hle2, hmx2, hcell⟩ := own_levs own3 (by omega)
                  obtain ⟨rfl, rfl⟩ : ua = some ⟨g2, 0, none⟩ ∧ ucap = cap2 := by injection hsl with h1 _ h2; exact ⟨h1, h2⟩
                  clear hsl hle2 hmx2
                  obtain ⟨la, hla⟩ : ∃ la, fe out (out.length - 1) = la := ⟨_, rfl⟩
                  rw [hla] at hcell
                  have hl1 : 0 < out.length := by omega
                  by_cases hs : la = f
                  · rw [← hla] at hs
                    have HS : Hid (addL out t f = out) := addL_same hl1 hs
                    rw [hla] at hs
                    subst hs
                    clear hla
                    go_wp2_with (go_at_call 42; refine (l1In_any _ _ _ _).mono ?_; rintro e w' ⟨rfl, hq⟩; have hq' := hq.symm; clear hq; subst hq')
                    go_roundw
                    case rel => exact ⟨t, c - 1, out, _, rfl, by omega, by omega, by omega, by have := HS.out; rw [this] at hN1; exact hN1, ⟨hO3, own3, But3⟩⟩
                    case measure => simp only [intOf]; exact hB
                  · have HS : Hid (addL out t f = out ++ [(t, f)]) := addL_other hl1 (by rw [hla]; exact hs)
                    have hs1 : (la == f) = false := by simpa using hs
                    have hs2 : (la != f) = true := by simpa using hs
                    clear hla
                    go_wp2_with (first | (go_at_call 42; refine (l1In_any _ _ _ _).mono ?_; rintro e w' ⟨rfl, hq⟩; have hq' := hq.symm; clear hq; subst hq') | (at_builtin; refine wpList_append_own _ rfl (.tmp 92) (.tmp 96) 24 rfl w2.heap.size 65 i1 (.agg #[.int .i64 0, .int .i64 0]) 2 16 Try.underlying24 hj hj0 hj1 hj2 rfl (by decide) _ _ _ rfl (own3.alloc _) ⟨w3.heap.size, 0, none⟩ 1 1 [.int .i64 t, .int .i64 f] rfl rfl ?g1 ?g2 ?g3 ?g4 ?g5 ?_))
                    case g1 =>
                      intro j u hj
                      match j, hj with
                      | 0, hj => simp at hj; subst hj; simp [Addr.add]
                      | 1, hj => simp at hj; subst hj; simp [Addr.add]
                    case g2 => intro u hu; simp at hu; rcases hu with rfl | rfl <;> rfl
                    case g3 => unfold maxLen; omega
                    case g4 => omega
                    case g5 => simp; omega
                    intro v' w4 hown' hgrow _
                    rw [← cellsOf_more] at hown'
                    have hown2 : w4.ownsRow w2.heap.size 65 2 v' (out ++ [(t, f)]).length (cellsOf (out ++ [(t, f)])) := by rw [List.length_append, hz2']; exact hown'
                    have But4 : But O w2 w4 := (But3.alloc _).grown hgrow (own_base own3)
                    have hO4 := (hgrow.block O (by simp; omega) (fun e => by have := own_base own3 O e.symm; omega)).trans ((Below.heap_alloc _ _ _ (by omega)).trans hO3)
                    clear hown' hgrow own3 But3 o0 o1 f0 f1 hO3
                    obtain ⟨va, vcap, rfl⟩ := own_shape hown2
                    have hL : (out ++ [(t, f)]).length = out.length + 1 := by simp
                    rw [hL] at hown2
                    have o0 := cell_of_blk 0 hO4 (by simp)
                    have o1 := cell_of_blk 1 hO4 (by simp)
                    simp at o0 o1
                    have f0 := free_of_blk 0 hO4
                    have f1 := free_of_blk 1 hO4
                    go_wp2
                    go_roundw
                    case rel => exact ⟨t, c - 1, out ++ [(t, f)], _, rfl, by omega, by omega, by rw [List.length_append]; simp; omega, by rw [← HS.out]; exact hN1, ⟨blk_set hO4 _ (j := 1), by rw [hL]; exact own_set (a := ⟨O, 1, none⟩) hown2 (show O < w2.heap.size by omega) _, But4.setCell 1 _⟩⟩
                    case measure => simp only [intOf]; exact hB


end Go.Proofs.Ytfepkchopndpeaa
