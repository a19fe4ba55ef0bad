/- Rows of rows of int64s: each row in a block of its own; the laws' own helpers over them. -/
import Derived.Test.YtgiodpjaglhgdaaIntRow
namespace Go.Proofs.Ytgiodpjaglhgdaa
open Go.RowKit

theorem IntS.drewI {w : World} {a : Option Addr} {n cap : Nat} {zs : List Int} (h : IntS w a n cap zs) : IntS w.drew a n cap zs := h.below (Below.refl _ _).drew

/-- a row: its block (none: no block), its room, what it holds -/
structure Rw where
  o : Option Nat
  c : Nat
  l : List Int
def Rw.a (x : Rw) : Option Addr := x.o.map fun g => ⟨g, 0, none⟩
def Rw.val (x : Rw) : Value := .slice x.a x.l.length x.c
def ints (l : List Int) : List Value := l.map (Value.int .i64)

def RowOk (w : World) (base : Nat) (x : Rw) : Prop := w.ownsRow base 2 1 x.val x.l.length (ints x.l)

theorem RowOk.below {w w' : World} {base : Nat} {x : Rw} (h : RowOk w base x) (hb : Below w.heap.size w w') : RowOk w' base x := by
  refine ⟨h.1, ?_⟩
  rcases h.2 with h2 | ⟨g, cap, cur, e, h1, h2, h3⟩
  · exact Or.inl h2
  · exact Or.inr ⟨g, cap, cur, e, h1, (hb.block g (lt_of_block h2)).trans h2, h3⟩
theorem RowOk.keep {w w' : World} {base : Nat} {x : Rw} (h : RowOk w base x) (hb : ∀ g, x.o = some g → w'.heap[g]? = w.heap[g]?) : RowOk w' base x := by
  refine ⟨h.1, ?_⟩
  rcases h.2 with h2 | ⟨g, cap, cur, e, h1, h2, h3⟩
  · exact Or.inl h2
  · refine Or.inr ⟨g, cap, cur, e, h1, (hb g ?_).trans h2, h3⟩
    unfold Rw.val Rw.a at e
    injection e with e1 _ _
    cases ho : x.o with
    | none => rw [ho] at e1; cases e1
    | some g' => rw [ho] at e1; injection e1 with e1; injection e1 with e1; rw [e1]
theorem RowOk.low {w : World} {base base' : Nat} {x : Rw} (h : RowOk w base x) (hb : base' ≤ base) : RowOk w base' x := by
  refine ⟨h.1, ?_⟩
  rcases h.2 with h2 | ⟨g, cap, cur, e, h1, h3⟩
  · exact Or.inl h2
  · exact Or.inr ⟨g, cap, cur, e, by omega, h3⟩
/-- no block: nothing is held; a block: it is the row's -/
theorem RowOk.what {w : World} {base : Nat} {x : Rw} (h : RowOk w base x) : (x.o = none ∧ x.l = [] ∧ x.c = 0) ∨ (∃ g, x.o = some g ∧ base ≤ g ∧ IntB w g x.l.length x.l ∧ x.l.length ≤ x.c ∧ x.c ≤ maxLen) := by
  cases ho : x.o with
  | none =>
    left
    rcases h.2 with ⟨h1, h2⟩ | ⟨g, cap, cur, e, _⟩
    · unfold Rw.val at h1
      injection h1 with _ h3 h4
      exact ⟨rfl, List.eq_nil_of_length_eq_zero h3, h4⟩
    · unfold Rw.val Rw.a at e
      rw [ho] at e
      injection e with e1 _ _
      cases e1
  | some g =>
    right
    have h' : w.ownsRow base 2 1 (.slice (some ⟨g, 0, none⟩) x.l.length x.c) x.l.length (ints x.l) := by
      have := h; unfold RowOk Rw.val Rw.a at this; rw [ho] at this; exact this
    obtain ⟨h1, _, h3, h4, h5⟩ := own_ints h'
    exact ⟨g, rfl, h5, h1, h3, h4⟩
theorem RowOk.toS {w : World} {base : Nat} {x : Rw} (h : RowOk w base x) : IntS w x.a x.l.length x.c x.l := by
  rcases h.what with ⟨h1, h2, h3⟩ | ⟨g, h1, _, h2, h3, h4⟩
  · unfold Rw.a
    rw [h1, h2, h3]
    exact IntS.nil_ w
  · unfold Rw.a
    rw [h1]
    exact h2.toS rfl h3 h4
theorem RowOk.lt {w : World} {base : Nat} {x : Rw} (h : RowOk w base x) {g : Nat} (hg : x.o = some g) : g < w.heap.size ∧ base ≤ g := by
  rcases h.what with ⟨h1, _⟩ | ⟨g', h1, h0, h2, _⟩
  · rw [h1] at hg; cases hg
  · rw [h1] at hg; cases hg; exact ⟨h2.lt, h0⟩

/-- a row of rows -/
structure RRows (w : World) (base : Nat) (v : Value) (X : List Rw) : Prop where
  own : w.ownsRow base 38 1 v X.length (X.map Rw.val)
  ok : ∀ x ∈ X, RowOk w base x
  apart : X.Pairwise fun x y => ∀ g, x.o = some g → y.o ≠ some g
  outer : ∀ x ∈ X, ∀ g, x.o = some g → v.ownBlock ≠ some g

/-- a slice of slices that hold the lists L -/
structure SS (w : World) (v : Value) (L : List (List Int)) (X : List Rw) : Prop where
  sh : ∃ a c, v = .slice a X.length c ∧ X.length ≤ c ∧ c ≤ maxLen ∧ (0 < X.length → ∃ b, a = some ⟨b, 0, none⟩ ∧ b < w.heap.size ∧ ∀ i (hi : i < X.length), w.cell? ⟨b, i, none⟩ = some X[i].val)
  eq : X.map (·.l) = L
  ok : ∀ i (hi : i < X.length), IntS w X[i].a X[i].l.length X[i].c X[i].l

theorem own_cells {w : World} {base g cap n : Nat} {e : TypeId} {vs : List Value} (h : w.ownsRow base e 1 (.slice (some ⟨g, 0, none⟩) n cap) n vs) : g < w.heap.size ∧ base ≤ g ∧ n ≤ cap ∧ cap ≤ maxLen ∧ ∀ i (hi : i < vs.length), w.cell? ⟨g, i, none⟩ = some vs[i] := by
  have hl : vs.length = n := by have := h.1; omega
  rcases h.2 with ⟨e, _⟩ | ⟨g', cap', cur, e, hb, hg, h1, h2, h3, h4⟩
  · cases e
  · injection e with e1 _ e3
    injection e1 with e1
    injection e1 with e1 _ _
    subst e1 e3
    refine ⟨lt_of_block hg, hb, h1, h2, fun i hi => ?_⟩
    have : (cur.toList.take (n * 1))[i]? = vs[i]? := by rw [h4]
    rw [List.getElem?_take, if_pos (by omega), Array.getElem?_toList, List.getElem?_eq_getElem hi] at this
    simp [World.cell?, hg, this]

theorem RRows.toS {w : World} {base : Nat} {v : Value} {X : List Rw} (h : RRows w base v X) : SS w v (X.map (·.l)) X := by
  refine ⟨?_, rfl, fun i hi => (h.ok _ (List.getElem_mem hi)).toS⟩
  rcases h.own.2 with ⟨h1, h2⟩ | ⟨g, cap, cur, e, _⟩
  · exact ⟨none, 0, by rw [h1, h2], by omega, by unfold maxLen; omega, fun h3 => by omega⟩
  · have h0 := h.own
    rw [e] at h0
    obtain ⟨h1, _, h3, h4, h5⟩ := own_cells h0
    exact ⟨_, cap, e, h3, h4, fun _ => ⟨g, rfl, h1, fun i hi => by have := h5 i (by simpa using hi); rw [this]; simp⟩⟩
theorem SS.below {w w' : World} {v : Value} {L : List (List Int)} {X : List Rw} (h : SS w v L X) (hb : Below w.heap.size w w') : SS w' v L X := by
  obtain ⟨a, c, e, h1, h2, h3⟩ := h.sh
  refine ⟨⟨a, c, e, h1, h2, fun h0 => ?_⟩, h.eq, fun i hi => (h.ok i hi).below hb⟩
  obtain ⟨b, e2, h4, h5⟩ := h3 h0
  exact ⟨b, e2, Nat.lt_of_lt_of_le h4 hb.size, fun i hi => (hb.cell (p := ⟨b, i, none⟩) h4).trans (h5 i hi)⟩
theorem RRows.below {w w' : World} {base : Nat} {v : Value} {X : List Rw} (h : RRows w base v X) (hb : Below w.heap.size w w') : RRows w' base v X := by
  refine ⟨⟨h.own.1, ?_⟩, fun x hx => (h.ok x hx).below hb, h.apart, h.outer⟩
  rcases h.own.2 with h2 | ⟨g, cap, cur, e, h1, h2, h3⟩
  · exact Or.inl h2
  · exact Or.inr ⟨g, cap, cur, e, h1, (hb.block g (lt_of_block h2)).trans h2, h3⟩
theorem RRows.low {w : World} {base base' : Nat} {v : Value} {X : List Rw} (h : RRows w base v X) (hb : base' ≤ base) : RRows w base' v X := by
  refine ⟨⟨h.own.1, ?_⟩, fun x hx => (h.ok x hx).low hb, h.apart, h.outer⟩
  rcases h.own.2 with h2 | ⟨g, cap, cur, e, h1, h3⟩
  · exact Or.inl h2
  · exact Or.inr ⟨g, cap, cur, e, by omega, h3⟩

set_option maxHeartbeats 1000000 in
theorem eqInt64SS_same (v v' : Value) (L : List (List Int)) (X Y : List Rw) (w : World) (h : SS w v L X) (h' : SS w v' L Y) :
    Calls Try.prog 60 #[v, v'] w fun e w' => e = .returned (.bool true) ∧ Below w.heap.size w w' := by
  obtain ⟨a, c, rfl, hc, hm, hat⟩ := h.sh
  obtain ⟨a', c', rfl, hc', hm', hat'⟩ := h'.sh
  have hXY : Y.length = X.length := by have := congrArg List.length (h.eq.trans h'.eq.symm); simpa using this.symm
  have hk : ∀ k (h1 : k < X.length) (h2 : k < Y.length), Y[k].l = X[k].l := fun k h1 h2 => by
    have : (Y.map (·.l))[k]? = (X.map (·.l))[k]? := by rw [h.eq, h'.eq]
    simpa [h1, h2] using this
  unfold maxLen at hm
  rw [hXY]
  have hXY1 : X.length ≤ Y.length := by omega
  clear hXY
  obtain ⟨n, hn⟩ : ∃ n, n = X.length := ⟨_, rfl⟩
  rw [← hn]
  have hn1 : n ≤ X.length := by omega
  have hn2 : X.length ≤ n := by omega
  clear hn
  go_enter Try.func60, Try.ntmps60
  go_wp2_with fail
  go_loopw [5] (fun i wr => ∃ k : Nat, k ≤ n ∧ i = .int .i64 k ∧ Below w.heap.size w wr) (fun i _ => n - (intOf i).toNat)
  case atStart => exact ⟨0, by omega, rfl, Below.refl _ _⟩
  case round =>
    obtain ⟨k, hk2, rfl, hw⟩ := hrel
    by_cases hlt : k < n
    · obtain ⟨b, rfl, hbw, hce⟩ := hat (by omega)
      obtain ⟨b', rfl, hbw', hce'⟩ := hat' (by omega)
      have q0 := (hw.cell (p := ⟨b, k, none⟩) hbw).trans (hce k (by omega))
      have q1 := (hw.cell (p := ⟨b', k, none⟩) hbw').trans (hce' k (by omega))
      unfold Rw.val at q0 q1
      have i0 := (h.ok k (by omega)).below hw
      have i1 := (h'.ok k (by omega)).below hw
      have e := hk k (by omega) (by omega)
      rw [e] at q1 i1
      have hlt' : (k : Int) < (n : Int) := by omega
      clear hat hat' hce hce'
      go_wp2_with fail
      go_region_with ((go_at_call 97; refine (eqInt64S_same _ _ _ _ _ _ _ i0.drewI i1.drewI).mono ?_; rintro e w2 ⟨rfl, hb2⟩))
      all_goals
        go_wp2
        go_roundw
        case rel =>
          exact ⟨k + 1, by omega, by go_num, hw.drew.trans (hb2.mono hw.size)⟩
        case measure => simp [intOf]; omega
    · have e : k = n := by omega
      subst e
      go_wp2
      go_ret
      exact ⟨rfl, hw⟩

/-- how many numbers the first k rows hold -/
def totR (X : List Rw) (k : Nat) : Nat := ((X.take k).map fun x => x.l.length).sum
theorem totR_succ {X : List Rw} {k : Nat} (h : k < X.length) : totR X (k + 1) = totR X k + X[k].l.length := by
  unfold totR
  rw [List.take_succ_eq_append_getElem h, List.map_append, List.sum_append]
  simp
theorem totR_le {X : List Rw} : ∀ {j k : Nat}, j ≤ k → k ≤ X.length → totR X j ≤ totR X k
  | j, 0, h, _ => by have : j = 0 := by omega
                     subst this; exact Nat.le_refl _
  | j, k + 1, h, hk => by
    by_cases e : j = k + 1
    · subst e; exact Nat.le_refl _
    · have := totR_le (X := X) (j := j) (k := k) (by omega) (by omega)
      rw [totR_succ (by omega)]
      omega
theorem totR_bd {X : List Rw} {m : Nat} (h : ∀ x ∈ X, x.l.length ≤ m) : ∀ k, k ≤ X.length → totR X k ≤ k * m
  | 0, _ => by simp [totR]
  | k + 1, hk => by
    have h1 := totR_bd h k (by omega)
    have h2 := h _ (List.getElem_mem (show k < X.length by omega))
    rw [totR_succ (by omega), Nat.add_mul]
    omega

/-- of the rows of X the first k hold their marks -/
def MarkedTo (w : World) (X : List Rw) (k0 : Int) (k : Nat) : Prop :=
  ∀ i (hi : i < X.length), i < k → ∀ g, X[i].o = some g → IntB w g X[i].l.length (imarks (k0 + totR X i) X[i].l.length)

/-- the row of rows with all its rows marked -/
structure Held (w : World) (v : Value) (X : List Rw) (k0 : Int) : Prop where
  sh : ∃ a c, v = .slice a X.length c ∧ X.length ≤ c ∧ c ≤ maxLen ∧ (0 < X.length → ∃ b, a = some ⟨b, 0, none⟩ ∧ b < w.heap.size ∧ ∀ i (hi : i < X.length), w.cell? ⟨b, i, none⟩ = some X[i].val)
  mkd : MarkedTo w X k0 X.length
  nl : ∀ x ∈ X, x.o = none → x.l = [] ∧ x.c = 0
theorem Held.below {w w' : World} {v : Value} {X : List Rw} {k0 : Int} (h : Held w v X k0) (hb : Below w.heap.size w w') : Held w' v X k0 := by
  obtain ⟨a, c, e, h1, h2, h3⟩ := h.sh
  refine ⟨⟨a, c, e, h1, h2, fun h0 => ?_⟩, fun i hi hk g hg => (h.mkd i hi hk g hg).below hb, h.nl⟩
  obtain ⟨b, e2, h4, h5⟩ := h3 h0
  exact ⟨b, e2, Nat.lt_of_lt_of_le h4 hb.size, fun i hi => (hb.cell (p := ⟨b, i, none⟩) h4).trans (h5 i hi)⟩

theorem IntB.blk {w w' : World} {B n : Nat} {zs : List Int} (h : IntB w B n zs) (hb : w'.heap[B]? = w.heap[B]?) : IntB w' B n zs := by
  obtain ⟨cur, h1, h2⟩ := h
  exact ⟨cur, hb.trans h1, h2⟩

theorem apart_ne {X : List Rw} (h : X.Pairwise fun x y => ∀ g, x.o = some g → y.o ≠ some g) {i j : Nat} (hi : i < X.length) (hj : j < X.length) (hne : i ≠ j) {g : Nat} (hg : X[i].o = some g) : X[j].o ≠ some g := by
  rw [List.pairwise_iff_getElem] at h
  rcases Nat.lt_or_gt_of_ne hne with c | c
  · exact h i j hi hj c g hg
  · exact fun e => h j i hj hi c g e hg

set_option maxHeartbeats 1000000 in
theorem markInt64SS_any (base : Nat) (v : Value) (X : List Rw) (k0 : Int) (w : World) (h : RRows w base v X) (h0 : 0 ≤ k0) (h1 : k0 + totR X X.length ≤ 1073741824) (hl : ∀ x ∈ X, x.l.length ≤ 1048576) :
    Calls Try.prog 61 #[v, .int .i64 k0] w fun e w' => e = .returned (.int .i64 (k0 + totR X X.length)) ∧ Held w' v X k0 ∧ Below base w w' := by
  obtain ⟨a, c, ev, hc, hm, hat⟩ := h.toS.sh
  have hout : ∀ x ∈ X, ∀ g, x.o = some g → ∀ b, a = some ⟨b, 0, none⟩ → g ≠ b := fun x hx g hg b e e2 => h.outer x hx g hg (by rw [ev, e, e2]; rfl)
  subst ev
  unfold maxLen at hm
  obtain ⟨n, hn⟩ : ∃ n, n = X.length := ⟨_, rfl⟩
  rw [← hn]
  have hn1 : n ≤ X.length := by omega
  have hn2 : X.length ≤ n := by omega
  clear hn
  go_enter Try.func61, Try.ntmps61
  go_wp2_with fail
  go_loopw [1, 5] (fun m i wr => ∃ k : Nat, k ≤ n ∧ i = .int .i64 k ∧ m = .int .i64 (k0 + totR X k) ∧ MarkedTo wr X k0 k ∧ (∀ j (hj : j < X.length), k ≤ j → ∀ g, X[j].o = some g → wr.heap[g]? = w.heap[g]?) ∧ (∀ b, a = some ⟨b, 0, none⟩ → wr.heap[b]? = w.heap[b]?) ∧ Below base w wr) (fun _ i _ => n - (intOf i).toNat)
  case atStart => exact ⟨0, by omega, rfl, by simp [totR], fun i hi h => by omega, fun j hj _ g hg => rfl, fun b _ => rfl, Below.refl _ _⟩
  case round =>
    obtain ⟨k, hk2, rfl, rfl, hM, hU, hB, hw⟩ := hrel
    by_cases hlt : k < n
    · obtain ⟨b, rfl, hbw, hce⟩ := hat (by omega)
      have hkX : k < X.length := by omega
      have q0 := (World.cell?_of_block (w := w) (a := ⟨b, k, none⟩) (hB b rfl)).trans (hce k hkX)
      have ht := totR_succ hkX
      have htl := totR_le (X := X) (j := k + 1) (k := X.length) (by omega) (Nat.le_refl _)
      have hx := h.ok _ (List.getElem_mem hkX)
      have hxl := hl _ (List.getElem_mem hkX)
      have hlt' : (k : Int) < (n : Int) := by omega
      clear hce hat
      rcases hx.what with ⟨ho, e1, e2⟩ | ⟨g, ho, hbg, hI, hlc, hcm⟩
      · have q1 : wr.cell? ⟨b, k, none⟩ = some (.slice none 0 0) := by rw [q0]; unfold Rw.val Rw.a; rw [ho, e1, e2]; rfl
        rw [e1] at ht
        clear q0 hx
        go_wp2_with fail
        refine (markNilI_any _ _).mono ?_
        rintro e w2 ⟨rfl, hq⟩
        have hq' := hq.symm; clear hq; subst hq'
        go_wp2
        go_roundw
        case rel =>
          refine ⟨k + 1, by omega, by go_num, by rw [ht]; simp, fun i hi hik g hg => ?_, fun j hj hkj g hg => hU j hj (by omega) g hg, hB, hw⟩
          by_cases e : i = k
          · subst e; rw [ho] at hg; cases hg
          · exact hM i hi (by omega) g hg
        case measure => simp [intOf]; omega
      · have q1 : wr.cell? ⟨b, k, none⟩ = some (.slice (some ⟨g, 0, none⟩) X[k].l.length X[k].c) := by rw [q0]; unfold Rw.val Rw.a; rw [ho]; rfl
        have hI2 := hI.blk (hU k hkX (Nat.le_refl _) g ho)
        have hgb : g ≠ b := hout _ (List.getElem_mem hkX) g ho b rfl
        have hap := h.apart
        clear q0 hx
        go_wp2_with fail
        refine (markInt64S_any g X[k].l.length X[k].c _ _ _ hI2 hxl (by omega) (by omega)).mono ?_
        rintro e w2 ⟨rfl, hI3, hO⟩
        go_wp2
        go_roundw
        case rel =>
          refine ⟨k + 1, by omega, by go_num, by rw [ht]; go_num, fun i hi hik g' hg => ?_, fun j hj hkj g' hg => ?_, fun b' e => ?_, hw.trans (hO.below hbg)⟩
          · by_cases e : i = k
            · subst e; rw [ho] at hg; cases hg; exact hI3
            · exact (hM i hi (by omega) g' hg).only hO (fun e' => apart_ne hap hi hkX e hg (by rw [e']; exact ho))
          · exact (hO.block g' (fun e' => apart_ne hap hkX hj (by omega) ho (by rw [← e']; exact hg))).trans (hU j hj (by omega) g' hg)
          · cases e; exact (hO.block b (Ne.symm hgb)).trans (hB b rfl)
        case measure => simp [intOf]; omega
    · have e : k = n := by omega
      have hn : X.length = k := by omega
      subst e
      go_wp2
      go_ret
      refine ⟨rfl, ⟨⟨_, c, by rw [hn], hc, by unfold maxLen; omega, fun h2 => ?_⟩, by rw [hn]; exact hM, fun x hx ho => ?_⟩, hw⟩
      · obtain ⟨b, rfl, hbw, hce⟩ := hat h2
        exact ⟨b, rfl, lt_of_block ((hB b rfl).trans (Array.getElem?_eq_getElem hbw)), fun i hi => (World.cell?_of_block (w := w) (a := ⟨b, i, none⟩) (hB b rfl)).trans (hce i hi)⟩
      · rcases (h.ok x hx).what with ⟨_, e1, e2⟩ | ⟨g, e1, _⟩
        · exact ⟨e1, e2⟩
        · rw [ho] at e1; cases e1

set_option maxHeartbeats 1000000 in
theorem heldInt64SS_any (v : Value) (X : List Rw) (k0 : Int) (w : World) (h : Held w v X k0) (h0 : 0 ≤ k0) (h1 : k0 + totR X X.length ≤ 1073741824) (hl : ∀ x ∈ X, x.l.length ≤ 1048576) :
    Calls Try.prog 62 #[v, .int .i64 k0] w fun e w' => e = .returned (.int .i64 (k0 + totR X X.length)) ∧ Below w.heap.size w w' := by
  obtain ⟨a, c, ev, hc, hm, hat⟩ := h.sh
  subst ev
  unfold maxLen at hm
  obtain ⟨n, hn⟩ : ∃ n, n = X.length := ⟨_, rfl⟩
  rw [← hn]
  have hn1 : n ≤ X.length := by omega
  have hn2 : X.length ≤ n := by omega
  clear hn
  go_enter Try.func62, Try.ntmps62
  go_wp2_with fail
  go_loopw [1, 5] (fun m i wr => ∃ k : Nat, k ≤ n ∧ i = .int .i64 k ∧ m = .int .i64 (k0 + totR X k) ∧ Below w.heap.size w wr) (fun _ i _ => n - (intOf i).toNat)
  case atStart => exact ⟨0, by omega, rfl, by simp [totR], Below.refl _ _⟩
  case round =>
    obtain ⟨k, hk2, rfl, rfl, hw⟩ := hrel
    by_cases hlt : k < n
    · obtain ⟨b, rfl, hbw, hce⟩ := hat (by omega)
      have hkX : k < X.length := by omega
      have q0 := (hw.cell (p := ⟨b, k, none⟩) hbw).trans (hce k hkX)
      have ht := totR_succ hkX
      have htl := totR_le (X := X) (j := k + 1) (k := X.length) (by omega) (Nat.le_refl _)
      have hxl := hl _ (List.getElem_mem hkX)
      have hlt' : (k : Int) < (n : Int) := by omega
      clear hce hat
      cases ho : X[k].o with
      | none =>
        obtain ⟨e1, e2⟩ := h.nl _ (List.getElem_mem hkX) ho
        have q1 : wr.cell? ⟨b, k, none⟩ = some (.slice none 0 0) := by rw [q0]; unfold Rw.val Rw.a; rw [ho, e1, e2]; rfl
        rw [e1] at ht
        have d0 : decide (k0 + (totR X k : Int) < 0) = false := decide_eq_false (by omega)
        clear q0
        go_wp2_with fail
        refine (heldNilI_any _ _).mono ?_
        rintro e w2 ⟨rfl, hq⟩
        have hq' := hq.symm; clear hq; subst hq'
        go_wp2
        go_roundw
        case rel => exact ⟨k + 1, by omega, by go_num, by rw [ht]; simp, hw⟩
        case measure => simp [intOf]; omega
      | some g =>
        have q1 : wr.cell? ⟨b, k, none⟩ = some (.slice (some ⟨g, 0, none⟩) X[k].l.length X[k].c) := by rw [q0]; unfold Rw.val Rw.a; rw [ho]; rfl
        have hI2 := (h.mkd k hkX hkX g ho).below hw
        have d0 : decide (k0 + (totR X k : Int) + (X[k].l.length : Int) < 0) = false := decide_eq_false (by omega)
        clear q0
        go_wp2_with fail
        refine (heldInt64S_any g X[k].l.length X[k].c _ _ hI2 hxl (by omega) (by omega)).mono ?_
        rintro e w2 ⟨rfl, hq⟩
        have hq' := hq.symm; clear hq; subst hq'
        go_wp2
        go_roundw
        case rel => exact ⟨k + 1, by omega, by go_num, by rw [ht]; go_num, hw⟩
        case measure => simp [intOf]; omega
    · have e : k = n := by omega
      have hn : X.length = k := by omega
      subst e
      go_wp2
      go_ret
      exact ⟨rfl, hw⟩

end Go.Proofs.Ytgiodpjaglhgdaa
