/- Several texts in one. -/
import Derived.Test.YtfepkchopndpeaaLev
import Derived.Test.YtfepkchopndpeaaFreeAt
import Derived.KernelRfl
import Derived.Laws.CopyOwn
import Derived.WalkLawsBesides
import Derived.BigQuiet
import Derived.Deep.QuietTactic
/- The levels of a stretch, and the least of them: plain mathematics. -/
namespace Go.Proofs.Ytfepkchopndpeaa

/-- the levels of the times from x on, ahead of y -/
def dur (ls : List Lev) (x y : Int) : List Lev := if y ≤ x then [] else (ls.drop (lvl ls x)).take (lvl ls (y - 1) + 1 - lvl ls x)

theorem fr_cut (ls : List Lev) (i m k : Nat) (hk : k < m) : fr ((ls.drop i).take m) k = fr ls (i + k) := by
  unfold fr; rw [List.getElem?_take_of_lt hk, List.getElem?_drop]
theorem fe_cut (ls : List Lev) (i m k : Nat) (hk : k < m) : fe ((ls.drop i).take m) k = fe ls (i + k) := by
  unfold fe; rw [List.getElem?_take_of_lt hk, List.getElem?_drop]

theorem dur_nil {ls : List Lev} {x y : Int} (h : y ≤ x) : dur ls x y = [] := by unfold dur; rw [if_pos h]
theorem dur_cut {ls : List Lev} {x y : Int} (h : x < y) : dur ls x y = (ls.drop (lvl ls x)).take (lvl ls (y - 1) + 1 - lvl ls x) := by unfold dur; rw [if_neg (by omega)]

theorem PO.dur_len {T : Int} {ls : List Lev} (po : PO T ls) {x y : Int} (hx : 0 ≤ x) (h : x < y) : (dur ls x y).length = lvl ls (y - 1) + 1 - lvl ls x := by
  rw [dur_cut h, List.length_take, List.length_drop]
  have := (po.lvl_spec (t := y - 1) (by omega)).1
  have := po.lvl_mono hx (t := y - 1) (by omega)
  omega
theorem dur_fr {ls : List Lev} {x y : Int} (h : x < y) {k : Nat} (hk : k < lvl ls (y - 1) + 1 - lvl ls x) : fr (dur ls x y) k = fr ls (lvl ls x + k) := by
  rw [dur_cut h, fr_cut _ _ _ _ hk]
theorem dur_fe {ls : List Lev} {x y : Int} (h : x < y) {k : Nat} (hk : k < lvl ls (y - 1) + 1 - lvl ls x) : fe (dur ls x y) k = fe ls (lvl ls x + k) := by
  rw [dur_cut h, fe_cut _ _ _ _ hk]

/-- the least of m and what is free at the first k -/
def minTo (l : List Lev) (m : Int) : Nat → Int
  | 0 => m
  | k + 1 => min (minTo l m k) (fe l k)
/-- the same of those that begin from x on, ahead of y -/
def minIn (l : List Lev) (x y : Int) (m : Int) : Nat → Int
  | 0 => m
  | k + 1 => if x ≤ fr l k ∧ fr l k ≤ y - 1 then min (minIn l x y m k) (fe l k) else minIn l x y m k
/-- what Least tells of a right profile and two times -/
def leastI (T : Int) (ls : List Lev) (x y : Int) : Int := if y ≤ x then T else minIn ls x y (atI ls x) ls.length

theorem least_same {T : Int} {ls : List Lev} (po : PO T ls) {x y : Int} (hx : 0 ≤ x) : minTo (dur ls x y) T (dur ls x y).length = leastI T ls x y := by
  by_cases hxy : y ≤ x
  · rw [dur_nil hxy]; unfold leastI; rw [if_pos hxy]; rfl
  · have h : x < y := by omega
    unfold leastI
    rw [if_neg hxy, po.dur_len hx h]
    obtain ⟨A, hA⟩ : ∃ A, A = lvl ls x := ⟨_, rfl⟩
    obtain ⟨B, hB⟩ : ∃ B, B = lvl ls (y - 1) := ⟨_, rfl⟩
    obtain ⟨a1, a2, a3⟩ := po.lvl_spec hx
    obtain ⟨b1, b2, b3⟩ := po.lvl_spec (t := y - 1) (by omega)
    have hAB := po.lvl_mono hx (t := y - 1) (by omega)
    have hfe : ∀ k, k < B + 1 - A → fe (dur ls x y) k = fe ls (A + k) := by rw [hA, hB]; exact fun k hk => dur_fe h hk
    rw [← hA] at a1 a2 a3 hAB
    rw [← hB] at b1 b2 b3 hAB
    have e0 : atI ls x = fe ls A := by rw [hA]; rfl
    rw [← hA, ← hB, e0]
    -- the model: up to A nothing, from A on the row's own
    have m1 : ∀ k, k ≤ A → minIn ls x y (fe ls A) k = fe ls A := by
      intro k
      induction k with
      | zero => intro _; rfl
      | succ k ih =>
        intro hk
        have := po.lt (i := k) (j := A) (by omega) a1
        rw [minIn, if_neg (by omega)]
        exact ih (by omega)
    have m2 : minIn ls x y (fe ls A) (A + 1) = fe ls A := by
      rw [minIn, m1 A (Nat.le_refl _)]
      split
      · exact Int.min_self _
      · rfl
    have m3 : ∀ j, A + j ≤ B → minIn ls x y (fe ls A) (A + j + 1) = minTo (dur ls x y) T (j + 1) := by
      intro j
      induction j with
      | zero =>
        intro _
        show minIn ls x y (fe ls A) (A + 1) = min (minTo (dur ls x y) T 0) (fe (dur ls x y) 0)
        rw [m2, hfe 0 (by omega)]
        have := (po.el A a1).2.2
        show fe ls A = min T (fe ls (A + 0))
        rw [Nat.add_zero]; omega
      | succ j ih =>
        intro hj
        have c1 := po.lt (i := A) (j := A + (j + 1)) (by omega) (by omega)
        have c2 := a3 (A + (j + 1)) (by omega) (by omega)
        have c3 := po.le (i := A + (j + 1)) (j := B) hj b1
        rw [minIn, if_pos (by omega), show A + (j + 1) = A + j + 1 from by omega, ih (by omega)]
        show _ = min (minTo (dur ls x y) T (j + 1)) (fe (dur ls x y) (j + 1))
        rw [hfe (j + 1) (by omega), show A + (j + 1) = A + j + 1 from by omega]
    have m4 : ∀ d, B + 1 + d ≤ ls.length → minIn ls x y (fe ls A) (B + 1 + d) = minTo (dur ls x y) T (B + 1 - A) := by
      intro d
      induction d with
      | zero =>
        intro _
        have := m3 (B - A) (by omega)
        rw [show A + (B - A) + 1 = B + 1 from by omega, show B - A + 1 = B + 1 - A from by omega] at this
        exact this
      | succ d ih =>
        intro hd
        have := b3 (B + 1 + d) (by omega) (by omega)
        rw [show B + 1 + (d + 1) = B + 1 + d + 1 from by omega, minIn, if_neg (by omega)]
        exact ih (by omega)
    have := m4 (ls.length - (B + 1)) (by omega)
    rw [show B + 1 + (ls.length - (B + 1)) = ls.length from by omega] at this
    exact this.symm

end Go.Proofs.Ytfepkchopndpeaa

/- Least, of the model and of the program; the cut of the levels of a stretch. -/
namespace Go.Proofs.Ytfepkchopndpeaa
open Go.RowKit

theorem min_if (a b : Int) : (if b < a then b else a) = min a b := by split <;> omega

/-- a cut of a slice of levels -/
theorem LevS.cut {w : World} {b off n cap i m : Nat} {ls : List Lev} (h : LevS w (some ⟨b, off, none⟩) n cap ls) (hb : b < w.heap.size) (hat : LevAt w b off ls) (hi : i + m ≤ n) (hm : 0 < m) :
    LevS w (some ⟨b, off + i * 2, none⟩) m m ((ls.drop i).take m) := by
  have hl := h.len
  have hx := h.mx
  have hle := h.le
  refine ⟨by rw [List.length_take, List.length_drop]; omega, Nat.le_refl _, by omega, (fun e => by cases e), fun k hk => ?_, fun _ => ⟨b, _, rfl, hb, fun k hk => ?_⟩⟩
  · rw [fr_cut _ _ _ _ hk, fe_cut _ _ _ _ hk]; exact h.wf (i + k) (by omega)
  · have hk' : k < m := by rw [List.length_take, List.length_drop] at hk; omega
    rw [fr_cut _ _ _ _ hk', fe_cut _ _ _ _ hk']
    have e : off + i * 2 + k * 2 = off + (i + k) * 2 := by omega
    rw [e]
    exact hat (i + k) (by omega)

theorem LevS.none (w : World) : LevS w .none 0 0 [] := ⟨rfl, Nat.le_refl _, Nat.zero_le _, fun _ => rfl, fun i hi => by omega, fun hi => by omega⟩

theorem during_any (T x y : Int) (a : Option Addr) (n cap : Nat) (ls : List Lev) (w : World) (h : LevS w a n cap ls) (po : PO T ls) (hx : okB x = true) (hy : okB y = true) :
    Calls Try.prog 86 #[.slice a n cap, .int .i64 x, .int .i64 y] w fun e w' =>
      ∃ a' m, e = .returned (.slice a' m m) ∧ LevS w' a' m m (dur ls x y) ∧ Below w.heap.size w w' := by
  obtain ⟨x0, x1⟩ := okB_t hx
  obtain ⟨y0, y1⟩ := okB_t hy
  by_cases c : y ≤ x
  · go_enter Try.func86, Try.ntmps86
    go_wp2
    go_ret
    exact ⟨.none, 0, rfl, by rw [dur_nil c]; exact LevS.none _, Below.refl _ _⟩
  · have hlen := h.len
    have hn : n ≤ 200 := by have := po.n2; omega
    obtain ⟨l1, _, _⟩ := po.lvl_spec x0
    obtain ⟨l2, _, _⟩ := po.lvl_spec (t := y - 1) (by omega)
    have l3 := po.lvl_mono x0 (t := y - 1) (by omega)
    have hle := h.le
    obtain ⟨b, off, rfl, hbw, hat⟩ := h.at_ (by omega)
    go_enter Try.func86, Try.ntmps86
    go_wp2_with fail
    refine (levelAt_any T x _ n cap ls _ h po x0).mono ?_
    rintro e w1 ⟨rfl, hb1⟩
    go_wp2_with fail
    refine (levelAt_any T (y - 1) _ n cap ls _ (h.below hb1) po (by omega)).mono ?_
    rintro e w2 ⟨rfl, hb2⟩
    have V := hb1.then hb2 hb1.size
    have C := (h.below V).cut (i := lvl ls x) (m := lvl ls (y - 1) + 1 - lvl ls x) (by have := V.size; omega) (hat.below V hbw) (by omega) (by omega)
    rw [← dur_cut (by omega)] at C
    go_wp2
    go_ret
    exact ⟨_, _, rfl, C, V⟩

set_option maxHeartbeats 400000 in
theorem l2Least_any (T x y : Int) (a : Option Addr) (n cap : Nat) (ls : List Lev) (w : World) (h : LevS w a n cap ls) (po : PO T ls) (hx : okB x = true) (hy : okB y = true) :
    Calls Try.prog 66 #[.agg #[.int .i64 T, .slice a n cap], .int .i64 x, .int .i64 y] w fun e w' => e = .returned (.int .i64 (leastI T ls x y)) ∧ Below w.heap.size w w' := by
  obtain ⟨x0, x1⟩ := okB_t hx
  obtain ⟨y0, y1⟩ := okB_t hy
  have hlen := h.len
  have hn : n ≤ 200 := by have := po.n2; omega
  have h0 : 0 < n := by have := po.n1; omega
  obtain ⟨b, off, rfl, hbw, hat⟩ := h.at_ h0
  have w0 : Below w.heap.size w (w.alloc (.cells #[.int .i64 T, .slice (some ⟨b, off, none⟩) n cap] 26)) := box_below
  by_cases c : y ≤ x
  · go_enter Try.func66, Try.ntmps66
    go_wp2
    go_ret
    exact ⟨by unfold leastI; rw [if_pos c]; rfl, w0⟩
  · go_enter Try.func66, Try.ntmps66
    go_wp2_with fail
    refine (specAt_any T x _ n cap ls _ (h.below w0) h0).mono ?_
    rintro e w1 ⟨rfl, U1⟩
    obtain ⟨p0, p1, hz1⟩ := box_cells U1
    have V1 := w0.then U1 (by simp)
    go_wp2
    go_loop [7, 8] (fun m i => ∃ k : Nat, k ≤ n ∧ i = .int .i64 k ∧ m = .int .i64 (minIn ls x y (atI ls x) k)) (fun _ i => n - (intOf i).toNat)
    case atStart => exact ⟨0, by omega, rfl, rfl⟩
    case round =>
      obtain ⟨k, hk, rfl, rfl⟩ := hrel
      by_cases hlt : k < n
      · obtain ⟨q0, q1⟩ := cells_below (k := k) hat V1 hbw (by omega)
        by_cases hc : x ≤ fr ls k ∧ fr ls k ≤ y - 1
        · have E : Hid (minIn ls x y (atI ls x) (k + 1) = min (minIn ls x y (atI ls x) k) (fe ls k)) := by unfold Hid; rw [minIn, if_pos hc]
          have I : inB (fr ls k) x (y - 1) = true := inB_mk hc
          clear hc
          go_wp2_with (first | (go_at_call 42; refine (l1In_any _ _ _ _).mono ?_; rintro e w' ⟨rfl, rfl⟩) | (go_at_call 65; refine (l1Min_any _ _ _).mono ?_; rintro e w' ⟨rfl, rfl⟩))
          go_round
          case rel => exact ⟨k + 1, by omega, by go_num, by rw [E.out]⟩
          case measure => simp [intOf]; omega
        · have E : Hid (minIn ls x y (atI ls x) (k + 1) = minIn ls x y (atI ls x) k) := by unfold Hid; rw [minIn, if_neg hc]
          have I : inB (fr ls k) x (y - 1) = false := inB_no (by omega)
          clear hc
          go_wp2_with (first | (go_at_call 42; refine (l1In_any _ _ _ _).mono ?_; rintro e w' ⟨rfl, rfl⟩) | (go_at_call 65; refine (l1Min_any _ _ _).mono ?_; rintro e w' ⟨rfl, rfl⟩))
          go_round
          case rel => exact ⟨k + 1, by omega, by go_num, by rw [E.out]⟩
          case measure => simp [intOf]; omega
      · have e : k = n := by omega
        subst e
        go_wp2
        go_ret
        exact ⟨by unfold leastI; rw [if_neg (by omega), hlen]; rfl, V1⟩

/-- what Least tells -/
noncomputable def leastF (T : Int) (ls : List Lev) (x y : Int) : Int := if (poB T ls && (okB x && okB y)) = true then leastI T ls x y else -1
theorem leastF_t {T : Int} {ls : List Lev} {x y : Int} (h : (poB T ls && (okB x && okB y)) = true) : leastF T ls x y = leastI T ls x y := by unfold leastF; rw [if_pos h]
theorem leastF_f {T : Int} {ls : List Lev} {x y : Int} (h : (poB T ls && (okB x && okB y)) = false) : leastF T ls x y = -1 := by unfold leastF; rw [if_neg (by rw [h]; simp)]

end Go.Proofs.Ytfepkchopndpeaa

/- 'copy' of elements of several cells: the kit's law asks elements of one cell; this is its like for any number. -/
namespace Go.Proofs.Ytfepkchopndpeaa
open Go.RowKit

theorem run_copy_rowK {P : Program} (K : Nat) (w : World) (dT sT ty elem : TypeId) (g o dLen dCap : Nat) (a : Addr) (sLen sCap m : Nat) (cur : Array Value) (t : TypeId) (cs : List Value)
    (hu : P.underlying dT = some (.slice elem)) (hs : (P.info? elem).map (·.size) = some K)
    (hg : w.heap[g]? = some (.cells cur t (0, 0))) (hm : m = Nat.min sLen dLen) (hn : cs.length = m * K)
    (hsrc : ∀ j v, cs[j]? = some v → w.cell? (a.add j) = some v) (hfit : o + cs.length ≤ cur.size) (h1 : ∀ v ∈ cs, v.oneCell' = true) :
    (Builtin.copy_ #[dT, sT] ty #[.slice (some ⟨g, o, none⟩) dLen dCap, .slice (some a) sLen sCap]).run P w =
      .ok (goInt m) (w.setRow g (cur.toList.take o ++ cs ++ cur.toList.drop (o + cs.length)).toArray) := by
  have hl := run_loadCells_list (P := P) w a cs hsrc
  have hst := run_storeCells_at P g o t cs 0 cur w hg (by simpa using hfit) h1
  cases hq : P.info? elem with
  | none => simp [hq] at hs
  | some i =>
    have hi : i.size = K := by simpa [hq] using hs
    rw [hn] at hl
    simp [Builtin.copy_, run_underlying hu, Builtin.lenOf, Builtin.firstCells, sizeOf, typeInfo, hq, hi, ← hm, hl, hst]

theorem run_copy_noneK {P : Program} (K : Nat) (w : World) (dT sT ty elem : TypeId) (d a : Option Addr) (dLen dCap sLen sCap : Nat) (hu : P.underlying dT = some (.slice elem)) (hs : (P.info? elem).map (·.size) = some K) (hn : Nat.min sLen dLen = 0) :
    (Builtin.copy_ #[dT, sT] ty #[.slice d dLen dCap, .slice a sLen sCap]).run P w = .ok (goInt 0) w := by
  cases hq : P.info? elem with
  | none => simp [hq] at hs
  | some i =>
    have hl : ∀ (x : Addr), (loadCells x 0).run P w = .ok #[] w := fun x => by simpa using run_loadCells_list (P := P) w x [] (by simp)
    cases d <;> cases a <;> simp [Builtin.copy_, run_underlying hu, Builtin.lenOf, Builtin.firstCells, sizeOf, typeInfo, hq, hn, storeCells, hl]

theorem wpList_copy_K {P : Program} (K : Nat) {w : World} {ops : Array Oper} {rest : List Oper} {o : Oper} {a : Act} {Q : Exit → Act → World → Prop} (hgd : o.guard = none) (d s : Operand) (dT sT : TypeId)
    (ho : o.op = .call { callee := .builtin .copy, args := #[d, s], argTypes := #[dT, sT] }) (elem : TypeId) (hu : P.underlying dT = some (.slice elem)) (hsz : (P.info? elem).map (·.size) = some K)
    (g off dLen dCap : Nat) (ad : Addr) (sLen sCap m : Nat) (hd : a.eval d = .slice (some ⟨g, off, none⟩) dLen dCap) (hs : a.eval s = .slice (some ad) sLen sCap)
    (cur : Array Value) (t : TypeId) (hg : w.heap[g]? = some (.cells cur t (0, 0))) (cs : List Value) (hm : m = Nat.min sLen dLen) (hn : cs.length = m * K)
    (hsrc : ∀ j v, cs[j]? = some v → w.cell? (ad.add j) = some v) (hfit : off + cs.length ≤ cur.size) (h1 : ∀ v ∈ cs, v.oneCell' = true)
    (h : wpList P ops Q rest (a.put o.dst (goInt m)) (w.setRow g (cur.toList.take off ++ (cs ++ cur.toList.drop (off + cs.length))).toArray)) : wpList P ops Q (o :: rest) a w := by
  refine wpList_plain hgd fun K' hK => ?_
  have hrun := run_copy_rowK (P := P) K w dT sT o.type elem g off dLen dCap ad sLen sCap m cur t cs hu hsz hg hm hn hsrc hfit h1
  unfold Oper.wp
  simp [execOp, ho, resolve, invoke, builtin, hd, hs, hrun, Result.andThen]
  exact hK _ _ h

theorem wpList_copy_0 {P : Program} (K : Nat) {w : World} {ops : Array Oper} {rest : List Oper} {o : Oper} {a : Act} {Q : Exit → Act → World → Prop} (hgd : o.guard = none) (d s : Operand) (dT sT : TypeId)
    (ho : o.op = .call { callee := .builtin .copy, args := #[d, s], argTypes := #[dT, sT] }) (elem : TypeId) (hu : P.underlying dT = some (.slice elem)) (hsz : (P.info? elem).map (·.size) = some K)
    (dp sp : Option Addr) (dLen dCap sLen sCap : Nat) (hd : a.eval d = .slice dp dLen dCap) (hs : a.eval s = .slice sp sLen sCap) (hn : Nat.min sLen dLen = 0)
    (h : wpList P ops Q rest (a.put o.dst (goInt 0)) w) : wpList P ops Q (o :: rest) a w := by
  refine wpList_plain hgd fun K' hK => ?_
  have hrun := run_copy_noneK (P := P) K w dT sT o.type elem dp sp dLen dCap sLen sCap hu hsz hn
  unfold Oper.wp
  simp [execOp, ho, resolve, invoke, builtin, hd, hs, hrun, Result.andThen]
  exact hK _ _ h

end Go.Proofs.Ytfepkchopndpeaa

/- The copied cut of the levels of a stretch, in memory of its own. -/
namespace Go.Proofs.Ytfepkchopndpeaa
open Go.RowKit

theorem make_levels (n : Nat) (hn : n ≤ 1048576) (wx : World) : (Instr.makeSlice 24 (.int .i64 (n : Int)) (.int .i64 (n : Int))).run Try.prog wx = .ok (.slice (some ⟨wx.heap.size, 0, none⟩) n n) (wx.alloc (.cells (madeCells #[.int .i64 0, .int .i64 0] (n * 2)) 65)) := by
  obtain ⟨i0, hi, hz0, hz1, hz2⟩ := info_parts info69
  have := run_make (P := Try.prog) wx 24 65 i0 _ Try.underlying24 hi hz0 .i64 .i64 n n (by omega) (Int.le_refl _) (by rw [hz2]; omega) (by omega)
  rw [hz1] at this
  simp only [Int.toNat_natCast] at this
  exact this

/-- the levels' cells, in a row -/
def cellsOf (l : List Lev) : List Value := l.flatMap fun x => [.int .i64 x.1, .int .i64 x.2]
theorem cellsOf_len : ∀ l : List Lev, (cellsOf l).length = l.length * 2
  | [] => rfl
  | x :: r => by
    have := cellsOf_len r
    show (cellsOf r).length + 1 + 1 = (r.length + 1) * 2
    omega
theorem cellsOf_at : ∀ (l : List Lev) (i : Nat), i < l.length → (cellsOf l)[i * 2]? = some (.int .i64 (fr l i)) ∧ (cellsOf l)[i * 2 + 1]? = some (.int .i64 (fe l i))
  | x :: r, 0, _ => ⟨rfl, rfl⟩
  | x :: r, i + 1, h => by
    have h' : i < r.length := by simpa using h
    have := cellsOf_at r i h'
    have e : (i + 1) * 2 = i * 2 + 1 + 1 := by omega
    rw [e]
    exact ⟨this.1, this.2⟩
theorem cellsOf_one : ∀ (l : List Lev), ∀ v ∈ cellsOf l, v.oneCell' = true
  | [], v, h => by cases h
  | x :: r, v, h => by
    have h' : v = .int .i64 x.1 ∨ v = .int .i64 x.2 ∨ v ∈ cellsOf r := by simpa [cellsOf] using h
    rcases h' with rfl | rfl | h'
    · rfl
    · rfl
    · exact cellsOf_one r v h'

theorem sized69 : (Try.prog.info? 65).map (·.size) = some 2 := by kernel_rfl

/-- 'copy' of all levels of a slice into a row of the call's own that is as long -/
theorem run_copy_levels {w : World} (ty : TypeId) (B m : Nat) (sp : Option Addr) (l : List Lev) (hL : LevS w sp m m l) (cur : Array Value) (hg : w.heap[B]? = some (.cells cur 65 (0, 0))) (hcs : cur.size = m * 2) :
    ∃ w', (Builtin.copy_ #[24, 24] ty #[.slice (some ⟨B, 0, none⟩) m m, .slice sp m m]).run Try.prog w = .ok (.int .i64 m) w' ∧ LevB w' B m m l ∧ Only B w w' := by
  by_cases h0 : m = 0
  · subst h0
    have hrun := run_copy_noneK (P := Try.prog) 2 w 24 24 ty 65 (some ⟨B, 0, none⟩) sp 0 0 0 0 Try.underlying24 sized69 rfl
    exact ⟨w, hrun, ⟨cur, hg, hcs, fun i hi => by omega⟩, Only.refl _ _⟩
  · obtain ⟨b, off, rfl, hb, hat⟩ := hL.at_ (by omega)
    have hl := hL.len
    have hc := cellsOf_len l
    have hsrc : ∀ j v, (cellsOf l)[j]? = some v → w.cell? ((⟨b, off, none⟩ : Addr).add j) = some v := by
      intro j v hj
      have hjl : j < l.length * 2 := by
        have : j < (cellsOf l).length := by
          rcases Nat.lt_or_ge j (cellsOf l).length with h1 | h1
          · exact h1
          · rw [List.getElem?_eq_none h1] at hj; cases hj
        omega
      have hadd : (⟨b, off, none⟩ : Addr).add j = ⟨b, off + j, none⟩ := by unfold Addr.add; split <;> simp_all
      rw [hadd]
      obtain ⟨c0, c1⟩ := cellsOf_at l (j / 2) (by omega)
      obtain ⟨g0, g1⟩ := hat (j / 2) (by omega)
      by_cases hp : j % 2 = 0
      · have e : j = j / 2 * 2 := by omega
        rw [← e] at c0
        rw [c0] at hj
        rw [show off + j = off + j / 2 * 2 from by omega, g0]
        exact hj
      · have e : j = j / 2 * 2 + 1 := by omega
        rw [← e] at c1
        rw [c1] at hj
        rw [show off + j = off + j / 2 * 2 + 1 from by omega, g1]
        exact hj
    have hrun := run_copy_rowK (P := Try.prog) 2 w 24 24 ty 65 B 0 m m ⟨b, off, none⟩ m m m cur 65 (cellsOf l) Try.underlying24 sized69 hg (by simp) (by omega) hsrc (by omega) (cellsOf_one l)
    have e : (cur.toList.take 0 ++ cellsOf l ++ cur.toList.drop (0 + (cellsOf l).length)).toArray = (cellsOf l).toArray := by
      rw [List.take_zero, List.nil_append, List.drop_eq_nil_of_le (by simp; omega), List.append_nil]
    rw [e] at hrun
    refine ⟨_, hrun, ⟨(cellsOf l).toArray, setRow_heap w B _ _ _ _ hg, by simp; omega, fun i hi => ?_⟩, ⟨rfl, rfl, rfl, by simp [World.setRow], fun k hk => setRow_other w B k _ hk⟩⟩
    · obtain ⟨c0, c1⟩ := cellsOf_at l i (by omega)
      exact ⟨by simpa using c0, by simpa using c1⟩

/-- the copied levels of the times from x on, ahead of y: the first is begun at x -/
def cpd (ls : List Lev) (x y : Int) : List Lev := match dur ls x y with | [] => [] | l :: r => (x, l.2) :: r
theorem cpd_len (ls : List Lev) (x y : Int) : (cpd ls x y).length = (dur ls x y).length := by unfold cpd; split <;> simp_all
theorem cpd_fr0 {ls : List Lev} {x y : Int} (h : 0 < (dur ls x y).length) : fr (cpd ls x y) 0 = x := by
  unfold cpd; split
  · simp_all
  · rfl
theorem cpd_fe {ls : List Lev} {x y : Int} (k : Nat) : fe (cpd ls x y) k = fe (dur ls x y) k := by
  unfold cpd; split
  · simp_all [fe]
  · rename_i e; rw [e]; cases k <;> rfl
theorem cpd_fr {ls : List Lev} {x y : Int} (k : Nat) : fr (cpd ls x y) (k + 1) = fr (dur ls x y) (k + 1) := by
  unfold cpd; split
  · simp_all [fr]
  · rename_i e; rw [e]; rfl

/-- the row behind the store of its first beginning -/
theorem LevB.first {w : World} {B m : Nat} {ls : List Lev} {x y : Int} (h : LevB w B m m (dur ls x y)) (h0 : 0 < m) (hl : (dur ls x y).length = m) :
    LevB (w.setCell ⟨B, 0, none⟩ (.int .i64 x)) B m m (cpd ls x y) := by
  obtain ⟨cur, h1, h2, h3⟩ := h
  refine ⟨_, blk_set h1 _, by simp [h2], fun i hi => ?_⟩
  simp only [Array.getElem?_setIfInBounds]
  rw [cpd_fe]
  cases i with
  | zero =>
    rw [if_pos rfl, if_pos (by omega), if_neg (by omega), cpd_fr0 (by omega)]
    exact ⟨rfl, (h3 0 hi).2⟩
  | succ i =>
    rw [if_neg (by omega), if_neg (by omega), cpd_fr]
    exact h3 (i + 1) hi

set_option maxRecDepth 4000 in
set_option maxHeartbeats 400000 in
theorem copied_any (T x y : Int) (a : Option Addr) (n cap : Nat) (ls : List Lev) (w : World) (h : LevS w a n cap ls) (po : PO T ls) (hx : okB x = true) (hy : okB y = true) :
    Calls Try.prog 81 #[.slice a n cap, .int .i64 x, .int .i64 y] w fun e w' =>
      ∃ B m, e = .returned (.slice (some ⟨B, 0, none⟩) m m) ∧ w.heap.size ≤ B ∧ LevB w' B m m (cpd ls x y) ∧ (cpd ls x y).length = m ∧ m ≤ 200 ∧ Below w.heap.size w w' := by
  have hlen := h.len
  have hn : n ≤ 200 := by have := po.n2; omega
  go_enter Try.func81, Try.ntmps81
  go_wp2_with fail
  refine (during_any T x y a n cap ls _ h po hx hy).mono ?_
  rintro e w1 ⟨a', m, rfl, hS, hb1⟩
  have hl := hS.len
  have hm : m ≤ 200 := by
    have h1 : (dur ls x y).length ≤ ls.length := by
      by_cases c : y ≤ x
      · rw [dur_nil c]; simp
      · rw [dur_cut (by omega), List.length_take, List.length_drop]; omega
    omega
  have hmk := make_levels m (by omega)
  have bx : Below w1.heap.size w1 (w1.alloc (.cells (madeCells #[.int .i64 0, .int .i64 0] (m * 2)) 65)) := (Below.refl _ _).alloc (Nat.le_refl _) _
  obtain ⟨w2, hcp, hL, ho⟩ := run_copy_levels 3 w1.heap.size m a' (dur ls x y) (hS.below bx) (madeCells #[.int .i64 0, .int .i64 0] (m * 2)) (by rw [heap_alloc_new]) (by simp [size_madeCells])
  have hz := hb1.size
  by_cases h0 : m = 0
  · have h00 : ¬ (0 : Int) < (m : Int) := by omega
    have H0 : Hid (m = 0) := h0
    clear h0
    go_wp2
    go_ret
    obtain rfl : m = 0 := H0.out
    exact ⟨_, 0, rfl, hz, by obtain ⟨cur, h1, h2, _⟩ := hL; exact ⟨cur, h1, h2, fun i hi => by omega⟩, by rw [cpd_len]; exact hl, by omega, hb1.then (bx.trans (ho.below (Nat.le_refl _))) hz⟩
  · have hF := hL.first (x := x) (by omega) hl
    obtain ⟨cur, h1, h2, h3⟩ := hL
    have g0 := cell_of_blk 0 h1 (by omega)
    have f0 := free_of_blk 0 h1
    have hp : (0 : Int) < (m : Int) := by omega
    go_wp2
    go_ret
    exact ⟨_, m, rfl, hz, hF, by rw [cpd_len]; exact hl, hm, (hb1.then (bx.trans (ho.below (Nat.le_refl _))) hz).setCell hz _⟩

end Go.Proofs.Ytfepkchopndpeaa

/- The area of a stretch: plain mathematics. -/
namespace Go.Proofs.Ytfepkchopndpeaa

/-- where level i is over -/
def nxt (ls : List Lev) (i : Nat) (e : Int) : Int := if i + 1 < ls.length then fr ls (i + 1) else e
theorem nxt_in {ls : List Lev} {i : Nat} {e : Int} (h : i + 1 < ls.length) : nxt ls i e = fr ls (i + 1) := by unfold nxt; rw [if_pos h]
theorem nxt_out {ls : List Lev} {i : Nat} {e : Int} (h : ¬ i + 1 < ls.length) : nxt ls i e = e := by unfold nxt; rw [if_neg h]

/-- how much of level i's time lies from x on, ahead of y -/
def spanI (ls : List Lev) (x y : Int) (i : Nat) : Int := max 0 (min (nxt ls i 1000000000) y - max (fr ls i) x)
def areaIn (ls : List Lev) (x y : Int) : Nat → Int
  | 0 => 0
  | k + 1 => areaIn ls x y k + fe ls k * spanI ls x y k
def areaTo (c : List Lev) (y : Int) : Nat → Int
  | 0 => 0
  | k + 1 => areaTo c y k + fe c k * (nxt c k y - fr c k)

theorem nxt_bd {T : Int} {ls : List Lev} (po : PO T ls) {i : Nat} (hi : i < ls.length) : fr ls i < nxt ls i 1000000000 ∧ nxt ls i 1000000000 ≤ 1000000000 := by
  by_cases h : i + 1 < ls.length
  · rw [nxt_in h]; exact ⟨(po.st i h).1, by have := (po.el (i + 1) h).1; omega⟩
  · rw [nxt_out h]; exact ⟨(po.el i hi).1, by omega⟩

theorem mul_bd {a b c : Int} (h0 : 0 ≤ a) (h1 : a ≤ 1000) (h2 : 0 ≤ b) (h3 : b ≤ c) : 0 ≤ a * b ∧ a * b ≤ 1000 * c := by
  refine ⟨Int.mul_nonneg h0 h2, ?_⟩
  exact Int.le_trans (Int.mul_le_mul_of_nonneg_right h1 h2) (by omega)

/-- all spans of the first k levels make up no more than the time till then -/
theorem area_bd {T : Int} {ls : List Lev} (po : PO T ls) {x y : Int} : ∀ k, k < ls.length → 0 ≤ areaIn ls x y k ∧ areaIn ls x y k ≤ 1000 * fr ls k ∧ 0 ≤ fe ls k * spanI ls x y k ∧ fe ls k * spanI ls x y k ≤ 1000 * (nxt ls k 1000000000 - fr ls k) := by
  intro k
  induction k with
  | zero =>
    intro hk
    have h := nxt_bd po hk
    have e := po.el 0 hk
    have t1 := po.t1
    have := mul_bd (a := fe ls 0) (b := spanI ls x y 0) (c := nxt ls 0 1000000000 - fr ls 0) (by omega) (by omega) (by unfold spanI; omega) (by unfold spanI; omega)
    exact ⟨Int.le_refl _, by show (0 : Int) ≤ _; rw [po.z]; omega, this.1, this.2⟩
  | succ k ih =>
    intro hk
    have h := nxt_bd po hk
    have e := po.el (k + 1) hk
    have t1 := po.t1
    have := mul_bd (a := fe ls (k + 1)) (b := spanI ls x y (k + 1)) (c := nxt ls (k + 1) 1000000000 - fr ls (k + 1)) (by omega) (by omega) (by unfold spanI; omega) (by unfold spanI; omega)
    obtain ⟨i1, i2, i3, i4⟩ := ih (by omega)
    rw [nxt_in hk] at i4
    exact ⟨by show 0 ≤ areaIn ls x y k + _; omega, by show areaIn ls x y k + _ ≤ _; omega, this.1, this.2⟩

theorem PO.cpd_part {T : Int} {ls : List Lev} (po : PO T ls) {x y : Int} (hx : 0 ≤ x) (h : x < y) (hy : y ≤ 1000000000) {j : Nat} (hj : j < lvl ls (y - 1) + 1 - lvl ls x) :
    fe (cpd ls x y) j = fe ls (lvl ls x + j) ∧ spanI ls x y (lvl ls x + j) = nxt (cpd ls x y) j y - fr (cpd ls x y) j := by
  have hlen := po.dur_len hx h
  have hcl := cpd_len ls x y
  obtain ⟨a1, a2, a3⟩ := po.lvl_spec hx
  obtain ⟨b1, b2, b3⟩ := po.lvl_spec (t := y - 1) (by omega)
  refine ⟨by rw [cpd_fe, dur_fe h hj], ?_⟩
  have hfr : fr (cpd ls x y) j = max (fr ls (lvl ls x + j)) x := by
    cases j with
    | zero => rw [cpd_fr0 (by omega), Nat.add_zero]; omega
    | succ j =>
      rw [cpd_fr, dur_fr h hj]
      have := a3 (lvl ls x + (j + 1)) (by omega) (by omega)
      omega
  have hk := nxt_bd po (i := lvl ls x + j) (by omega)
  have hB := po.le (i := lvl ls x + j) (j := lvl ls (y - 1)) (by omega) b1
  have hnx : nxt (cpd ls x y) j y = min (nxt ls (lvl ls x + j) 1000000000) y := by
    by_cases hj1 : j + 1 < lvl ls (y - 1) + 1 - lvl ls x
    · rw [nxt_in (by omega), cpd_fr, dur_fr h hj1, nxt_in (by omega)]
      have := po.le (i := lvl ls x + (j + 1)) (j := lvl ls (y - 1)) (by omega) b1
      rw [show lvl ls x + j + 1 = lvl ls x + (j + 1) from by omega]
      omega
    · rw [nxt_out (by omega)]
      by_cases hn : lvl ls x + j + 1 < ls.length
      · rw [nxt_in hn]
        have := b3 (lvl ls x + j + 1) (by omega) hn
        omega
      · rw [nxt_out hn]; omega
  have hA : x < nxt ls (lvl ls x + j) 1000000000 := by
    by_cases hn : lvl ls x + j + 1 < ls.length
    · rw [nxt_in hn]; exact a3 _ (by omega) hn
    · rw [nxt_out hn]; omega
  rw [hnx, hfr]
  unfold spanI
  omega

theorem area_same {T : Int} {ls : List Lev} (po : PO T ls) {x y : Int} (hx : 0 ≤ x) (hy : y ≤ 1000000000) : areaTo (cpd ls x y) y (cpd ls x y).length = areaIn ls x y ls.length := by
  by_cases hxy : y ≤ x
  · have e0 : cpd ls x y = [] := by unfold cpd; rw [dur_nil hxy]
    rw [e0]
    have : ∀ k, areaIn ls x y k = 0 := by
      intro k
      induction k with
      | zero => rfl
      | succ k ih =>
        have : spanI ls x y k = 0 := by unfold spanI; omega
        show areaIn ls x y k + fe ls k * spanI ls x y k = 0
        rw [ih, this]; simp
    rw [this]; rfl
  · have h : x < y := by omega
    have hlen := po.dur_len hx h
    have hcl := cpd_len ls x y
    obtain ⟨a1, a2, a3⟩ := po.lvl_spec hx
    obtain ⟨b1, b2, b3⟩ := po.lvl_spec (t := y - 1) (by omega)
    have hAB := po.lvl_mono hx (t := y - 1) (by omega)
    have m1 : ∀ k, k ≤ lvl ls x → areaIn ls x y k = 0 := by
      intro k
      induction k with
      | zero => intro _; rfl
      | succ k ih =>
        intro hk
        have := po.le (i := k + 1) (j := lvl ls x) hk a1
        have e : spanI ls x y k = 0 := by unfold spanI; rw [nxt_in (by omega)]; omega
        show areaIn ls x y k + fe ls k * spanI ls x y k = 0
        rw [ih (by omega), e]; simp
    have m2 : ∀ j, j ≤ lvl ls (y - 1) + 1 - lvl ls x → areaIn ls x y (lvl ls x + j) = areaTo (cpd ls x y) y j := by
      intro j
      induction j with
      | zero => intro _; exact m1 _ (Nat.le_refl _)
      | succ j ih =>
        intro hj
        obtain ⟨e1, e2⟩ := po.cpd_part hx h hy (j := j) (by omega)
        show areaIn ls x y (lvl ls x + j) + fe ls (lvl ls x + j) * spanI ls x y (lvl ls x + j) = areaTo (cpd ls x y) y j + fe (cpd ls x y) j * (nxt (cpd ls x y) j y - fr (cpd ls x y) j)
        rw [ih (by omega), e1, e2]
    have m3 : ∀ d, lvl ls (y - 1) + 1 + d ≤ ls.length → areaIn ls x y (lvl ls (y - 1) + 1 + d) = areaTo (cpd ls x y) y (lvl ls (y - 1) + 1 - lvl ls x) := by
      intro d
      induction d with
      | zero =>
        intro _
        have := m2 (lvl ls (y - 1) + 1 - lvl ls x) (Nat.le_refl _)
        rw [show lvl ls x + (lvl ls (y - 1) + 1 - lvl ls x) = lvl ls (y - 1) + 1 + 0 from by omega] at this
        exact this
      | succ d ih =>
        intro hd
        have := b3 (lvl ls (y - 1) + 1 + d) (by omega) (by omega)
        have e : spanI ls x y (lvl ls (y - 1) + 1 + d) = 0 := by unfold spanI; omega
        show areaIn ls x y (lvl ls (y - 1) + 1 + d) + fe ls (lvl ls (y - 1) + 1 + d) * spanI ls x y (lvl ls (y - 1) + 1 + d) = _
        rw [ih (by omega), e]; simp
    rw [hcl, hlen]
    have := m3 (ls.length - (lvl ls (y - 1) + 1)) (by omega)
    rw [show lvl ls (y - 1) + 1 + (ls.length - (lvl ls (y - 1) + 1)) = ls.length from by omega] at this
    exact this.symm

end Go.Proofs.Ytfepkchopndpeaa

/- Area, of the model and of the program. -/
namespace Go.Proofs.Ytfepkchopndpeaa
open Go.RowKit

/-- what Area tells -/
noncomputable def areaF (T : Int) (ls : List Lev) (x y : Int) : Int := if (poB T ls && (okB x && okB y)) = true then areaIn ls x y ls.length else -1
theorem areaF_t {T : Int} {ls : List Lev} {x y : Int} (h : (poB T ls && (okB x && okB y)) = true) : areaF T ls x y = areaIn ls x y ls.length := by unfold areaF; rw [if_pos h]
theorem areaF_f {T : Int} {ls : List Lev} {x y : Int} (h : (poB T ls && (okB x && okB y)) = false) : areaF T ls x y = -1 := by unfold areaF; rw [if_neg (by rw [h]; simp)]

theorem areaTo_part {T : Int} {ls : List Lev} (po : PO T ls) {x y : Int} (hx : 0 ≤ x) (h : x < y) (hy : y ≤ 1000000000) : ∀ j, j ≤ lvl ls (y - 1) + 1 - lvl ls x → areaTo (cpd ls x y) y j = areaIn ls x y (lvl ls x + j) := by
  obtain ⟨a1, a2, a3⟩ := po.lvl_spec hx
  have m1 : ∀ k, k ≤ lvl ls x → areaIn ls x y k = 0 := by
    intro k
    induction k with
    | zero => intro _; rfl
    | succ k ih =>
      intro hk
      have := po.le (i := k + 1) (j := lvl ls x) hk a1
      have e : spanI ls x y k = 0 := by unfold spanI; rw [nxt_in (by omega)]; omega
      show areaIn ls x y k + fe ls k * spanI ls x y k = 0
      rw [ih (by omega), e]; simp
  intro j
  induction j with
  | zero => intro _; exact (m1 _ (Nat.le_refl _)).symm
  | succ j ih =>
    intro hj
    obtain ⟨e1, e2⟩ := po.cpd_part hx h hy (j := j) (by omega)
    show areaTo (cpd ls x y) y j + fe (cpd ls x y) j * (nxt (cpd ls x y) j y - fr (cpd ls x y) j) = areaIn ls x y (lvl ls x + j) + fe ls (lvl ls x + j) * spanI ls x y (lvl ls x + j)
    rw [ih (by omega), e1, e2]

/-- what keeps the program's sums from passing the end -/
theorem areaTo_bd {T : Int} {ls : List Lev} (po : PO T ls) {x y : Int} (hx : 0 ≤ x) (hy : y ≤ 1000000000) {j : Nat} (hj : j < (cpd ls x y).length) :
    0 ≤ areaTo (cpd ls x y) y j ∧ areaTo (cpd ls x y) y j ≤ 1000000000000 ∧ 0 ≤ fe (cpd ls x y) j * (nxt (cpd ls x y) j y - fr (cpd ls x y) j) ∧ fe (cpd ls x y) j * (nxt (cpd ls x y) j y - fr (cpd ls x y) j) ≤ 1000000000000 ∧
      0 ≤ fr (cpd ls x y) j ∧ fr (cpd ls x y) j ≤ 1000000000 ∧ 0 ≤ nxt (cpd ls x y) j y ∧ nxt (cpd ls x y) j y ≤ 1000000000 ∧ 0 ≤ fe (cpd ls x y) j ∧ fe (cpd ls x y) j ≤ 1000 := by
  by_cases hxy : y ≤ x
  · rw [cpd_len, dur_nil hxy] at hj; simp at hj
  · have h : x < y := by omega
    have hlen := po.dur_len hx h
    have hcl := cpd_len ls x y
    obtain ⟨a1, a2, a3⟩ := po.lvl_spec hx
    obtain ⟨b1, b2, b3⟩ := po.lvl_spec (t := y - 1) (by omega)
    have hj' : j < lvl ls (y - 1) + 1 - lvl ls x := by omega
    obtain ⟨e1, e2⟩ := po.cpd_part hx h hy hj'
    obtain ⟨r1, r2, r3, r4⟩ := area_bd po (x := x) (y := y) (lvl ls x + j) (by omega)
    have k1 := nxt_bd po (i := lvl ls x + j) (by omega)
    have k2 := po.el (lvl ls x + j) (by omega)
    have k3 := po.pos (i := lvl ls x + j) (by omega)
    have t1 := po.t1
    have hfr : 0 ≤ fr (cpd ls x y) j ∧ fr (cpd ls x y) j ≤ 1000000000 := by
      cases j with
      | zero => rw [cpd_fr0 (by omega)]; omega
      | succ j => rw [cpd_fr, dur_fr h hj']; omega
    have hsp : 0 ≤ spanI ls x y (lvl ls x + j) ∧ spanI ls x y (lvl ls x + j) ≤ nxt ls (lvl ls x + j) 1000000000 - fr ls (lvl ls x + j) := by unfold spanI; omega
    have hnx : nxt (cpd ls x y) j y ≤ 1000000000 := by
      by_cases hj1 : j + 1 < (cpd ls x y).length
      · rw [nxt_in hj1, cpd_fr, dur_fr h (by omega)]
        have := po.el (lvl ls x + (j + 1)) (by omega)
        omega
      · rw [nxt_out hj1]; exact hy
    rw [areaTo_part po hx h hy j (by omega)]
    rw [e1, ← e2]
    refine ⟨r1, by omega, r3, by omega, hfr.1, hfr.2, by omega, hnx, by omega, by omega⟩

end Go.Proofs.Ytfepkchopndpeaa

/- The first fit: plain mathematics. -/
namespace Go.Proofs.Ytfepkchopndpeaa

/-- the first of the m numbers from j on for which p holds; where there is none the end -/
noncomputable def fstN (p : Nat → Prop) : Nat → Nat → Nat
  | 0, j => j
  | k + 1, j => if @decide (p j) (Classical.propDecidable _) = true then j else fstN p k (j + 1)

theorem fstN_eq (p : Nat → Prop) : ∀ (m j r : Nat), j ≤ r → r ≤ j + m → (∀ i, j ≤ i → i < r → ¬ p i) → (r < j + m → p r) → fstN p m j = r
  | 0, j, r, h1, h2, _, _ => by unfold fstN; omega
  | m + 1, j, r, h1, h2, h3, h4 => by
    unfold fstN
    by_cases e : j = r
    · subst e
      rw [if_pos (@decide_eq_true _ (Classical.propDecidable _) (h4 (by omega)))]
    · rw [if_neg (by intro h; exact h3 j (Nat.le_refl _) (by omega) (@of_decide_eq_true _ (Classical.propDecidable _) h))]
      exact fstN_eq p m (j + 1) r (by omega) (by omega) (fun i a b => h3 i (by omega) b) (fun h => h4 (by omega))

/-- from level j's beginning on there is room for so long -/
def okFit (c : List Lev) (long n : Int) (j : Nat) : Prop := ∀ i, j ≤ i → i < c.length → fr c i < laterI (fr c j) long → n ≤ fe c i
noncomputable def fitI (ls : List Lev) (x long n : Int) : Int :=
  if fstN (okFit (cpd ls x 1000000000) long n) (cpd ls x 1000000000).length 0 < (cpd ls x 1000000000).length then fr (cpd ls x 1000000000) (fstN (okFit (cpd ls x 1000000000) long n) (cpd ls x 1000000000).length 0) else 1000000000

theorem fitI_at {ls : List Lev} {x long n : Int} {j : Nat} (h : j < (cpd ls x 1000000000).length) (h1 : okFit (cpd ls x 1000000000) long n j) (h2 : ∀ i, i < j → ¬ okFit (cpd ls x 1000000000) long n i) : fitI ls x long n = fr (cpd ls x 1000000000) j := by
  have e := fstN_eq (okFit (cpd ls x 1000000000) long n) (cpd ls x 1000000000).length 0 j (by omega) (by omega) (fun i _ hi => h2 i hi) (fun _ => h1)
  unfold fitI; rw [e, if_pos h]
theorem fitI_no {ls : List Lev} {x long n : Int} (h2 : ∀ i, i < (cpd ls x 1000000000).length → ¬ okFit (cpd ls x 1000000000) long n i) : fitI ls x long n = 1000000000 := by
  have e := fstN_eq (okFit (cpd ls x 1000000000) long n) (cpd ls x 1000000000).length 0 (cpd ls x 1000000000).length (by omega) (by omega) (fun i _ hi => h2 i hi) (fun h => by omega)
  unfold fitI; rw [e, if_neg (by omega)]

theorem minTo_ge (l : List Lev) (m n : Int) : ∀ k, n ≤ minTo l m k ↔ n ≤ m ∧ ∀ i, i < k → n ≤ fe l i
  | 0 => ⟨fun h => ⟨h, fun i hi => by omega⟩, fun h => h.1⟩
  | k + 1 => by
    show n ≤ min (minTo l m k) (fe l k) ↔ _
    have ih := minTo_ge l m n k
    constructor
    · intro h
      have h1 : n ≤ minTo l m k := by omega
      refine ⟨(ih.1 h1).1, fun i hi => ?_⟩
      by_cases e : i = k
      · subst e; omega
      · exact (ih.1 h1).2 i (by omega)
    · intro h
      have h1 := ih.2 ⟨h.1, fun i hi => h.2 i (by omega)⟩
      have h2 := h.2 k (by omega)
      omega

theorem PO.least_ge {T : Int} {ls : List Lev} (po : PO T ls) {x y n : Int} (hx : 0 ≤ x) (hn : n ≤ T) :
    n ≤ leastI T ls x y ↔ (x < y → ∀ i, lvl ls x ≤ i → i < ls.length → fr ls i < y → n ≤ fe ls i) := by
  rw [← least_same po hx, minTo_ge]
  by_cases h : x < y
  · have hlen := po.dur_len hx h
    obtain ⟨b1, b2, b3⟩ := po.lvl_spec (t := y - 1) (by omega)
    rw [hlen]
    constructor
    · intro ⟨_, g⟩ _ i h1 h2 h3
      have hi : i ≤ lvl ls (y - 1) := by
        by_cases c : i ≤ lvl ls (y - 1)
        · exact c
        · have := b3 i (by omega) h2; omega
      have := g (i - lvl ls x) (by omega)
      rw [dur_fe h (by omega), show lvl ls x + (i - lvl ls x) = i from by omega] at this
      exact this
    · intro g
      refine ⟨hn, fun i hi => ?_⟩
      rw [dur_fe h hi]
      have := po.le (i := lvl ls x + i) (j := lvl ls (y - 1)) (by omega) b1
      exact g h (lvl ls x + i) (by omega) (by omega) (by omega)
  · rw [dur_nil (by omega)]
    exact ⟨fun _ h' => absurd h' h, fun _ => ⟨hn, fun i hi => absurd hi (by simp)⟩⟩

theorem PO.cpd_all {T : Int} {ls : List Lev} (po : PO T ls) {x : Int} (hx : 0 ≤ x) (h : x < 1000000000) :
    lvl ls x + (cpd ls x 1000000000).length = ls.length ∧ 0 < (cpd ls x 1000000000).length ∧ fr (cpd ls x 1000000000) 0 = x ∧ (∀ i, i + 1 < (cpd ls x 1000000000).length → fr (cpd ls x 1000000000) (i + 1) = fr ls (lvl ls x + (i + 1))) ∧ (∀ i, i < (cpd ls x 1000000000).length → fe (cpd ls x 1000000000) i = fe ls (lvl ls x + i)) := by
  obtain ⟨a1, a2, a3⟩ := po.lvl_spec hx
  have n1 := po.n1
  have e : lvl ls (1000000000 - 1) = ls.length - 1 := po.lvl_eq (by omega) (by omega) (by have := (po.el (ls.length - 1) (by omega)).1; omega) (fun h => by omega)
  have hlen := po.dur_len hx h
  have hcl := cpd_len ls x 1000000000
  rw [e] at hlen
  refine ⟨by omega, by omega, cpd_fr0 (by omega), fun i hi => ?_, fun i hi => ?_⟩
  · rw [cpd_fr, dur_fr h (by omega)]
  · rw [cpd_fe, dur_fe h (by omega)]

theorem PO.cpd_lvl {T : Int} {ls : List Lev} (po : PO T ls) {x : Int} (hx : 0 ≤ x) (h : x < 1000000000) {j : Nat} (hj : j < (cpd ls x 1000000000).length) :
    lvl ls (fr (cpd ls x 1000000000) j) = lvl ls x + j ∧ x ≤ fr (cpd ls x 1000000000) j ∧ fr (cpd ls x 1000000000) j < 1000000000 ∧ fr ls (lvl ls x + j) ≤ fr (cpd ls x 1000000000) j := by
  obtain ⟨c1, c2, c3, c4, c5⟩ := po.cpd_all hx h
  obtain ⟨a1, a2, a3⟩ := po.lvl_spec hx
  cases j with
  | zero => rw [c3]; exact ⟨rfl, by omega, h, a2⟩
  | succ j =>
    rw [c4 j hj]
    have h3 := a3 (lvl ls x + (j + 1)) (by omega) (by omega)
    have h4 := (po.el (lvl ls x + (j + 1)) (by omega)).1
    exact ⟨po.lvl_eq (by omega) (by omega) (by omega) (fun hh => (po.st _ hh).1), by omega, h4, by omega⟩

theorem PO.cpd_le {T : Int} {ls : List Lev} (po : PO T ls) {x : Int} (hx : 0 ≤ x) (h : x < 1000000000) {i j : Nat} (hij : i < j) (hj : j < (cpd ls x 1000000000).length) :
    fr (cpd ls x 1000000000) i < fr (cpd ls x 1000000000) j := by
  obtain ⟨c1, c2, c3, c4, c5⟩ := po.cpd_all hx h
  obtain ⟨a1, a2, a3⟩ := po.lvl_spec hx
  obtain ⟨j, rfl⟩ : ∃ j', j = j' + 1 := ⟨j - 1, by omega⟩
  rw [c4 j hj]
  cases i with
  | zero => rw [c3]; exact a3 _ (by omega) (by omega)
  | succ i => rw [c4 i (by omega)]; exact po.lt (by omega) (by omega)

/-- the model's test at a level's beginning is the program's -/
theorem PO.okFit_iff {T : Int} {ls : List Lev} (po : PO T ls) {x long n : Int} (hx : 0 ≤ x) (h : x < 1000000000) (hn : n ≤ T) {j : Nat} (hj : j < (cpd ls x 1000000000).length) :
    n ≤ leastI T ls (fr (cpd ls x 1000000000) j) (laterI (fr (cpd ls x 1000000000) j) long) ↔ okFit (cpd ls x 1000000000) long n j := by
  obtain ⟨c1, c2, c3, c4, c5⟩ := po.cpd_all hx h
  obtain ⟨l1, l2, l3, l4⟩ := po.cpd_lvl hx h hj
  rw [po.least_ge (by omega) hn, l1]
  constructor
  · intro g i h1 h2 h3
    rw [c5 i h2]
    have hlt : fr (cpd ls x 1000000000) j < laterI (fr (cpd ls x 1000000000) j) long := by
      by_cases e : i = j
      · subst e; exact h3
      · have := po.cpd_le hx h (i := j) (j := i) (by omega) h2; omega
    exact g hlt (lvl ls x + i) (by omega) (by omega) (by
      obtain ⟨_, _, _, l4'⟩ := po.cpd_lvl hx h h2
      omega)
  · intro g hlt i h1 h2 h3
    have hi : i - lvl ls x < (cpd ls x 1000000000).length := by omega
    have := g (i - lvl ls x) (by omega) hi (by
      by_cases e : i - lvl ls x = j
      · rw [e]; exact hlt
      · obtain ⟨i', hi'⟩ : ∃ i', i - lvl ls x = i' + 1 := ⟨i - lvl ls x - 1, by omega⟩
        rw [hi', c4 i' (by omega), show lvl ls x + (i' + 1) = i from by omega]
        exact h3)
    rw [c5 _ hi, show lvl ls x + (i - lvl ls x) = i from by omega] at this
    exact this

theorem laterI_mono {s t b : Int} (h : s ≤ t) : laterI s b ≤ laterI t b := by
  unfold laterI; split <;> split <;> omega

/-- where a level stands in the way no beginning up to it gets by -/
theorem PO.okFit_skip {T : Int} {ls : List Lev} (po : PO T ls) {x long n : Int} (hx : 0 ≤ x) (h : x < 1000000000) {j p : Nat} (hp : p < (cpd ls x 1000000000).length)
    (h1 : fr (cpd ls x 1000000000) p < laterI (fr (cpd ls x 1000000000) j) long) (h2 : fe (cpd ls x 1000000000) p < n) : ∀ i, j ≤ i → i ≤ p → ¬ okFit (cpd ls x 1000000000) long n i := by
  intro i hi hip g
  have hm : fr (cpd ls x 1000000000) j ≤ fr (cpd ls x 1000000000) i := by
    by_cases e : j = i
    · subst e; omega
    · have := po.cpd_le hx h (i := j) (j := i) (by omega) (by omega); omega
  have := laterI_mono (b := long) hm
  have := g p hip hp (by omega)
  omega

/-- where no level up to a late one stands in the way there is room -/
theorem PO.okFit_mk {T : Int} {ls : List Lev} (po : PO T ls) {x long n : Int} (hx : 0 ≤ x) (h : x < 1000000000) {j p : Nat}
    (h1 : p < (cpd ls x 1000000000).length → laterI (fr (cpd ls x 1000000000) j) long ≤ fr (cpd ls x 1000000000) p) (h2 : ∀ i, j ≤ i → i < p → n ≤ fe (cpd ls x 1000000000) i) : okFit (cpd ls x 1000000000) long n j := by
  intro i hi hil hlt
  by_cases e : i < p
  · exact h2 i hi e
  · have := h1 (by omega)
    by_cases e2 : p = i
    · subst e2; omega
    · have := po.cpd_le hx h (i := p) (j := i) (by omega) hil; omega

end Go.Proofs.Ytfepkchopndpeaa

/- Worlds: of the old blocks, none but one has turned. -/
namespace Go.Proofs.Ytfepkchopndpeaa
open Go.RowKit

/-- of the old blocks none but cb has turned -/
structure But (cb : Nat) (w w' : World) : Prop where
  os : w'.os = w.os
  tape : w'.tape = w.tape
  output : w'.output = w.output
  size : w.heap.size ≤ w'.heap.size
  block : ∀ k, k < w.heap.size → k ≠ cb → w'.heap[k]? = w.heap[k]?

theorem But.refl (cb : Nat) (w : World) : But cb w w := ⟨rfl, rfl, rfl, Nat.le_refl _, fun _ _ _ => rfl⟩
theorem But.trans {cb : Nat} {a b c : World} (h : But cb a b) (k : But cb b c) : But cb a c :=
  ⟨k.os.trans h.os, k.tape.trans h.tape, k.output.trans h.output, Nat.le_trans h.size k.size, fun i hi hne => (k.block i (Nat.lt_of_lt_of_le hi h.size) hne).trans (h.block i hi hne)⟩
theorem But.setCell {cb : Nat} {a w : World} (h : But cb a w) (j : Nat) (u : Value) : But cb a (w.setCell ⟨cb, j, none⟩ u) :=
  h.trans ⟨rfl, rfl, rfl, by simp [World.setCell], fun k _ hne => Below.heap_setCell _ _ _ _ hne⟩
theorem But.drewN {cb : Nat} {a w : World} (h : But cb a w) (q : Nat) : But cb a (w.drewN q) := ⟨h.os, h.tape, h.output, h.size, h.block⟩
theorem But.alloc {cb : Nat} {a w : World} (h : But cb a w) (o : Obj) : But cb a (w.alloc o) :=
  h.trans ⟨rfl, rfl, rfl, by simp, fun k hk _ => Below.heap_alloc _ _ _ hk⟩
theorem But.of {cb : Nat} {w w' : World} (h : Below w.heap.size w w') : But cb w w' := ⟨h.os, h.tape, h.output, h.size, fun k hk _ => h.block k hk⟩
theorem But.below {cb B : Nat} {w w' : World} (h : But cb w w') (h1 : B ≤ cb) (h2 : B ≤ w.heap.size) : Below B w w' := ⟨h.os, h.tape, h.output, h.size, fun k hk => h.block k (by omega) (by omega)⟩

end Go.Proofs.Ytfepkchopndpeaa
