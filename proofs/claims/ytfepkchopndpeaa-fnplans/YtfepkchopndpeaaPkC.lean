/- Several texts in one. -/
import Derived.Test.YtfepkchopndpeaaLevIn
import Derived.ProofKit
import Derived.OpenShut
import Derived.Deep.SlicePairs
import Derived.Lib.SmallJoins
import Derived.Test.YtfepkchopndpeaaPkB
import Derived.Test.YtfepkchopndpeaaProfOk2
import Derived.Test.YtfepkchopndpeaaRows
import Derived.WalkKit
import Derived.Deep.RegionHeld3
import Derived.Deep.RegionLaw
import Derived.Maps.AppendAt
import Derived.Test.YtfepkchopndpeaaCut
/- A profile that came in, opened: its value, and the levels that lie there. -/
namespace Go.Proofs.Ytfepkchopndpeaa
open Go.ChangeShapes Go.WideShapes Go.ChangeAt Go.RowKit Go.Joins Go.Deep

end Go.Proofs.Ytfepkchopndpeaa

/- Own rows of levels with spare room behind them; the two Lowers told alike. -/
namespace Go.Proofs.Ytfepkchopndpeaa
open Go.RowKit

/-- block B is a row of the call's own, its first n levels those of ls -/
def LevC (w : World) (B n : Nat) (ls : List Lev) : Prop :=
  ∃ cur : Array Value, w.heap[B]? = some (.cells cur 65 (0, 0)) ∧ n * 2 ≤ cur.size ∧ ∀ i, i < n → cur[i * 2]? = some (.int .i64 (fr ls i)) ∧ cur[i * 2 + 1]? = some (.int .i64 (fe ls i))

theorem LevB.toC {w : World} {B n : Nat} {ls : List Lev} (h : LevB w B n n ls) : LevC w B n ls := by
  obtain ⟨cur, h1, h2, h3⟩ := h
  exact ⟨cur, h1, by omega, h3⟩
theorem LevC.lt {w : World} {B n : Nat} {ls : List Lev} (h : LevC w B n ls) : B < w.heap.size := by
  obtain ⟨cur, h1, _⟩ := h; exact lt_of_block h1
theorem LevC.blk {w w' : World} {B n : Nat} {ls : List Lev} (h : LevC w B n ls) (hb : w'.heap[B]? = w.heap[B]?) : LevC w' B n ls := by
  obtain ⟨cur, h1, h2⟩ := h
  exact ⟨cur, by rw [hb]; exact h1, h2⟩
theorem LevC.below {w w' : World} {B n : Nat} {ls : List Lev} (h : LevC w B n ls) (ho : Below w.heap.size w w') : LevC w' B n ls := h.blk (ho.block B h.lt)
theorem LevC.only {w w' : World} {B B' n : Nat} {ls : List Lev} (h : LevC w B n ls) (ho : Only B' w w') (hB : B ≠ B') : LevC w' B n ls := h.blk (ho.block B hB)
theorem LevC.toS {w : World} {B n cap : Nat} {ls : List Lev} (h : LevC w B n ls) (hl : ls.length = n) (hn : n ≤ cap) (hm : cap ≤ maxLen)
    (wf : ∀ i, i < n → (-9223372036854775808 ≤ fr ls i ∧ fr ls i ≤ 9223372036854775807) ∧ (-9223372036854775808 ≤ fe ls i ∧ fe ls i ≤ 9223372036854775807)) : LevS w (some ⟨B, 0, none⟩) n cap ls := by
  obtain ⟨cur, h1, h2, h3⟩ := h
  refine ⟨hl, hn, hm, (fun h => by cases h), wf, fun _ => ⟨B, 0, rfl, lt_of_block h1, fun i hi => ?_⟩⟩
  obtain ⟨e0, e1⟩ := h3 i (by omega)
  simp only [Nat.zero_add]
  exact ⟨by simp [World.cell?, h1, e0], by simp [World.cell?, h1, e1]⟩

/-- an own row, opened -/
theorem own_levC {w : World} {base : Nat} {v : Value} {out : List Lev} (h : w.ownsRow base 65 2 v out.length (cellsOf out)) (hn : 0 < out.length) :
    ∃ g cap, v = .slice (some ⟨g, 0, none⟩) out.length cap ∧ base ≤ g ∧ out.length ≤ cap ∧ cap ≤ maxLen ∧ LevC w g out.length out := by
  have hc := @World.ownsRow.cells _ _ _ _ _ _ _ h
  rcases h.2 with ⟨rfl, h0⟩ | ⟨g, cap, cur, rfl, hb, hg, h1, h2, h3, h4⟩
  · omega
  · refine ⟨g, cap, rfl, hb, h1, h2, cur, hg, by omega, fun i hi => ?_⟩
    obtain ⟨c0, c1⟩ := cellsOf_at out i hi
    have e : ∀ j, j < out.length * 2 → cur[j]? = (cellsOf out)[j]? := fun j hj => by
      rw [← h4, List.getElem?_take, if_pos hj, Array.getElem?_toList]
    exact ⟨(e _ (by omega)).trans c0, (e _ (by omega)).trans c1⟩

theorem LevC.step {w1 : World} {B n k : Nat} {k0 : Int} {cur : Array Value} (hcur1 : w1.heap[B]? = some (.cells cur 65 (0, 0))) (hcs : n * 2 ≤ cur.size) (hk : k < n)
    (hck : ∀ i, i < k → cur[i * 2]? = some (.int .i64 (k0 + 2 * (i : Int))) ∧ cur[i * 2 + 1]? = some (.int .i64 (k0 + 2 * (i : Int) + 1))) :
    ∃ cur' : Array Value, ((w1.setCell ⟨B, k * 2, none⟩ (.int .i64 (k0 + 2 * (k : Int)))).setCell ⟨B, k * 2 + 1, none⟩ (.int .i64 (k0 + 2 * (k : Int) + 1))).heap[B]? = some (.cells cur' 65 (0, 0)) ∧ n * 2 ≤ cur'.size ∧
      ∀ i, i < k + 1 → cur'[i * 2]? = some (.int .i64 (k0 + 2 * (i : Int))) ∧ cur'[i * 2 + 1]? = some (.int .i64 (k0 + 2 * (i : Int) + 1)) := by
  refine ⟨_, blk_set (blk_set hcur1 _) _, by simpa using hcs, fun i hi => ?_⟩
  simp only [Array.getElem?_setIfInBounds]
  by_cases e : i = k
  · subst e
    rw [if_neg (by omega), if_pos rfl, if_pos (by omega), if_pos rfl, if_pos (by simp; omega)]
    exact ⟨rfl, rfl⟩
  · rw [if_neg (by omega), if_neg (by omega), if_neg (by omega), if_neg (by omega)]
    exact hck i (by omega)

/-- both are right and the lower is short enough -/
noncomputable def lowB (Ta Tb : Int) (la lb : List Lev) : Bool := poB Ta la && poB Tb lb && decide ((lowL la lb).length ≤ 200)

theorem lowB_t {Ta Tb : Int} {la lb : List Lev} (h : lowB Ta Tb la lb = true) : PO Ta la ∧ PO Tb lb ∧ (lowL la lb).length ≤ 200 ∧ 0 < (lowL la lb).length := by
  unfold lowB at h
  simp only [Bool.and_eq_true, decide_eq_true_eq] at h
  have pa := poB_t h.1.1
  have pb := poB_t h.1.2
  exact ⟨pa, pb, h.2, (lowL_po pa pb h.2).n1⟩

/-- boxed pairs: block, its two cells, its type -/
def Bxs (W : World) (L : List (Nat × Value × Value × TypeId)) : Prop := ∀ x ∈ L, W.heap[x.1]? = some (.cells #[x.2.1, x.2.2.1] x.2.2.2 (0, 0))
theorem Bxs.below {W W' : World} {L : List (Nat × Value × Value × TypeId)} (h : Bxs W L) (hb : Below W.heap.size W W') : Bxs W' L := fun x hx => (hb.block _ (lt_of_block (h x hx))).trans (h x hx)
theorem Bxs.only {W W' : World} {B : Nat} {L : List (Nat × Value × Value × TypeId)} (h : Bxs W L) (ho : Only B W W') (hB : ∀ x ∈ L, x.1 ≠ B) : Bxs W' L := fun x hx => (ho.block _ (hB x hx)).trans (h x hx)
theorem Bxs.cons {W : World} {v0 v1 : Value} {T : TypeId} {L : List (Nat × Value × Value × TypeId)} (h : Bxs W L) : Bxs (W.alloc (.cells #[v0, v1] T)) ((W.heap.size, v0, v1, T) :: L) := by
  intro x hx
  rcases List.mem_cons.1 hx with rfl | hx
  · exact heap_alloc_new _ _
  · exact h.below box_below x hx

end Go.Proofs.Ytfepkchopndpeaa

/- A block that was laid is there behind what only lays more. -/
namespace Go.Proofs.Ytfepkchopndpeaa
open Go.RowKit

theorem newblk {W w' : World} {o : Obj} (h : Below (W.alloc o).heap.size (W.alloc o) w') : w'.heap[W.heap.size]? = some o :=
  (h.block W.heap.size (by simp)).trans (heap_alloc_new _ _)
theorem newblkd {W w' : World} {o : Obj} (h : Below (W.alloc o).drew.heap.size (W.alloc o).drew w') : w'.heap[W.heap.size]? = some o :=
  (h.block W.heap.size (by show W.heap.size < (W.alloc o).heap.size; simp)).trans (heap_alloc_new _ _)
theorem Bxs.add {W : World} {b : Nat} {v0 v1 : Value} {T : TypeId} {L : List (Nat × Value × Value × TypeId)} (h : Bxs W L) (hb : W.heap[b]? = some (.cells #[v0, v1] T (0, 0))) : Bxs W ((b, v0, v1, T) :: L) := by
  intro x hx
  rcases List.mem_cons.1 hx with rfl | hx
  · exact hb
  · exact h x hx

/-- two cells of a block stored -/
theorem set2 {W : World} {b : Nat} {u0 u1 : Value} {T : TypeId} (h : W.heap[b]? = some (.cells #[u0, u1] T (0, 0))) (v0 v1 : Value) :
    ((W.setCell ⟨b, 0, none⟩ v0).setCell ⟨b, 1, none⟩ v1).heap[b]? = some (.cells #[v0, v1] T (0, 0)) ∧ ∀ k, k ≠ b → ((W.setCell ⟨b, 0, none⟩ v0).setCell ⟨b, 1, none⟩ v1).heap[k]? = W.heap[k]? := by
  have := blk_set (j := 1) (blk_set (j := 0) h v0) v1
  simp only [List.setIfInBounds_toArray, List.set_cons_zero, List.set_cons_succ] at this
  exact ⟨this, fun k hk => (Below.heap_setCell _ _ _ _ hk).trans (Below.heap_setCell _ _ _ _ hk)⟩

end Go.Proofs.Ytfepkchopndpeaa

/- NewProfile, of the model and of the program. -/
namespace Go.Proofs.Ytfepkchopndpeaa
open Go.RowKit

theorem po_new {t : Int} (h : inB t 0 1000 = true) : PO t [(0, t)] := by
  have := inB_t h
  refine ⟨this.1, this.2, by simp, by simp, rfl, fun i hi => ?_, fun i hi => by simp at hi⟩
  have e : i = 0 := by simpa using hi
  rw [e]
  exact ⟨by show (0 : Int) < 1000000000; decide, by show 0 ≤ t; omega, by show t ≤ t; omega⟩
theorem poB_new (t : Int) : poB t [(0, t)] = inB t 0 1000 := by
  by_cases c : inB t 0 1000 = true
  · rw [c]; exact poB_mk (po_new c)
  · rw [show inB t 0 1000 = false from by simpa using c]
    exact poB_no fun p => c (inB_mk ⟨p.t0, p.t1⟩)

theorem one_row {w : World} {B : Nat} {t : Int} (h : w.heap[B]? = some (.cells #[.int .i64 0, .int .i64 t] 65 (0, 0))) : LevB w B 1 1 [(0, t)] :=
  ⟨_, h, rfl, fun i hi => by obtain rfl : i = 0 := by omega
                             exact ⟨rfl, rfl⟩⟩

theorem specNew_yes (t : Int) (w : World) (h : inB t 0 1000 = true) :
    Calls Try.prog 68 #[.int .i64 t] w fun e w' => ∃ B, e = .returned (.tuple #[.agg #[.int .i64 t, .slice (some ⟨B, 0, none⟩) 1 1], .bool true]) ∧ w.heap.size ≤ B ∧ LevB w' B 1 1 [(0, t)] ∧ Below w.heap.size w w' := by
  go_enter Try.func68, Try.ntmps68
  go_wp2_with (go_at_call 42; refine (l1In_any _ _ _ _).mono ?_; rintro e w' ⟨rfl, hq⟩; have hq' := hq.symm; clear hq; subst hq')
  refine bodyPost_ret (v := .tuple #[.agg #[.int .i64 t, .slice (some ⟨w.heap.size + 1, 0, none⟩) 1 1], .bool true]) (by simp [results, Try.results68, go_sem]) rfl ⟨w.heap.size + 1, rfl, by omega, one_row ?_, ((Below.refl _ _).alloc (by simp) _).alloc (by simp) _⟩
  have := heap_alloc_new (w.alloc (.cells #[.int .i64 t, .slice (some ⟨w.heap.size + 1, 0, none⟩) 1 1] 26)) (.cells #[.int .i64 0, .int .i64 t] 65)
  simpa using this

theorem specNew_no (t : Int) (w : World) (h : inB t 0 1000 = false) :
    Calls Try.prog 68 #[.int .i64 t] w fun e w' => e = .returned (.tuple #[.agg #[.int .i64 0, .slice none 0 0], .bool false]) ∧ Below w.heap.size w w' := by
  go_enter Try.func68, Try.ntmps68
  go_wp2_with (go_at_call 42; refine (l1In_any _ _ _ _).mono ?_; rintro e w' ⟨rfl, hq⟩; have hq' := hq.symm; clear hq; subst hq')
  exact bodyPost_ret (v := .tuple #[.agg #[.int .i64 0, .slice none 0 0], .bool false]) (by simp [results, Try.results68, go_sem]) rfl ⟨rfl, (Below.refl _ _).alloc (by simp) _⟩

theorem one_wf {t : Int} (h : -9223372036854775808 ≤ t ∧ t ≤ 9223372036854775807) : ∀ i, i < 1 → (-9223372036854775808 ≤ fr [((0 : Int), t)] i ∧ fr [((0 : Int), t)] i ≤ 9223372036854775807) ∧ (-9223372036854775808 ≤ fe [((0 : Int), t)] i ∧ fe [((0 : Int), t)] i ≤ 9223372036854775807) := by
  intro i hi
  obtain rfl : i = 0 := by omega
  exact ⟨by show (-9223372036854775808 : Int) ≤ 0 ∧ (0 : Int) ≤ 9223372036854775807; omega, h⟩

/-- the profile as the program lays it ahead of the test -/
theorem laid_new (t : Int) (w : World) :
    LevB (((w.alloc (.cells #[.int .i64 0, .slice none 0 0] 26)).alloc (.cells #[.int .i64 0, .int .i64 t] 65)).alloc (.cells #[.int .i64 t, .slice (some ⟨w.heap.size + 1, 0, none⟩) 1 1] 26)) (w.heap.size + 1) 1 1 [(0, t)] := by
  refine LevB.below (w := (w.alloc (.cells #[.int .i64 0, .slice none 0 0] 26)).alloc (.cells #[.int .i64 0, .int .i64 t] 65)) (one_row ?_) box_below
  have := heap_alloc_new (w.alloc (.cells #[.int .i64 0, .slice none 0 0] 26)) (.cells #[.int .i64 0, .int .i64 t] 65)
  simpa using this

end Go.Proofs.Ytfepkchopndpeaa

/- 'append' to a row of the call's own, as a step of a region that draws its order. -/
namespace Go.Proofs.Ytfepkchopndpeaa
open Go.RowKit

theorem step_append_own {P : Program} {ops : Array Oper} {o : Oper} {a : Act} {w : World} {K : Act → World → Prop} {Q : Exit → Act → World → Prop} {E : Prop}
    (hg : o.guard = none) (s x : Operand) (t : TypeId) (hop : o.op = Op.call { callee := Callee.builtin Builtin.append, args := #[s, x], argTypes := #[t, t] })
    (base : Nat) (e : TypeId) (i : TypeInfo) (z : Value) (size bytes : Nat) (h1 : P.underlying t = some (.slice e)) (h2 : P.info? e = some i) (h3 : i.zero = some z) (h4 : i.size = size) (h5 : i.bytes = bytes) (h6 : z.cells.size = size) (h7 : 0 < size)
    (v : Value) (n : Nat) (xs : List Value) (hs : a.eval s = v) (hown : w.ownsRow base e size v n xs)
    (ad : Addr) (m c : Nat) (news : List Value) (hx : a.eval x = .slice (some ad) m c) (hn : news.length = m * size) (hc : ∀ j u, news[j]? = some u → w.cell? (ad.add j) = some u) (h1c : ∀ u ∈ news, u.oneCell' = true)
    (b1 : n + m ≤ maxLen) (b2 : (n + m) * bytes ≤ 140737488355328) (hb : base ≤ w.heap.size)
    (hK : ∀ v' w', w'.ownsRow base e size v' (n + m) (xs ++ news) → w.grownBy w' v.ownBlock → (v' = .slice none 0 0 ↔ v = .slice none 0 0 ∧ m = 0) → (v'.ownBlock = v.ownBlock ∨ v'.ownBlock = some w.heap.size) → K (a.put o.dst v') w') :
    if Region.wanted o (yielded ops a.tmps) = true then Oper.wp P o a w K Q else E := by
  have hw : Region.wanted o (yielded ops a.tmps) = true := by simp [Region.wanted, hg]
  rw [if_pos hw]
  obtain ⟨v', w', hrun, r1, r2, r3, r4⟩ := run_append_own_at (P := P) w base t o.type e i z size bytes h1 h2 h3 h4 h5 h6 h7 v n xs hown ad m c news hn hc h1c b1 b2 hb
  unfold Oper.wp
  simp [execOp, hop, resolve, invoke, builtin, hs, hx, hrun, Result.andThen]
  exact hK v' w' r1 r2 r3 r4

end Go.Proofs.Ytfepkchopndpeaa

/- Reserve of the model: told, copied, cut. -/
namespace Go.Proofs.Ytfepkchopndpeaa
open Go.RowKit

theorem addL_more_len (out : List Lev) (t f : Int) : (addL out t f).length ≤ out.length + 1 := by
  unfold addL
  split
  · split <;> simp
  · simp
theorem cutGo_len (ls : List Lev) (ts : List Int) (x y more : Int) : ∀ (g : Nat) (last : Int) (out : List Lev), (cutGo ls ts x y more g last out).length ≤ out.length + g
  | 0, _, out => by simp [cutGo]
  | g + 1, last, out => by
    rw [cutGo]
    split
    · omega
    · have := cutGo_len ls ts x y more g (nextT ts last) (addL out (nextT ts last) (freeC ls x y more (nextT ts last)))
      have := addL_more_len out (nextT ts last) (freeC ls x y more (nextT ts last))
      omega
theorem cutGo_mem (ls : List Lev) (ts : List Int) (x y more : Int) : ∀ (g : Nat) (last : Int) (out : List Lev) (m : Lev), m ∈ cutGo ls ts x y more g last out → m ∈ out ∨ (m.1 ∈ ts ∧ m.2 = freeC ls x y more m.1)
  | 0, _, out, m, h => Or.inl (by simpa [cutGo] using h)
  | g + 1, last, out, m, h => by
    rw [cutGo] at h
    split at h
    · exact Or.inl h
    · rename_i hne
      rcases cutGo_mem ls ts x y more g _ _ m h with h1 | h1
      · have h2 : m ∈ out ∨ m = (nextT ts last, freeC ls x y more (nextT ts last)) := by
          unfold addL at h1
          split at h1
          · split at h1
            · exact Or.inl h1
            · simpa using h1
          · simpa using h1
        rcases h2 with h2 | h2
        · exact Or.inl h2
        · exact Or.inr (by rw [h2]; exact ⟨(nextT_spec ts last hne).1, rfl⟩)
      · exact Or.inr h1

theorem cutL_bd {T : Int} {ls : List Lev} (po : PO T ls) {x y more : Int} (hx : okB x = true) (hy : okB y = true) (hm : -1000 ≤ more ∧ more ≤ 1000) {i : Nat} (hi : i < (cutL ls x y more).length) :
    (0 ≤ fr (cutL ls x y more) i ∧ fr (cutL ls x y more) i ≤ 1000000000) ∧ (-1000 ≤ fe (cutL ls x y more) i ∧ fe (cutL ls x y more) i ≤ 2000) := by
  obtain ⟨x0, x1⟩ := okB_t hx
  obtain ⟨y0, y1⟩ := okB_t hy
  have hmem : (cutL ls x y more)[i] ∈ cutL ls x y more := List.getElem_mem hi
  rw [← get_fr hi, ← get_fe hi]
  rcases cutGo_mem _ _ _ _ _ _ _ _ _ hmem with h | ⟨h1, h2⟩
  · cases h
  · have t0 := timesC_mem po x0 y0 h1
    have tb : (cutL ls x y more)[i].1 ≤ 1000000000 := by
      unfold timesC at h1
      rcases List.mem_append.1 h1 with h | h
      · obtain ⟨l, hl, e⟩ := List.mem_map.1 h
        obtain ⟨j, hj, e2⟩ := List.getElem_of_mem hl
        have := (po.el j hj).1
        rw [← e, ← e2, get_fr hj]; omega
      · simp at h; omega
    have ha := po.at_bd t0
    refine ⟨⟨t0, tb⟩, ?_⟩
    rw [h2]
    unfold freeC
    split <;> omega

theorem levs_src {w : World} {b off : Nat} {ls : List Lev} (hat : LevAt w b off ls) : ∀ j u, (cellsOf ls)[j]? = some u → w.cell? ((⟨b, off, none⟩ : Addr).add j) = some u := by
  intro j u hj
  have hadd : (⟨b, off, none⟩ : Addr).add j = ⟨b, off + j, none⟩ := by unfold Addr.add; split <;> simp_all
  have hl := cellsOf_len ls
  have hjl : j < ls.length * 2 := by
    rcases Nat.lt_or_ge j (cellsOf ls).length with h1 | h1
    · omega
    · rw [List.getElem?_eq_none h1] at hj; cases hj
  obtain ⟨c0, c1⟩ := cellsOf_at ls (j / 2) (by omega)
  obtain ⟨a0, a1⟩ := hat (j / 2) (by omega)
  rw [hadd]
  rcases Nat.mod_two_eq_zero_or_one j with e | e
  · rw [show j / 2 * 2 = j by omega] at c0 a0
    rw [hj] at c0
    rw [a0, c0]
  · rw [show j / 2 * 2 + 1 = j by omega] at c1
    rw [show off + j / 2 * 2 + 1 = off + j by omega] at a1
    rw [hj] at c1
    rw [a1, c1]

theorem l2Told_any (T x y m : Int) (a : Option Addr) (n cap : Nat) (ls : List Lev) (w : World) (h : LevS w a n cap ls) :
    Calls Try.prog 47 #[.agg #[.int .i64 T, .slice a n cap], .int .i64 x, .int .i64 y, .int .i64 m] w fun e w' => e = .returned (.bool (poB T ls && (okB x && (okB y && inB m 0 1000)))) ∧ Below w.heap.size w w' := by
  rcases q1 : poB T ls with _ | _
  · go_enter Try.func47, Try.ntmps47
    go_wp2_with fail
    refine (specProfileOk_any T a n cap ls _ (h.below box_below)).mono ?_
    rw [q1]
    rintro e w1 ⟨rfl, hb1⟩
    go_wp2
    go_ret
    exact ⟨rfl, box_below.then hb1 (by simp)⟩
  · rcases q2 : okB x with _ | _
    · go_enter Try.func47, Try.ntmps47
      go_wp2_with fail
      refine (specProfileOk_any T a n cap ls _ (h.below box_below)).mono ?_
      rw [q1]
      rintro e w1 ⟨rfl, hb1⟩
      go_wp2_with (go_at_call 38; refine (specOk_any _ _).mono ?_; rw [q2]; rintro e w' ⟨rfl, rfl⟩)
      go_ret
      exact ⟨rfl, box_below.then hb1 (by simp)⟩
    · rcases q3 : okB y with _ | _
      · go_enter Try.func47, Try.ntmps47
        go_wp2_with fail
        refine (specProfileOk_any T a n cap ls _ (h.below box_below)).mono ?_
        rw [q1]
        rintro e w1 ⟨rfl, hb1⟩
        go_wp2_with fail
        refine (specOk_any _ _).mono ?_
        rw [q2]
        rintro e w' ⟨rfl, rfl⟩
        go_wp2_with fail
        refine (specOk_any _ _).mono ?_
        rw [q3]
        rintro e w' ⟨rfl, rfl⟩
        go_wp2
        go_ret
        exact ⟨rfl, box_below.then hb1 (by simp)⟩
      · go_enter Try.func47, Try.ntmps47
        go_wp2_with fail
        refine (specProfileOk_any T a n cap ls _ (h.below box_below)).mono ?_
        rw [q1]
        rintro e w1 ⟨rfl, hb1⟩
        go_wp2_with fail
        refine (specOk_any _ _).mono ?_
        rw [q2]
        rintro e w' ⟨rfl, rfl⟩
        go_wp2_with fail
        refine (specOk_any _ _).mono ?_
        rw [q3]
        rintro e w' ⟨rfl, rfl⟩
        go_wp2_with fail
        refine (l1In_any _ _ _ _).mono ?_
        rintro e w' ⟨rfl, rfl⟩
        go_wp2
        go_ret
        exact ⟨rfl, box_below.then hb1 (by simp)⟩

end Go.Proofs.Ytfepkchopndpeaa
