/- The draws of chapter 10: a profile, jobs, starts. -/
import Derived.Test.YtcmpenlgkccgkaaPlanDr
import Derived.Test.YtcmpenlgkccgkaaPlanW
namespace Go.Proofs.Ytcmpenlgkccgkaa
open Go.RowKit Go.Sort

/-- a profile drawn, jobs beside it -/
structure DJ (w0 : World) (cb P gb : Nat) (T : Int) (v : Option Addr) (m c' : Nat) (ls : List Lev) (g c : Nat) (ys : List Jb) (a : Option Addr) (n cap : Nat) (zs : List Int) (W : World) : Prop where
  d : DrawB w0 cb P T v m c' ls a n cap zs W
  o : OwnJ W gb g c ys
  gc : g ≠ cb
  gr : w0.heap.size < g
variable {w0 W W' : World} {cb P gb m c' g c n cap : Nat} {T : Int} {v a : Option Addr} {ls : List Lev} {ys : List Jb} {zs : List Int}
theorem DJ.step (h : DJ w0 cb P gb T v m c' ls g c ys a n cap zs W) (k : CurAt W' cb a n cap zs) (b : But cb W W') : DJ w0 cb P gb T v m c' ls g c ys a n cap zs W' :=
  ⟨h.d.step k b, h.o.blk (b.block g h.o.lt h.gc), h.gc, h.gr⟩
theorem DJ.below (h : DJ w0 cb P gb T v m c' ls g c ys a n cap zs W) (b : Below W.heap.size W W') : DJ w0 cb P gb T v m c' ls g c ys a n cap zs W' := h.step (h.d.cur.but b h.d.cur.lt) (But.of b)
theorem DJ.jobs (h : DJ w0 cb P gb T v m c' ls g c ys a n cap zs W) (hA : allSmall ys) : JobS W (some ⟨g, 0, none⟩) ys.length c ys := h.o.toS (fun i hi => (hA _ (by rw [jg_get hi]; exact List.getElem_mem hi)).wf)
theorem IntS.blkS {w w' : World} {a : Option Addr} {n cap : Nat} {zs : List Int} (h : IntS w a n cap zs) (hz : w.heap.size ≤ w'.heap.size) (hk : 0 < n → ∀ b off, a = some ⟨b, off, none⟩ → w'.heap[b]? = w.heap[b]?) : IntS w' a n cap zs :=
  ⟨h.len, h.le, h.mx, fun hn => by
    obtain ⟨b, off, e, h1, h2⟩ := h.at_ hn
    exact ⟨b, off, e, Nat.lt_of_lt_of_le h1 hz, fun i hi => (World.cell?_of_block (w := w) (a := ⟨b, off + i, none⟩) (hk hn b off e)).trans (h2 i hi)⟩⟩
/-- a profile drawn, jobs beside it; the cursor forgotten -/
structure DK (w0 : World) (P : Nat) (T : Int) (v : Option Addr) (m c' : Nat) (ls : List Lev) (g c : Nat) (ys : List Jb) (W : World) : Prop where
  rb : W.heap[w0.heap.size]? = some (.cells #[.int .i64 0, .slice none 0 0] 38 (0, 0))
  pb : W.heap[P]? = some (.cells #[.int .i64 T, .slice v m c'] 38 (0, 0))
  lv : LevS W v m c' ls
  vb : 0 < m → ∀ b off, v = some ⟨b, off, none⟩ → b ≠ w0.heap.size
  tb : -1 ≤ T ∧ T ≤ 1001
  nb : m ≤ 201
  jb : JobS W (some ⟨g, 0, none⟩) ys.length c ys
  gr : w0.heap.size < g
  bel : Below w0.heap.size w0 W
  pr : w0.heap.size < P
theorem DJ.toK (h : DJ w0 cb P gb T v m c' ls g c ys a n cap zs W) (hA : allSmall ys) : DK w0 P T v m c' ls g c ys W :=
  ⟨h.d.rb, h.d.pb, h.d.lv, fun h0 b off e => (h.d.vb h0 b off e).2.2, h.d.tb, h.d.nb, h.jobs hA, h.gr, h.d.bel, by have := h.d.ne; omega⟩
theorem JobS.blkS {w w' : World} {b n cap : Nat} {ls : List Jb} (h : JobS w (some ⟨b, 0, none⟩) n cap ls) (hz : w.heap.size ≤ w'.heap.size) (hk : w'.heap[b]? = w.heap[b]?) : JobS w' (some ⟨b, 0, none⟩) n cap ls :=
  ⟨h.len, h.le, h.mx, h.nil, h.wf, fun hn => by
    obtain ⟨b', off, e, h1, h2⟩ := h.at_ hn
    have e' := e
    injection e' with e'; injection e' with e1 _ _
    subst e1
    exact ⟨b, off, e, Nat.lt_of_lt_of_le h1 hz, fun i hi c hc => (World.cell?_of_block (w := w) (a := ⟨b, off + i * 7 + c, none⟩) hk).trans (h2 i hi c hc)⟩⟩
theorem DK.set {r i : Nat} {u : Value} (h : DK w0 P T v m c' ls g c ys W) (h1 : w0.heap.size < r) (h2 : r ≠ P) (h3 : r ≠ g) (h4 : 0 < m → ∀ b off, v = some ⟨b, off, none⟩ → b ≠ r) : DK w0 P T v m c' ls g c ys (W.setCell ⟨r, i, none⟩ u) := by
  have hk : ∀ k, k ≠ r → (W.setCell ⟨r, i, none⟩ u).heap[k]? = W.heap[k]? := fun k hk => Below.heap_setCell _ _ _ _ hk
  have hz : W.heap.size ≤ (W.setCell ⟨r, i, none⟩ u).heap.size := by simp [World.setCell]
  exact ⟨(hk _ (by omega)).trans h.rb, (hk _ (Ne.symm h2)).trans h.pb, levs_keep0 h.lv (fun h0 b off e _ => hk b (h4 h0 b off e)) hz, h.vb, h.tb, h.nb, h.jb.blkS hz (hk g (Ne.symm h3)), h.gr, h.bel.setCell (Nat.le_of_lt h1) _, h.pr⟩
/-- the profile stored into the answer's box, all as told -/
theorem DK.fin (h : DK w0 P T v m c' ls g c ys W) {av : Option Addr} {cs : Nat} {ss : List Int} (hI : IntS W av ss.length cs ss) (hb : 0 < ss.length → ∀ b off, av = some ⟨b, off, none⟩ → b ≠ w0.heap.size) :
    ((W.setCell ⟨w0.heap.size, 0, none⟩ (.int .i64 T)).setCell ⟨w0.heap.size, 1, none⟩ (.slice v m c')).heap[w0.heap.size]? = some (.cells #[.int .i64 T, .slice v m c'] 38 (0, 0)) ∧
    LevS ((W.setCell ⟨w0.heap.size, 0, none⟩ (.int .i64 T)).setCell ⟨w0.heap.size, 1, none⟩ (.slice v m c')) v m c' ls ∧
    JobS ((W.setCell ⟨w0.heap.size, 0, none⟩ (.int .i64 T)).setCell ⟨w0.heap.size, 1, none⟩ (.slice v m c')) (some ⟨g, 0, none⟩) ys.length c ys ∧
    IntS ((W.setCell ⟨w0.heap.size, 0, none⟩ (.int .i64 T)).setCell ⟨w0.heap.size, 1, none⟩ (.slice v m c')) av ss.length cs ss ∧
    Below w0.heap.size w0 ((W.setCell ⟨w0.heap.size, 0, none⟩ (.int .i64 T)).setCell ⟨w0.heap.size, 1, none⟩ (.slice v m c')) := by
  have hgr := h.gr
  obtain ⟨F0, _⟩ := Proofs.Ytcmpenlgkccgkaa.set2 h.rb (.int .i64 T) (.slice v m c')
  have hk : ∀ k, k ≠ w0.heap.size → ((W.setCell ⟨w0.heap.size, 0, none⟩ (.int .i64 T)).setCell ⟨w0.heap.size, 1, none⟩ (.slice v m c')).heap[k]? = W.heap[k]? := fun k hk => (Below.heap_setCell _ _ _ _ hk).trans (Below.heap_setCell _ _ _ _ hk)
  have hz : W.heap.size ≤ ((W.setCell ⟨w0.heap.size, 0, none⟩ (.int .i64 T)).setCell ⟨w0.heap.size, 1, none⟩ (.slice v m c')).heap.size := by simp [World.setCell]
  exact ⟨F0, levs_keep0 h.lv (fun h0 b off e _ => hk b (h.vb h0 b off e)) hz, h.jb.blkS hz (hk g (by omega)), hI.blkS hz (fun h0 b off e => hk b (hb h0 b off e)), (h.bel.setCell (Nat.le_refl _) _).setCell (Nat.le_refl _) _⟩
theorem IntB.blk {w w' : World} {B n : Nat} {zs : List Int} (h : IntB w B n zs) (hb : w'.heap[B]? = w.heap[B]?) : IntB w' B n zs := by
  obtain ⟨cur, h1, h2⟩ := h
  exact ⟨cur, hb.trans h1, h2⟩
/-- a number put into a row of one's own -/
theorem IntB.put {w : World} {B n i : Nat} {zs : List Int} {z : Int} (h : IntB w B n zs) (hl : zs.length = n) (hi : i < n) : IntB (w.setCell ⟨B, i, none⟩ (.int .i64 z)) B n (zs.set i z) := by
  obtain ⟨cur, h1, h2, h3⟩ := h
  refine ⟨_, blk_set h1 _, by simpa using h2, fun k hk => ?_⟩
  rw [Array.getElem?_setIfInBounds]
  by_cases e : i = k
  · subst e
    rw [if_pos rfl, if_pos (by omega)]
    simp [zg, hl, hi]
  · rw [if_neg e, h3 k hk]
    simp [zg, e]
/-- what a start is turned to -/
def odd7 (i : Nat) : Int := [-1, 0, 1, 5, 1000000000, 1000000001, -2].getD i 0
theorem odd7_at {i : Nat} (h : i < 7) (W : World) (T' : TypeId) : (W.alloc (.cells #[.int .i64 (-1), .int .i64 0, .int .i64 1, .int .i64 5, .int .i64 1000000000, .int .i64 1000000001, .int .i64 (-2)] T')).heap[W.heap.size]? = some (.cells #[.int .i64 (-1), .int .i64 0, .int .i64 1, .int .i64 5, .int .i64 1000000000, .int .i64 1000000001, .int .i64 (-2)] T' (0, 0)) ∧ (#[Value.int .i64 (-1), .int .i64 0, .int .i64 1, .int .i64 5, .int .i64 1000000000, .int .i64 1000000001, .int .i64 (-2)] : Array Value)[i]? = some (.int .i64 (odd7 i)) := by
  refine ⟨heap_alloc_new _ _, ?_⟩
  obtain rfl | rfl | rfl | rfl | rfl | rfl | rfl : i = 0 ∨ i = 1 ∨ i = 2 ∨ i = 3 ∨ i = 4 ∨ i = 5 ∨ i = 6 := by omega
  all_goals rfl

end Go.Proofs.Ytcmpenlgkccgkaa
