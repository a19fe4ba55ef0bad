/- Numbers in a row, whatever the chapter: made, owned, opened, copied, held together, the greatest. -/
import Derived.Test.YtdgfkcobhhlfbaaGreatIntRow
import Derived.Test.YtdgfkcobhhlfbaaGreatIntsOpen
import Derived.Deep.LoopGhost
import Derived.Deep.RegionWith
namespace Go.Proofs.YtdgfkcobhhlfbaaGreat
open Go.ChangeShapes Go.WideShapes Go.ChangeAt Go.RowKit Go.Joins Go.Deep

theorem infoI : (Tryz.prog.info? 2).map (fun i => (i.zero, i.size, i.bytes)) = some (some (.int .i64 0), 1, 8) := by kernel_rfl

theorem ownI_below {w w' : World} {base : Nat} {e : TypeId} {size : Nat} {v : Value} {n : Nat} {xs : List Value} (h : w.ownsRow base e size v n xs) (hb : Below w.heap.size w w') : w'.ownsRow base e size v n xs := by
  have hl := h.lt
  refine ⟨h.1, ?_⟩
  rcases h.2 with h | ⟨g, cap, cur, rfl, hg, hgg, h⟩
  · exact .inl h
  · exact .inr ⟨g, cap, cur, rfl, hg, (hb.block g (hl g rfl).2).trans hgg, h⟩

theorem own_one (W : World) (z : Int) (T : TypeId) : ∀ j u, [Value.int .i64 z][j]? = some u → (W.alloc (.cells #[.int .i64 z] T)).cell? ((⟨W.heap.size, 0, none⟩ : Addr).add j) = some u := fun j u h => cell_one_new W _ T j u h

/-- all below B but block N is as it was -/
structure BelowBut (B N : Nat) (w w' : World) : Prop where
  os : w'.os = w.os
  tape : w'.tape = w.tape
  output : w'.output = w.output
  size : w.heap.size ≤ w'.heap.size
  block : ∀ k, k < B → k ≠ N → w'.heap[k]? = w.heap[k]?

theorem BelowBut.below {B N b : Nat} {w w' : World} (h : BelowBut B N w w') (hb : b ≤ B) (hN : b ≤ N) : Below b w w' :=
  ⟨h.os, h.tape, h.output, h.size, fun k hk => h.block k (by omega) (by omega)⟩

/-- a row of the call's own, kept by what keeps its block -/
theorem ownI_keep {w w' : World} {base g cap n : Nat} {e : TypeId} {size : Nat} {xs : List Value} (h : w.ownsRow base e size (.slice (some ⟨g, 0, none⟩) n cap) n xs) (hb : w'.heap[g]? = w.heap[g]?) : w'.ownsRow base e size (.slice (some ⟨g, 0, none⟩) n cap) n xs := by
  refine ⟨h.1, ?_⟩
  rcases h.2 with ⟨e, _⟩ | ⟨g', cap', cur, e, h1, hgg, r⟩
  · cases e
  · injection e with e1 e2 e3
    injection e1 with e1
    injection e1 with e1 _ _
    subst e1 e3
    exact .inr ⟨g, cap, cur, rfl, h1, hb.trans hgg, r⟩

theorem run_makeI (n : Nat) (hn : n ≤ 1048576) (wx : World) : (Instr.makeSlice 67 (.int .i64 0) (.int .i64 (n : Int))).run Tryz.prog wx = .ok (.slice (some ⟨wx.heap.size, 0, none⟩) 0 n) (wx.alloc (.cells (madeCells #[.int .i64 0] n) 2)) := by
  obtain ⟨i0, hi, hz0, hz1, hz2⟩ := info_parts infoI
  have := run_make (P := Tryz.prog) wx 67 2 i0 _ Tryz.underlying67 hi hz0 .i64 .i64 0 n (by omega) (by omega) (by rw [hz2]; omega) (by omega)
  rw [hz1] at this
  simp only [Int.toNat_natCast, Nat.mul_one, Int.toNat_zero] at this
  exact this

theorem IntB.cell {w : World} {B n : Nat} {zs : List Int} (h : IntB w B n zs) {i : Nat} (hi : i < n) : w.cell? ⟨B, i, none⟩ = some (.int .i64 (zg zs i)) := by
  obtain ⟨cur, h1, _, h3⟩ := h
  have := h3 i hi
  simp [World.cell?, h1, this]

/-- the greatest of the first k + 1 -/
def maxTo (zs : List Int) : Nat → Int
  | 0 => zg zs 0
  | k + 1 => max (maxTo zs k) (zg zs (k + 1))

theorem if_max (a b : Int) : (if a < b then b else a) = max a b := by
  rw [Int.max_def]
  split <;> split <;> omega

/-- block B holds just these numbers -/
def LdB (w : World) (B : Nat) (l : List Int) : Prop := w.heap[B]? = some (.cells (l.map (Value.int .i64)).toArray 2 (0, 0))

theorem LdB.cell {w : World} {B : Nat} {l : List Int} (h : LdB w B l) {k : Nat} (hk : k < l.length) : w.cell? ⟨B, k, none⟩ = some (.int .i64 (zg l k)) := by
  have h' : w.heap[B]? = _ := h
  simp [World.cell?, h', hk, zg]

theorem zg_getD (l : List Int) (k : Nat) : zg l k = l.getD k 0 := by rw [zg, List.getD_eq_getElem?_getD]

theorem LdB.free {w : World} {B : Nat} {l : List Int} (h : LdB w B l) (k : Nat) : w.frozen? ⟨B, k, none⟩ = false := free_of_blk k h

theorem LdB.lt {w : World} {B : Nat} {l : List Int} (h : LdB w B l) : B < w.heap.size := lt_of_block h

theorem LdB.below {w w' : World} {B : Nat} {l : List Int} (h : LdB w B l) (hb : Below w.heap.size w w') : LdB w' B l := (hb.block B h.lt).trans h

theorem LdB.keep {w w' : World} {B : Nat} {l : List Int} (h : LdB w B l) (hb : w'.heap[B]? = w.heap[B]?) : LdB w' B l := hb.trans h

theorem LdB.set {w : World} {B : Nat} {l : List Int} (h : LdB w B l) (k : Nat) (v : Int) : LdB (w.setCell ⟨B, k, none⟩ (.int .i64 v)) B (l.set k v) := by
  have := blk_set (j := k) h (.int .i64 v)
  refine this.trans ?_
  simp

theorem LdB.made (w : World) (m : Nat) : LdB (w.alloc (.cells (madeCells #[.int .i64 0] m) 2)) w.heap.size (List.replicate m 0) := by
  refine (heap_alloc_new w _).trans ?_
  simp [madeCells]
  apply Array.ext
  · simp
  · intro i h1 h2
    simp [Nat.mod_one]

theorem LdB.toB {w : World} {B : Nat} {l : List Int} (h : LdB w B l) : IntB w B l.length l := by
  refine ⟨_, h, by simp, fun i hi => ?_⟩
  simp [zg, hi]

theorem run_makeM (n : Nat) (hn : n ≤ 1048576) (wx : World) : (Instr.makeSlice 67 (.int .i64 (n : Int)) (.int .i64 (n : Int))).run Tryz.prog wx = .ok (.slice (some ⟨wx.heap.size, 0, none⟩) n n) (wx.alloc (.cells (madeCells #[.int .i64 0] n) 2)) := by
  obtain ⟨i0, hi, hz0, hz1, hz2⟩ := info_parts infoI
  have := run_make (P := Tryz.prog) wx 67 2 i0 _ Tryz.underlying67 hi hz0 .i64 .i64 n n (by omega) (by omega) (by rw [hz2]; omega) (by omega)
  rw [hz1] at this
  simp only [Int.toNat_natCast, Nat.mul_one] at this
  exact this

set_option maxRecDepth 8000 in
theorem open_intS {H : Type} {enc : TypeId × Value → H} {W : World} {b0 : Nat} {v : Value} {d : DataW H} {p : List MemPlace}
    (hv : Value.okWide Tryz.prog W .any b0 67 v) (h : DataW.Trod enc Tryz.prog W 0 (fun _ => true) true 67 v d p) :
    ∃ (a : Option Addr) (n cap : Nat) (zs : List Int), v = .slice a n cap ∧ IntS W a n cap zs := by
  obtain ⟨a, n, cap, rfl⟩ := okWide_slice Tryz.underlying67 hv
  obtain ⟨fuel, hf⟩ := h
  rcases open_ints Tryz.underlying67 Tryz.underlying2 (by kernel_rfl) hf with ⟨hcs, _⟩ | ⟨x, l, c, zs, hcs, _, hl, hm, hz, _, hcell, _⟩
  · simp [Value.cells] at hcs
    obtain ⟨rfl, rfl, rfl⟩ := hcs
    exact ⟨_, _, _, [], rfl, rfl, Nat.le_refl _, Nat.zero_le _, fun hi => by omega⟩
  · simp [Value.cells] at hcs
    obtain ⟨rfl, rfl, rfl⟩ := hcs
    have hz' : zs.length = cap := by simpa using hz
    refine ⟨_, _, _, zs.take n, rfl, by rw [List.length_take]; omega, hl, hm, fun hn => ?_⟩
    obtain ⟨b, off, spot⟩ := x
    have hc := hcell 0 (by omega)
    have hspot : spot = none := by simpa [Addr.add] using World.cell?_spot hc
    subst hspot
    refine ⟨b, off, rfl, by simpa [Addr.add] using World.block_lt_of_cell? W _ hc, fun i hi => ?_⟩
    have := hcell i (by omega)
    have hadd : (⟨b, off, none⟩ : Addr).add i = ⟨b, off + i, none⟩ := by unfold Addr.add; split <;> simp_all
    rw [hadd] at this
    rw [this]
    have : zg (zs.take n) i = zs[i]'(by omega) := by
      rw [zg, List.getElem?_take_of_lt hi, List.getElem?_eq_getElem (by omega)]; rfl
    rw [this, List.getD_eq_getElem?_getD, List.getElem?_eq_getElem (by omega)]
    rfl

/-- the first k of zs, noughts behind -/
def tkz (zs : List Int) (n k : Nat) : List Int := zs.take k ++ List.replicate (n - k) 0

theorem tkz_len {zs : List Int} {n k : Nat} (hl : zs.length = n) (hk : k ≤ n) : (tkz zs n k).length = n := by
  unfold tkz; rw [List.length_append, List.length_take, List.length_replicate]; omega

theorem tkz_set {zs : List Int} {n k : Nat} (hl : zs.length = n) (hk : k < n) : (tkz zs n k).set k (zg zs k) = tkz zs n (k + 1) := by
  unfold tkz
  rw [List.set_append_right _ _ (by rw [List.length_take]; omega), List.length_take, show k - min k zs.length = 0 by omega, show n - k = (n - (k + 1)) + 1 by omega, List.replicate_succ, List.set_cons_zero, zg_get (by omega), List.take_succ_eq_append_getElem (by omega), List.append_assoc]
  rfl

theorem tkz_all {zs : List Int} {n : Nat} (hl : zs.length = n) : tkz zs n n = zs := by
  unfold tkz; rw [← hl, List.take_length, Nat.sub_self]; simp

theorem own_form {w : World} {base : Nat} {e : TypeId} {size : Nat} {v : Value} {m : Nat} {xs : List Value} (h : w.ownsRow base e size v m xs) (hm : 0 < m) : ∃ g c, v = .slice (some ⟨g, 0, none⟩) m c := by
  rcases h.2 with ⟨_, h0⟩ | ⟨g, c, _, e, _⟩
  · omega
  · exact ⟨g, c, e⟩

end Go.Proofs.YtdgfkcobhhlfbaaGreat
