/- Push and Pop of the program's heap. -/
import Derived.Test.YtbnocnadlleibaaInts
import Derived.Test.YtbnocnadlleibaaHeapI3
import Derived.Deep.RegionLaw
namespace Go.Proofs.Ytbnocnadlleibaa
open Go.RowKit Go.Sort

theorem infoMa : (Try.prog.info? 78).map (fun i => (i.zero, i.size, i.bytes)) = some (some (.agg #[.int .i64 0, .int .i64 0]), 2, 16) := by kernel_rfl

theorem newm_cells (W : World) (x : Int × Int) (T : TypeId) : ∀ i u, (ml x)[i]? = some u → ((W.alloc (.cells #[.int .i64 x.1, .int .i64 x.2] T)).drew).cell? ((⟨W.heap.size, 0, none⟩ : Addr).add i) = some u := by
  intro i u hi
  have hadd : (⟨W.heap.size, 0, none⟩ : Addr).add i = ⟨W.heap.size, i, none⟩ := by unfold Addr.add; split <;> simp_all
  rw [hadd]
  show (W.alloc (.cells #[.int .i64 x.1, .int .i64 x.2] T)).cell? _ = _
  rw [Joins.cell_alloc_mark_at _ _ _ _ _ _ rfl]
  show (List.toArray (ml x))[i]? = _
  rw [List.getElem?_toArray]
  exact hi
theorem ml_one (x : Int × Int) : ∀ u ∈ ml x, u.oneCell' = true := by simp [ml, Value.oneCell']

theorem asM (v : Value) (w : World) : (Instr.typeAssert (.iface 78 v) 20 78 false).run Try.prog w = .ok v w := by kernel_rfl

/-- what becomes of the heap: of the old blocks only the box and the row may turn, the row is the old one or new -/
structure Turn (w w' : World) (P g g' : Nat) : Prop where
  os : w'.os = w.os
  tape : w'.tape = w.tape
  output : w'.output = w.output
  size : w.heap.size ≤ w'.heap.size
  block : ∀ k, k < w.heap.size → k ≠ P → k ≠ g → w'.heap[k]? = w.heap[k]?
  row : g' = g ∨ w.heap.size ≤ g'

theorem Turn.refl (w : World) (P g : Nat) : Turn w w P g g := ⟨rfl, rfl, rfl, Nat.le_refl _, fun _ _ _ _ => rfl, Or.inl rfl⟩
theorem Turn.trans {a b c : World} {P g g' g'' : Nat} (h : Turn a b P g g') (k : Turn b c P g' g'') : Turn a c P g g'' :=
  ⟨k.os.trans h.os, k.tape.trans h.tape, k.output.trans h.output, Nat.le_trans h.size k.size, fun i hi h1 h2 => (k.block i (Nat.lt_of_lt_of_le hi h.size) h1 (by
    rcases h.row with e | e
    · omega
    · omega)).trans (h.block i hi h1 h2), by
    have := h.size
    rcases h.row with e | e <;> rcases k.row with e2 | e2
    · exact Or.inl (e2.trans e)
    · exact Or.inr (by omega)
    · exact Or.inr (by omega)
    · exact Or.inr (by omega)⟩
theorem Turn.of {a b : World} {P g : Nat} (h : Below a.heap.size a b) : Turn a b P g g := ⟨h.os, h.tape, h.output, h.size, fun k hk _ _ => h.block k hk, Or.inl rfl⟩
theorem Turn.ofRow {a b : World} {P g : Nat} (h : a.grownBy b (some g)) : Turn a b P g g := ⟨h.os, h.tape, h.output, h.size, fun k hk _ hg => h.block k hk (by simpa using hg), Or.inl rfl⟩
theorem Turn.below {a b : World} {P g g' base : Nat} (h : Turn a b P g g') (hP : base ≤ P) (hg : base ≤ g) (hs : base ≤ a.heap.size) : Below base a b :=
  ⟨h.os, h.tape, h.output, h.size, fun k hk => h.block k (by omega) (by omega) (by omega)⟩

/-- the heap, its row swapped -/
theorem swapH_any (base P g cap : Nat) (ys : List (Int × Int)) (i j : Nat) (w : World) (h : HeapW w base P g cap ys) (hi : i < ys.length) (hj : j < ys.length) :
    Calls Try.prog 122 #[.slice (some ⟨g, 0, none⟩) ys.length cap, .int .i64 i, .int .i64 j] w fun e w' => e = .returned (.tuple #[]) ∧ HeapW w' base P g cap (sw ys i j) ∧ Turn w w' P g g := by
  obtain ⟨x0, x1⟩ := h.cell hi
  obtain ⟨y0, y1⟩ := h.cell hj
  refine (swap_any g ys.length cap i j (mg ys i) (mg ys j) w hi hj x0 x1 y0 y1 h.free).mono ?_
  rintro e w' ⟨rfl, q, rfl⟩
  have o0 := h.own.stored (i * 2) (.int .i64 (mg ys j).1)
  have o1 := o0.1.stored (i * 2 + 1) (.int .i64 (mg ys j).2)
  have o2 := o1.1.stored (j * 2) (.int .i64 (mg ys i).1)
  have o3 := o2.1.stored (j * 2 + 1) (.int .i64 (mg ys i).2)
  have gr := ((o0.2.trans o1.2).trans o2.2).trans o3.2
  have em : mcells (sw ys i j) = ((((mcells ys).set (i * 2) (.int .i64 (mg ys j).1)).set (i * 2 + 1) (.int .i64 (mg ys j).2)).set (j * 2) (.int .i64 (mg ys i).1)).set (j * 2 + 1) (.int .i64 (mg ys i).2) := by
    unfold sw
    rw [mcells_set _ _ _ (by simpa using hj), mcells_set _ _ _ hi]
  refine ⟨rfl, ⟨?_, ?_, h.ne, h.ge⟩, Turn.ofRow ⟨gr.os, gr.tape, gr.output, gr.size, gr.block⟩⟩
  · rw [sw_len]; exact (gr.block P h.lt.2.2 (by simpa using h.ne)).trans h.box
  · rw [sw_len, em]; exact o3.1

theorem push_done {base P g cap g5 c5 : Nat} {ys : List (Int × Int)} {x : Int × Int} {w w5 : World} {o : Obj} (hP1 : P < w.heap.size) (hne : P ≠ g) (hPb : base ≤ P) (G5 : w.grownBy w5 (some g))
    (HB5 : w5.heap[P]? = some (.cells #[.slice (some ⟨g, 0, none⟩) ys.length cap] 75 (0, 0)))
    (own5 : w5.ownsRow base 78 2 (.slice (some ⟨g5, 0, none⟩) (ys.length + 1) c5) (ys.length + 1) (mcells ys ++ [.int .i64 x.1, .int .i64 x.2]))
    (at5 : (Value.slice (some ⟨g5, 0, none⟩) (ys.length + 1) c5).ownBlock = (Value.slice (some ⟨g, 0, none⟩) ys.length cap).ownBlock ∨ (Value.slice (some ⟨g5, 0, none⟩) (ys.length + 1) c5).ownBlock = some (w.alloc o).drew.heap.size) :
    HeapW (w5.setCell ⟨P, 0, none⟩ (.slice (some ⟨g5, 0, none⟩) (ys.length + 1) c5)) base P g5 c5 (ys ++ [x]) ∧ Turn w (w5.setCell ⟨P, 0, none⟩ (.slice (some ⟨g5, 0, none⟩) (ys.length + 1) c5)) P g g5 := by
  have hg : g5 = g ∨ w.heap.size + 1 = g5 := by
    rcases at5 with e | e
    · exact Or.inl (Option.some.inj e)
    · refine Or.inr ?_
      have : g5 = (w.alloc o).drew.heap.size := Option.some.inj e
      rw [this]; show _ = (w.alloc o).heap.size; simp
  have hP5 : P ≠ g5 := by omega
  have hsz : (w5.setCell ⟨P, 0, none⟩ (.slice (some ⟨g5, 0, none⟩) (ys.length + 1) c5)).heap.size = w5.heap.size := by simp [World.setCell]
  have hb : ∀ k, k ≠ P → (w5.setCell ⟨P, 0, none⟩ (.slice (some ⟨g5, 0, none⟩) (ys.length + 1) c5)).heap[k]? = w5.heap[k]? := fun k hk => Below.heap_setCell _ _ _ _ hk
  refine ⟨⟨?_, ?_, hP5, hPb⟩, ⟨G5.os, G5.tape, G5.output, by rw [hsz]; exact G5.size, fun k hk h1 h2 => (hb k h1).trans (G5.block k hk (by simpa using h2)), by omega⟩⟩
  · have := blk_set (j := 0) HB5 (.slice (some ⟨g5, 0, none⟩) (ys.length + 1) c5)
    rw [this]; simp
  · rw [List.length_append, mcells_app]
    refine ⟨own5.1, ?_⟩
    rcases own5.2 with ⟨e, _⟩ | ⟨g', c', cur, e, h1, h2, r⟩
    · cases e
    · have e' := e
      injection e with e1 _ e3
      injection e1 with e1
      injection e1 with e1 _ _
      subst e1 e3
      exact .inr ⟨g5, c5, cur, rfl, h1, (hb g5 (Ne.symm hP5)).trans h2, r⟩

set_option maxRecDepth 8000 in
set_option maxHeartbeats 4000000 in
theorem pushM_any (base P g cap : Nat) (ys : List (Int × Int)) (x : Int × Int) (w : World) (h : HeapW w base P g cap ys) (hb : base ≤ w.heap.size) (hn : ys.length ≤ 1048576) :
    Calls Try.prog 121 #[.pointer (some ⟨P, 0, none⟩), .iface 78 (.agg #[.int .i64 x.1, .int .i64 x.2])] w fun e w' => e = .returned (.tuple #[]) ∧ ∃ g' cap', HeapW w' base P g' cap' (ys ++ [x]) ∧ Turn w w' P g g' := by
  obtain ⟨i1, hj, hj0, hj1, hj2⟩ := info_parts infoMa
  obtain ⟨hg0, hg1, hP1⟩ := h.lt
  have hne := h.ne
  have hPb := h.ge
  have KP : w.cell? ⟨P, 0, none⟩ = some (.slice (some ⟨g, 0, none⟩) ys.length cap) := cell_of_one h.box
  have KA : Hid (∀ o, (w.alloc o).cell? ⟨P, 0, none⟩ = some (.slice (some ⟨g, 0, none⟩) ys.length cap)) := fun o => (World.cell?_alloc_lt _ _ _ (by simpa using hP1)).trans KP
  have HOP : Hid (∀ W, Below w.heap.size w W → W.ownsRow base 78 2 (.slice (some ⟨g, 0, none⟩) ys.length cap) ys.length (mcells ys)) := fun W hW => (h.below hW).own
  have HBX : Hid _ := h.box
  have Hk : Hid (∀ (W5 : World) (o : Obj), ((w.alloc o).drew).grownBy W5 (Value.slice (some ⟨g, 0, none⟩) ys.length cap).ownBlock → w.grownBy W5 (some g)) := fun W5 o hg =>
    ⟨hg.os, hg.tape, hg.output, Nat.le_trans (by simp) hg.size, fun r hr hne => (hg.block r (by simp; omega) (by simpa [Value.ownBlock] using hne)).trans (Below.heap_alloc _ _ _ hr)⟩
  clear h
  have as1 := asM
  go_enter Try.func121, Try.ntmps121
  go_wp2_with fail
  have KA' := KA.out
  go_region_law (refine step_append_own rfl (.tmp 7) (.tmp 10) 75 rfl base 78 i1 (.agg #[.int .i64 0, .int .i64 0]) 2 16 Try.underlying75 hj hj0 hj1 hj2 rfl (by decide) (.slice (some ⟨g, 0, none⟩) ys.length cap) ys.length (mcells ys) rfl (HOP.out _ (by first | exact ((Below.refl _ _).alloc (Nat.le_refl _) _).drew | exact (Below.refl _ _).drew.alloc (Nat.le_refl _) _)) ⟨w.heap.size, 0, none⟩ 1 1 [.int .i64 x.1, .int .i64 x.2] rfl rfl (newm_cells _ _ _) (ml_one x) (by unfold maxLen; omega) (by omega) (by simp; omega) ?_
                 intro v5 w5 own5 grow5 nil5 at5
                 have G5 := Hk.out _ _ grow5
                 have KB5 := (G5.block P hP1 (by simpa using hne)).trans HBX.out
                 have KP5 := cell_of_one KB5
                 have FP5 := free_of_one KB5
                 have HB5 : Hid _ := KB5
                 obtain ⟨g5, c5, rfl⟩ := own_form own5 (by omega)
                 clear nil5 KB5)
  all_goals
    have D := push_done (o := .cells #[.int .i64 x.1, .int .i64 x.2] 78) hP1 hne hPb G5 HB5.out own5 at5
    clear own5 at5 grow5
    go_end0
    exact ⟨rfl, g5, c5, D⟩

end Go.Proofs.Ytbnocnadlleibaa
