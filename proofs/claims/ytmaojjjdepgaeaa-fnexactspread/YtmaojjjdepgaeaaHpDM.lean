/- Push of the program's heap of machines. -/
import Derived.Test.YtmaojjjdepgaeaaHpAM
import Derived.Deep.RegionLaw
namespace Go.Proofs.Ytmaojjjdepgaeaa
open Go.RowKit Go.Sort

theorem infoMa : (Try.prog.info? 105).map (fun i => (i.zero, i.size, i.bytes)) = some (some (.agg #[.int .i64 0, .int .i64 0]), 2, 16) := by kernel_rfl

theorem newm_cells (W : World) (x : (Int × Int)) (T : TypeId) : ∀ i u, (ml x)[i]? = some u → ((W.alloc (.cells #[.int .i64 x.1, .int .i64 x.2] T)).drew).cell? ((⟨W.heap.size, 0, none⟩ : Addr).add i) = some u := by
  intro i u hi
  have hadd : (⟨W.heap.size, 0, none⟩ : Addr).add i = ⟨W.heap.size, i, none⟩ := by unfold Addr.add; split <;> simp_all
  rw [hadd]
  show (W.alloc (.cells #[.int .i64 x.1, .int .i64 x.2] T)).cell? _ = _
  rw [Joins.cell_alloc_mark_at _ _ _ _ _ _ rfl]
  show (List.toArray (ml x))[i]? = _
  rw [List.getElem?_toArray]
  exact hi
theorem ml_one (x : (Int × Int)) : ∀ u ∈ ml x, u.oneCell' = true := by simp [ml, Value.oneCell']

theorem asM (v : Value) (w : World) : (Instr.typeAssert (.iface 105 v) 20 105 false).run Try.prog w = .ok v w := by kernel_rfl

theorem push_done {base P bo bn g5 c5 cap : Nat} {a : Option Addr} {ys : List (Int × Int)} {x : (Int × Int)} {w w5 : World} {o : Obj} {b : Option Nat} (h : HpW w base P bo bn a cap ys) (hab : b = (Value.slice a ys.length cap).ownBlock) (G5 : w.grownBy w5 b)
    (HB5 : w5.heap[P]? = some (.cells #[.func (.func 112) #[] #[.pointer (some ⟨bo, 0, none⟩), .pointer (some ⟨bn, 0, none⟩)], .slice a ys.length cap] 108 (0, 0)))
    (own5 : w5.ownsRow base 105 2 (.slice (some ⟨g5, 0, none⟩) (ys.length + 1) c5) (ys.length + 1) (mcells ys ++ [.int .i64 x.1, .int .i64 x.2]))
    (at5 : (Value.slice (some ⟨g5, 0, none⟩) (ys.length + 1) c5).ownBlock = (Value.slice a ys.length cap).ownBlock ∨ (Value.slice (some ⟨g5, 0, none⟩) (ys.length + 1) c5).ownBlock = some (w.alloc o).drew.heap.size) :
    HpW (w5.setCell ⟨P, 1, none⟩ (.slice (some ⟨g5, 0, none⟩) (ys.length + 1) c5)) base P bo bn (some ⟨g5, 0, none⟩) c5 (ys ++ [x]) ∧ Turn w (w5.setCell ⟨P, 1, none⟩ (.slice (some ⟨g5, 0, none⟩) (ys.length + 1) c5)) P a (some ⟨g5, 0, none⟩) := by
  have hb : ∀ g, a = some ⟨g, 0, none⟩ → b = some g := fun g e => by rw [hab, e]; rfl
  have hn : a = none → b = none := fun e => by rw [hab, e]; rfl
  have hP1 := h.ltP
  have hg : a = some ⟨g5, 0, none⟩ ∨ w.heap.size + 1 = g5 := by
    rcases at5 with e | e
    · left
      rcases h.form with e2 | ⟨g, e2⟩
      · rw [e2] at e; cases e
      · rw [e2] at e ⊢; have e : some g5 = some g := e; injection e with e; rw [e]
    · refine Or.inr ?_
      have : g5 = (w.alloc o).drew.heap.size := Option.some.inj e
      rw [this]; show _ = (w.alloc o).heap.size; simp
  have hP5 : P ≠ g5 := by
    rcases hg with e | e
    · exact h.ne g5 e
    · omega
  have hsz : (w5.setCell ⟨P, 1, none⟩ (.slice (some ⟨g5, 0, none⟩) (ys.length + 1) c5)).heap.size = w5.heap.size := by simp [World.setCell]
  have hk : ∀ k, k ≠ P → (w5.setCell ⟨P, 1, none⟩ (.slice (some ⟨g5, 0, none⟩) (ys.length + 1) c5)).heap[k]? = w5.heap[k]? := fun k hk => Below.heap_setCell _ _ _ _ hk
  have hblk : ∀ k, k < w.heap.size → k ≠ P → (∀ g, a = some ⟨g, 0, none⟩ → k ≠ g) → (w5.setCell ⟨P, 1, none⟩ (.slice (some ⟨g5, 0, none⟩) (ys.length + 1) c5)).heap[k]? = w.heap[k]? := fun k h0 h1 h2 => (hk k h1).trans (G5.block k h0 (by
    rcases h.form with e2 | ⟨g, e2⟩
    · rw [hn e2]; simp
    · rw [hb g e2]; simpa using h2 g e2))
  have hlow : ∀ k, k < base → (w5.setCell ⟨P, 1, none⟩ (.slice (some ⟨g5, 0, none⟩) (ys.length + 1) c5)).heap[k]? = w.heap[k]? := fun k h0 => hblk k (by have := h.ge; omega) (by have := h.ge; omega) (fun g e => by have := h.geg g e; omega)
  refine ⟨⟨?_, ?_, fun g e => ?_, h.ge, h.lo, (World.cell?_of_block (a := ⟨bo, 0, none⟩) (hlow bo h.lo.1)).trans h.o0, (World.cell?_of_block (a := ⟨bn, 0, none⟩) (hlow bn h.lo.2)).trans h.n0⟩, ⟨G5.os, G5.tape, G5.output, by rw [hsz]; exact G5.size, hblk, ?_⟩⟩
  · have := blk_set (j := 1) HB5 (.slice (some ⟨g5, 0, none⟩) (ys.length + 1) c5)
    rw [this]; simp
  · rw [List.length_append, mcells_app]
    refine ⟨own5.1, ?_⟩
    rcases own5.2 with ⟨e, _⟩ | ⟨g', c', cur, e, h1, h2, r⟩
    · cases e
    · have e' := e
      injection e with e1 _ e3
      injection e1 with e1
      injection e1 with e1 _ _
      subst e1 e3
      exact .inr ⟨g5, c5, cur, rfl, h1, (hk g5 (Ne.symm hP5)).trans h2, r⟩
  · injection e with e; injection e with e _ _; omega
  · rcases hg with e | e
    · exact Or.inl e.symm
    · exact Or.inr ⟨g5, rfl, by omega⟩

set_option maxRecDepth 8000 in
set_option maxHeartbeats 4000000 in
theorem pushG_any (base P bo bn g cap : Nat) (ys : List (Int × Int)) (x : (Int × Int)) (w : World) (h : HpW w base P bo bn (some ⟨g, 0, none⟩) cap ys) (hb : base ≤ w.heap.size) (hn : ys.length ≤ 1048576) :
    Calls Try.prog 155 #[.pointer (some ⟨P, 0, none⟩), .iface 105 (.agg #[.int .i64 x.1, .int .i64 x.2])] w fun e w' => e = .returned (.tuple #[]) ∧ ∃ g' cap', HpW w' base P bo bn (some ⟨g', 0, none⟩) cap' (ys ++ [x]) ∧ Turn w w' P (some ⟨g, 0, none⟩) (some ⟨g', 0, none⟩) := by
  obtain ⟨i1, hj, hj0, hj1, hj2⟩ := info_parts infoMa
  have hP1 := h.ltP
  have KP := h.p1
  have KA : Hid (∀ o, (w.alloc o).cell? ⟨P, 1, none⟩ = some (.slice (some ⟨g, 0, none⟩) ys.length cap)) := fun o => (World.cell?_alloc_lt _ _ _ (by simpa using hP1)).trans KP
  have HOP : Hid (∀ W, Below w.heap.size w W → W.ownsRow base 105 2 (.slice (some ⟨g, 0, none⟩) ys.length cap) ys.length (mcells ys)) := fun W hW => (h.below hW).own
  have HBX : Hid _ := h.box
  have HH : Hid _ := h
  have Hk : Hid (∀ (W5 : World) (o : Obj), ((w.alloc o).drew).grownBy W5 (Value.slice (some ⟨g, 0, none⟩) ys.length cap).ownBlock → w.grownBy W5 (some g)) := fun W5 o hg =>
    ⟨hg.os, hg.tape, hg.output, Nat.le_trans (by simp) hg.size, fun r hr hne => (hg.block r (by simp; omega) (by simpa [Value.ownBlock] using hne)).trans (Below.heap_alloc _ _ _ hr)⟩
  have HPb : Hid (some P ≠ (some g)) := by have := h.ne g rfl; unfold Hid; simpa using this
  clear h
  have as1 := asM
  go_enter Try.func155, Try.ntmps155
  go_wp2_with fail
  have KA' := KA.out
  go_region_law (refine step_append_own rfl (.tmp 8) (.tmp 11) 106 rfl base 105 i1 (.agg #[.int .i64 0, .int .i64 0]) 2 16 Try.underlying106 hj hj0 hj1 hj2 rfl (by decide) (.slice (some ⟨g, 0, none⟩) ys.length cap) ys.length (mcells ys) rfl (HOP.out _ (by first | exact ((Below.refl _ _).alloc (Nat.le_refl _) _).drew | exact (Below.refl _ _).drew.alloc (Nat.le_refl _) _)) ⟨w.heap.size, 0, none⟩ 1 1 [.int .i64 x.1, .int .i64 x.2] rfl rfl (newm_cells _ _ _) (ml_one x) (by unfold maxLen; omega) (by omega) (by simp; omega) ?_
                 intro v5 w5 own5 grow5 nil5 at5
                 have G5 := Hk.out _ _ grow5
                 have KB5 := (G5.block P hP1 HPb.out).trans HBX.out
                 have KP5 : w5.cell? ⟨P, 1, none⟩ = some (.slice (some ⟨g, 0, none⟩) ys.length cap) := by simp [World.cell?, KB5]
                 have FP5 : w5.frozen? ⟨P, 1, none⟩ = false := free_of_blk 1 KB5
                 have HB5 : Hid _ := KB5
                 obtain ⟨g5, c5, rfl⟩ := own_form own5 (by omega)
                 clear nil5 KB5)
  all_goals
    have D := push_done (o := .cells #[.int .i64 x.1, .int .i64 x.2] 105) HH.out rfl G5 HB5.out own5 at5
    clear own5 at5 grow5
    go_end0
    exact ⟨rfl, g5, c5, D⟩

set_option maxRecDepth 8000 in
set_option maxHeartbeats 4000000 in
theorem pushN_any (base P bo bn cap : Nat) (ys : List (Int × Int)) (x : (Int × Int)) (w : World) (h : HpW w base P bo bn none cap ys) (hb : base ≤ w.heap.size) (hn : ys.length ≤ 1048576) :
    Calls Try.prog 155 #[.pointer (some ⟨P, 0, none⟩), .iface 105 (.agg #[.int .i64 x.1, .int .i64 x.2])] w fun e w' => e = .returned (.tuple #[]) ∧ ∃ g' cap', HpW w' base P bo bn (some ⟨g', 0, none⟩) cap' (ys ++ [x]) ∧ Turn w w' P none (some ⟨g', 0, none⟩) := by
  obtain ⟨i1, hj, hj0, hj1, hj2⟩ := info_parts infoMa
  have hP1 := h.ltP
  have KP := h.p1
  have KA : Hid (∀ o, (w.alloc o).cell? ⟨P, 1, none⟩ = some (.slice none ys.length cap)) := fun o => (World.cell?_alloc_lt _ _ _ (by simpa using hP1)).trans KP
  have HOP : Hid (∀ W, Below w.heap.size w W → W.ownsRow base 105 2 (.slice none ys.length cap) ys.length (mcells ys)) := fun W hW => (h.below hW).own
  have HBX : Hid _ := h.box
  have HH : Hid _ := h
  have Hk : Hid (∀ (W5 : World) (o : Obj), ((w.alloc o).drew).grownBy W5 (Value.slice none ys.length cap).ownBlock → w.grownBy W5 none) := fun W5 o hg =>
    ⟨hg.os, hg.tape, hg.output, Nat.le_trans (by simp) hg.size, fun r hr hne => (hg.block r (by simp; omega) (by simp [Value.ownBlock])).trans (Below.heap_alloc _ _ _ hr)⟩
  have HPb : Hid (some P ≠ none) := by unfold Hid; simp
  clear h
  have as1 := asM
  go_enter Try.func155, Try.ntmps155
  go_wp2_with fail
  have KA' := KA.out
  go_region_law (refine step_append_own rfl (.tmp 8) (.tmp 11) 106 rfl base 105 i1 (.agg #[.int .i64 0, .int .i64 0]) 2 16 Try.underlying106 hj hj0 hj1 hj2 rfl (by decide) (.slice none ys.length cap) ys.length (mcells ys) rfl (HOP.out _ (by first | exact ((Below.refl _ _).alloc (Nat.le_refl _) _).drew | exact (Below.refl _ _).drew.alloc (Nat.le_refl _) _)) ⟨w.heap.size, 0, none⟩ 1 1 [.int .i64 x.1, .int .i64 x.2] rfl rfl (newm_cells _ _ _) (ml_one x) (by unfold maxLen; omega) (by omega) (by simp; omega) ?_
                 intro v5 w5 own5 grow5 nil5 at5
                 have G5 := Hk.out _ _ grow5
                 have KB5 := (G5.block P hP1 HPb.out).trans HBX.out
                 have KP5 : w5.cell? ⟨P, 1, none⟩ = some (.slice none ys.length cap) := by simp [World.cell?, KB5]
                 have FP5 : w5.frozen? ⟨P, 1, none⟩ = false := free_of_blk 1 KB5
                 have HB5 : Hid _ := KB5
                 obtain ⟨g5, c5, rfl⟩ := own_form own5 (by omega)
                 clear nil5 KB5)
  all_goals
    have D := push_done (o := .cells #[.int .i64 x.1, .int .i64 x.2] 105) HH.out rfl G5 HB5.out own5 at5
    clear own5 at5 grow5
    go_end0
    exact ⟨rfl, g5, c5, D⟩

theorem pushM_any (base P bo bn cap : Nat) (a : Option Addr) (ys : List (Int × Int)) (x : (Int × Int)) (w : World) (h : HpW w base P bo bn a cap ys) (hb : base ≤ w.heap.size) (hn : ys.length ≤ 1048576) :
    Calls Try.prog 155 #[.pointer (some ⟨P, 0, none⟩), .iface 105 (.agg #[.int .i64 x.1, .int .i64 x.2])] w fun e w' => e = .returned (.tuple #[]) ∧ ∃ g' cap', HpW w' base P bo bn (some ⟨g', 0, none⟩) cap' (ys ++ [x]) ∧ Turn w w' P a (some ⟨g', 0, none⟩) := by
  rcases h.form with e | ⟨g, e⟩
  · subst e; exact pushN_any base P bo bn cap ys x w h hb hn
  · subst e; exact pushG_any base P bo bn g cap ys x w h hb hn

end Go.Proofs.Ytmaojjjdepgaeaa
