/- A range over a function where it is named which blocks are the caller's: the iterator turns none of them, the rounds turn none of the others. -/
import Derived.Test.YtgiodpjaglhgdaaTurnMath
import Derived.RangeFuncRecord
import Derived.RangeFuncCalls
import Derived.RangeFuncBound
namespace Go.Proofs.Ytgiodpjaglhgdaa
open Go Go.RowKit

/-- of the blocks of s none has turned -/
structure Rest (s : Nat → Prop) (w w' : World) : Prop where
  os : w'.os = w.os
  tape : w'.tape = w.tape
  output : w'.output = w.output
  size : w.heap.size ≤ w'.heap.size
  block : ∀ k, s k → w'.heap[k]? = w.heap[k]?

theorem Rest.refl (s : Nat → Prop) (w : World) : Rest s w w := ⟨rfl, rfl, rfl, Nat.le_refl _, fun _ _ => rfl⟩
theorem Rest.trans {s : Nat → Prop} {a b c : World} (h : Rest s a b) (k : Rest s b c) : Rest s a c :=
  ⟨k.os.trans h.os, k.tape.trans h.tape, k.output.trans h.output, Nat.le_trans h.size k.size, fun i hi => (k.block i hi).trans (h.block i hi)⟩
theorem Rest.sub {s t : Nat → Prop} {a b : World} (h : Rest s a b) (hs : ∀ k, t k → s k) : Rest t a b := ⟨h.os, h.tape, h.output, h.size, fun k hk => h.block k (hs k hk)⟩
theorem Rest.of {B : Nat} {s : Nat → Prop} {a b : World} (h : Below B a b) (hs : ∀ k, s k → k < B) : Rest s a b := ⟨h.os, h.tape, h.output, h.size, fun k hk => h.block k (hs k hk)⟩
theorem Rest.below {B : Nat} {s : Nat → Prop} {a b : World} (h : Rest s a b) (hs : ∀ k, k < B → s k) : Below B a b := ⟨h.os, h.tape, h.output, h.size, fun k hk => h.block k (hs k hk)⟩
theorem Rest.putObj {s : Nat → Prop} (w : World) {l : Nat} (o : Obj) (h : ¬ s l) : Rest s w (w.putObj l o) :=
  ⟨rfl, rfl, rfl, by simp, fun k hk => World.putObj_heap_other (fun e => h (e ▸ hk))⟩
theorem Rest.alloc {s : Nat → Prop} {a w : World} (h : Rest s a w) (hs : ∀ k, s k → k < w.heap.size) (o : Obj) : Rest s a (w.alloc o) :=
  h.trans (Rest.of ((Below.refl _ w).alloc (Nat.le_refl _) o) hs)

variable {F : Fence} {n : Nat} {P : Program}

/-- what a round leaves: k more have come; what the caller owns now is what it owned, or is new, or is the row that came; nothing else has turned -/
def After (J : Nat → (Nat → Prop) → World → Prop) (ro : Nat → Prop) (k : Nat) (s : Nat → Prop) (x : Rw) (W W' : World) : Prop :=
  ∃ s' : Nat → Prop, J (k + 1) s' W' ∧ (∀ b, s' b → s b ∨ W.heap.size ≤ b ∨ x.o = some b) ∧ (∀ b, s' b → b < W'.heap.size) ∧ Rest (fun b => b < W.heap.size ∧ ¬ s b ∧ x.o ≠ some b) W W' ∧ Rest ro W W'
/-- what a round may lean on -/
structure Come (L : List (List Int)) (k : Nat) (s : Nat → Prop) (x : Rw) (W : World) : Prop where
  lt : k < L.length
  eq : x.l = L[k]?.getD []
  ok : RowOk W 0 x
  no : ∀ g, x.o = some g → ¬ s g
  bd : ∀ b, s b → b < W.heap.size

/-- an iterator over the rows L; it reads the blocks ro -/
def GivesR (F : Fence) (n : Nat) (P : Program) (g : Nat) (lb : Array Value) (L : List (List Int)) (ro : Nat → Prop) (w : World) : Prop :=
  ∀ (l : Nat) (J : Nat → (Nat → Prop) → World → Prop) (W : World), Rest ro w W → (∀ b, ro b → b < W.heap.size) → (∀ k s W1 W2, J k s W1 → Rest s W1 W2 → J k s W2) →
    (∀ k s x W1, J k s W1 → Come L k s x W1 → YieldAt F (n - 1) P l #[x.val] W1 fun e W2 => e = .returned (.bool true) ∧ After J ro k s x W1 W2) →
    J 0 (fun b => b < W.heap.size) W →
    CallsIn F n P g (#[.func (.yield l) #[] #[]] ++ lb) W fun e W' => (∃ v, e = .returned v) ∧ ∃ s', J L.length s' W' ∧ ∀ b, s' b → b < W'.heap.size

/-- the statement, outside of all rounds -/
theorem range_own {g : Operand} {ps : Array Tmp} {assign body : Code} {Q : Exit → Act → World → Prop} {a : Act} {w : World}
    (hro : F.round = none) (h1 : F.depth.isSome = true → 1 ≤ n) {gf : Nat} {lb : Array Value} (hg : a.eval g = .func (.func gf) #[] lb) (hFg : F.fn gf) (eg : ∀ args w, (callFunc gf args).run P w = .ok (.enter gf args) w)
    {L : List (List Int)} {ro : Nat → Prop} {w0 : World} (hseq : GivesR F (n - 1) P gf lb L ro w0) (hb0 : Rest ro w0 w) (hrl : ∀ b, ro b → b < w.heap.size) (hps : ps.size = 1)
    (I : Nat → (Nat → Prop) → World → Prop) (hI : ∀ k s W1 W2, I k s W1 → Rest s W1 W2 → I k s W2) (h0 : I 0 (fun b => b < w.heap.size) w) (a₁ : Rw → Act)
    (hassign : ∀ (l : Nat) (x : Rw) (W : World) (K : Act → World → Prop), K (a₁ x) W →
      assign.wpIn (F.inRound l) (n - 1 - 1) P (Exit.then K (fun _ _ _ => False)) { tmps := (ps.zip #[x.val]).foldl (fun t (p, v) => t.setIfInBounds p v) a.tmps, defers := [] } W)
    (hbody : ∀ (l k : Nat) (s : Nat → Prop) (x : Rw) (W : World), w.heap.size ≤ l → (∃ r, W.heap[l]? = some (.loop r)) → ¬ s l → I k s W → Come L k s x W →
      body.wpIn (F.inRound l) (n - 1 - 1) P (fun e _ W' => e = .normal ∧ After I ro k s x W W') (a₁ x) W)
    (hdone : ∀ (D : Nat) (s : Nat → Prop) (W : World), w.heap.size ≤ D → I L.length s W → ¬ s D → (∀ b, s b → b < W.heap.size) → W.heap[D]? = some (.deferred (some [])) →
      Q .normal { a with defers := { target := .collected D, args := #[] } :: a.defers } W) :
    (Code.rangeFunc g ps assign body).wpIn F n P Q a w := by
  refine wpIn_rangeFunc ?_
  intro fn hfn
  rw [hro]
  obtain ⟨D, hD⟩ : ∃ D, D = w.heap.size := ⟨_, rfl⟩
  obtain ⟨l, hl⟩ : ∃ l, l = w.heap.size + 1 := ⟨_, rfl⟩
  obtain ⟨rec, hrec⟩ : ∃ rec : LoopState → Option Code → Loop, rec = fun st pe => { state := st, pending := pe, fn, tmps := a.tmps, params := ps, assign, body, defers := D } := ⟨_, rfl⟩
  obtain ⟨W1, hW1⟩ : ∃ W1, W1 = (w.alloc (.deferred (some []))).alloc (.loop (rec .ready none)) := ⟨_, rfl⟩
  have z1 : W1.heap.size = w.heap.size + 2 := by rw [hW1]; simp
  have bl1 : W1.heap[l]? = some (.loop (rec .ready none)) := by
    rw [hW1, hl]
    have := World.alloc_heap_new (w.alloc (.deferred (some []))) (.loop (rec .ready none))
    rwa [World.size_alloc] at this
  have bD1 : W1.heap[D]? = some (.deferred (some [])) := by
    rw [hW1, hD]
    exact (Below.heap_alloc _ _ _ (by simp)).trans (World.alloc_heap_new w _)
  have B1 : Below w.heap.size w W1 := by rw [hW1]; exact ((Below.refl _ w).alloc (Nat.le_refl _) _).alloc (by simp) _
  refine ⟨l, [{ target := .collected D, args := #[] }], W1, { target := .fn (.func gf) lb, args := #[.func (.yield l) #[] #[]] }, W1, gf, #[.func (.yield l) #[] #[]] ++ lb, W1, ?_, ?_, ?_, ?_, h1, ?_⟩
  · rw [hW1, hrec, hD, hl]; exact run_enterLoop_outer _ _ _ _ _
  · simp only [resolve, hg]
    simp [go_sem]
  · intro f' hf'; simp [Target.leads] at hf'; subst hf'; exact hFg
  · simp [invoke, go_sem, eg]
  · have hne : l ≠ D := by omega
    refine (hseq l (fun k s W => ∃ s0 : Nat → Prop, I k s0 W ∧ (∀ b, s b ↔ s0 b ∨ b = l ∨ b = D) ∧ ¬ s0 l ∧ ¬ s0 D ∧ W.heap[l]? = some (.loop (rec .ready none)) ∧ W.heap[D]? = some (.deferred (some [])))
      W1 (hb0.trans (Rest.of B1 hrl)) (fun b hb => by have := hrl b hb; omega) ?_ ?_ ?_).mono ?_
    · rintro k s V1 V2 ⟨s0, i0, hs, n1, n2, r1, r2⟩ hR
      exact ⟨s0, hI k s0 V1 V2 i0 (hR.sub fun b hb => (hs b).2 (Or.inl hb)), hs, n1, n2, (hR.block l ((hs l).2 (Or.inr (Or.inl rfl)))).trans r1, (hR.block D ((hs D).2 (Or.inr (Or.inr rfl)))).trans r2⟩
    · -- one round
      rintro k s x W ⟨s0, i0, hs, n1, n2, r1, r2⟩ hc
      have lW := lt_of_block r1
      have hy := run_yield (P := P) (args := #[x.val]) r1 (by rw [hrec]; simp [hps])
      rw [hrec] at hy
      refine ⟨fn, _, assign, body, hy, roundIn_of_wpIn hfn (hassign l x W _ ?_)⟩
      refine ⟨_, run_beginRound r1 (by rw [hrec]), ?_⟩
      obtain ⟨V, hV⟩ : ∃ V, V = W.putObj l (.loop { rec .ready none with state := .busy }) := ⟨_, rfl⟩
      have e1 : V.heap[l]? = some (.loop { rec .ready none with state := .busy }) := by rw [hV]; exact World.putObj_heap_same lW
      have RV : ∀ t : Nat → Prop, ¬ t l → Rest t W V := fun t ht => by rw [hV]; exact Rest.putObj W _ ht
      have zV : V.heap.size = W.heap.size := by rw [hV]; simp
      rw [← hV]
      have xl : x.o ≠ some l := fun e => hc.no l e ((hs l).2 (Or.inr (Or.inl rfl)))
      have xD : x.o ≠ some D := fun e => hc.no D e ((hs D).2 (Or.inr (Or.inr rfl)))
      have hcV : Come L k s0 x V := ⟨hc.lt, hc.eq, hc.ok.keep (fun g hg => (RV (fun b => b ≠ l) (by simp)).block g (fun e => xl (by rw [← e]; exact hg))), fun g hg h => hc.no g hg ((hs g).2 (Or.inl h)), fun b hb => by have := hc.bd b ((hs b).2 (Or.inl hb)); omega⟩
      refine wpIn_mono (hbody l k s0 x V (by omega) ⟨_, e1⟩ n1 (hI k s0 W V i0 (RV s0 n1)) hcV) ?_
      rintro e a3 W3 ⟨rfl, s', i3, h3, b3, R3, Q3⟩
      have g3 : W3.heap[l]? = some (.loop { rec .ready none with state := .busy }) := (R3.block l ⟨by omega, n1, xl⟩).trans e1
      have hr := run_endRound (P := P) none g3
      have d3 : W3.heap[D]? = some (.deferred (some [])) := (R3.block D ⟨by have := lt_of_block r2; omega, n2, xD⟩).trans ((RV (fun b => b = D) (by omega)).block D rfl |>.trans r2)
      have lW3 := lt_of_block g3
      have nl : ¬ s' l := fun h => by
        rcases h3 l h with h | h | h
        · exact n1 h
        · omega
        · exact xl h
      have nD : ¬ s' D := fun h => by
        rcases h3 D h with h | h | h
        · exact n2 h
        · have := lt_of_block r2; omega
        · exact xD h
      obtain ⟨V4, hV4⟩ : ∃ V4, V4 = W3.putObj l (.loop (rec .ready none)) := ⟨_, rfl⟩
      have R4 : ∀ t : Nat → Prop, ¬ t l → Rest t W3 V4 := fun t ht => by rw [hV4]; exact Rest.putObj W3 _ ht
      have z4 : V4.heap.size = W3.heap.size := by rw [hV4]; simp
      have e4 : (Instr.endRound l none).run P W3 = .ok (.bool true) V4 := by
        rw [hr, hV4, hrec]; rfl
      refine ⟨_, V4, e4, rfl, fun b => s' b ∨ b = l ∨ b = D, ⟨s', hI _ _ _ _ i3 (R4 s' nl), fun b => Iff.rfl, nl, nD, by rw [hV4]; exact World.putObj_heap_same lW3, ((R4 (fun b => b = D) (by omega)).block D rfl).trans d3⟩, ?_, ?_, ?_, ?_⟩
      · rintro b (h | h | h)
        · rcases h3 b h with h | h | h
          · exact Or.inl ((hs b).2 (Or.inl h))
          · exact Or.inr (Or.inl (by omega))
          · exact Or.inr (Or.inr h)
        · exact Or.inl ((hs b).2 (Or.inr (Or.inl h)))
        · exact Or.inl ((hs b).2 (Or.inr (Or.inr h)))
      · rintro b (h | h | h)
        · have := b3 b h; omega
        · omega
        · have := lt_of_block d3; omega
      · have tl : ¬ (l < W.heap.size ∧ ¬ s l ∧ x.o ≠ some l) := fun h => h.2.1 ((hs l).2 (Or.inr (Or.inl rfl)))
        refine ((RV _ tl).trans (R3.sub ?_)).trans (R4 _ tl)
        exact fun b hb => ⟨by omega, fun h => hb.2.1 ((hs b).2 (Or.inl h)), hb.2.2⟩
      · have rl : ¬ ro l := fun h => by have := hrl l h; omega
        exact ((RV _ rl).trans Q3).trans (R4 _ rl)
    · exact ⟨fun b => b < w.heap.size, hI _ _ _ _ h0 (Rest.of B1 fun k hk => hk), fun b => by omega, by omega, by omega, bl1, bD1⟩
    · rintro e W2 ⟨⟨v, rfl⟩, s, ⟨s0, i0, hs, n1, n2, r1, r2⟩, hbd⟩
      have hr := run_endLoop (P := P) r1 (by rw [hrec]; simp)
      refine ⟨none, W2.putObj l (.loop { rec .ready none with state := .exhausted }), by rw [hr, hrec], ?_⟩
      refine hdone D s0 _ (by omega) (hI _ _ _ _ i0 (Rest.putObj W2 _ n1)) n2 (fun b hb => by have := hbd b ((hs b).2 (Or.inl hb)); simpa using this) ?_
      exact (World.putObj_heap_other (Ne.symm hne)).trans r2

end Go.Proofs.Ytgiodpjaglhgdaa
