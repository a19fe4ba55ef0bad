/- A call's own State, marked and held. -/
import Derived.Test.YtdgfkcobhhlfbaaGreatStateIn
import Derived.Test.YtdgfkcobhhlfbaaGreatEntHd
namespace Go.Proofs.YtdgfkcobhhlfbaaGreat
open Go.RowKit Go.Sort

/-- of what was there blocks from lo up to hi alone have turned -/
structure Out (lo hi : Nat) (w w' : World) : Prop where
  os : w'.os = w.os
  tape : w'.tape = w.tape
  output : w'.output = w.output
  size : w.heap.size ≤ w'.heap.size
  block : ∀ k, k < w.heap.size → (k < lo ∨ hi ≤ k) → w'.heap[k]? = w.heap[k]?
theorem Out.below {lo hi L : Nat} {a b : World} (h : Out lo hi a b) (hL : L ≤ lo) (hs : L ≤ a.heap.size) : Below L a b := ⟨h.os, h.tape, h.output, h.size, fun k hk => h.block k (by omega) (by omega)⟩
/-- the state's rows are marked, k0 on -/
structure StHeld (w : World) (base hi : Nat) (s : St) (Bn Be : Nat) (H : Nat → Option Nat × Nat) (k0 : Int) : Prop where
  nd : NodeB w Bn s.nodes.length s.nodes.length (ndmarks k0 s.nodes.length)
  en : EntO w base hi Be s.ents.length s.ents.length (mkE s.ents (k0 + 2 * (s.nodes.length : Int)) s.ents.length) H
/-- the last mark -/
def mkSt (s : St) (k0 : Int) : Int := mkTo s.ents (k0 + 2 * (s.nodes.length : Int)) s.ents.length
theorem EntO.keep2 {w w' : World} {base hi B cap k q : Nat} {ls : List En} {H : Nat → Option Nat × Nat} (h : EntO w base hi B cap k ls H) (hB : B ≠ q) (hH : ∀ i, i < k → (H i).1 ≠ some q) (hb : ∀ r, base ≤ r → r < hi → r ≠ q → w'.heap[r]? = w.heap[r]?) : EntO w' base hi B cap k ls H := by
  obtain ⟨cur, h1, h2⟩ := h.blk
  refine ⟨h.lo, h.up, ⟨cur, (hb B h.lo h.up hB).trans h1, h2⟩, fun i hi9 => ?_, h.apart⟩
  refine (h.kid i hi9).imp id ?_
  rintro ⟨g, a, b, c, d, e1, f, f2⟩
  exact ⟨g, a, b, c, d, e1.blk (hb g b c (fun e => hH i hi9 (by rw [a, e]))), f, f2⟩

set_option maxHeartbeats 2000000 in
theorem markState_any (base hi : Nat) (s : St) (Bn Be : Nat) (H : Nat → Option Nat × Nat) (k0 : Int) (w : World) (h : StO w base hi s Bn s.nodes.length Be s.ents.length H) (hs : stSmall s) (hh : hi ≤ w.heap.size) (h0 : 0 ≤ k0) (h1 : k0 ≤ 1048576) :
    Calls Tryz.prog 10 #[stV s (some ⟨Bn, 0, none⟩) s.nodes.length (some ⟨Be, 0, none⟩) s.ents.length, .int .i64 k0] w fun e w' => e = .returned (.int .i64 (mkSt s k0)) ∧ StHeld w' base hi s Bn Be H k0 ∧ Out base hi w w' := by
  obtain ⟨hs1, hs2, hs3⟩ := hs
  unfold stV
  obtain ⟨W0, hW0⟩ : ∃ W0, W0 = w.alloc (.cells #[.int .i64 s.now, .slice (some ⟨Bn, 0, none⟩) s.nodes.length s.nodes.length, .slice (some ⟨Be, 0, none⟩) s.ents.length s.ents.length, .int .i64 s.next, .int .i64 s.eps] 32) := ⟨_, rfl⟩
  have B0 : Below w.heap.size w W0 := by rw [hW0]; exact box_below0
  have x0 : W0.heap[w.heap.size]? = some (.cells #[.int .i64 s.now, .slice (some ⟨Bn, 0, none⟩) s.nodes.length s.nodes.length, .slice (some ⟨Be, 0, none⟩) s.ents.length s.ents.length, .int .i64 s.next, .int .i64 s.eps] 32 (0, 0)) := by rw [hW0]; exact heap_alloc_new _ _
  have hn1 := h.n1
  have hn0 := h.n0
  have hne := h.ne
  have hna := h.na
  have nd0 : NodeB W0 Bn s.nodes.length s.nodes.length s.nodes := h.nd.blk (B0.block Bn (by omega))
  have en0 : EntO W0 base hi Be s.ents.length s.ents.length s.ents H := h.en.keep fun r _ h9 => B0.block r (by omega)
  have CN := markNodeS_any Bn s.nodes.length k0 s.nodes W0 nd0 hs1 h0 (by omega)
  have HF : Hid (∀ w1, NodeB w1 Bn s.nodes.length s.nodes.length (ndmarks k0 s.nodes.length) → Only Bn W0 w1 → Calls Tryz.prog 27 #[.slice (some ⟨Be, 0, none⟩) s.ents.length s.ents.length, .int .i64 (k0 + 2 * (s.nodes.length : Int))] w1 fun e w' => e = .returned (.int .i64 (mkSt s k0)) ∧ StHeld w' base hi s Bn Be H k0 ∧ Out base hi w w') := fun w1 n1 o1 => by
    have en1 : EntO w1 base hi Be s.ents.length s.ents.length s.ents H := en0.keep2 (q := Bn) (fun e => hne e.symm) hna (fun r _ _ h9 => o1.block r h9)
    refine (markEntryS_any base hi Be s.ents.length (k0 + 2 * (s.nodes.length : Int)) s.ents H w1 en1 rfl hs2 hs3 (by omega) (by omega)).mono ?_
    rintro e w' ⟨rfl, e1, m1, k1⟩
    refine ⟨rfl, ⟨n1.blk (k1 Bn hne hna), e1⟩, ⟨m1.os.trans (o1.os.trans B0.os), m1.tape.trans (o1.tape.trans B0.tape), m1.output.trans (o1.output.trans B0.output), by rw [m1.size, o1.size]; exact B0.size, fun r h8 h9 => ?_⟩⟩
    exact (m1.block r h9).trans ((o1.block r (by omega)).trans (B0.block r h8))
  obtain ⟨c0, c1, c2, c3, c4, _, _, _, _, _⟩ := box5 x0
  have HX : Hid (∀ w1, Only Bn W0 w1 → w1.cell? ⟨w.heap.size, 2, none⟩ = some (.slice (some ⟨Be, 0, none⟩) s.ents.length s.ents.length)) := fun w1 o1 => by rw [o1.cell (p := ⟨w.heap.size, 2, none⟩) (by show w.heap.size ≠ Bn; omega)]; exact c2
  clear h nd0 en0 x0
  go_enter Tryz.func10, Tryz.ntmps10
  go_upto_region 1 with fail
  rw [← hW0]
  clear hW0
  go_wp2_with (first
    | (go_at_call 26; refine CN.mono ?_; rintro e w1 ⟨rfl, n1, o1⟩; have c2' := HX.out w1 o1; have CM := HF.out w1 n1 o1; clear n1 o1)
    | (go_at_call 27; refine CM.mono ?_; rintro e w2 ⟨rfl, s2, o2⟩))
  go_ret
  exact ⟨rfl, s2, o2⟩

end Go.Proofs.YtdgfkcobhhlfbaaGreat
