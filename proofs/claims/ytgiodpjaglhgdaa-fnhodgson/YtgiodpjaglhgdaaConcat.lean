/- slices.Grow of nothing, slices.Concat of two. -/
import Derived.Test.YtgiodpjaglhgdaaTurnS2
import Derived.Deep.DeepAppendWide
namespace Go.Proofs.Ytgiodpjaglhgdaa
open Go.RowKit

/-- an append whose run is known, in the walk -/
theorem wpList_append_run {P : Program} {w : World} {ops : Array Oper} {rest : List Oper} {o : Oper} {a : Act} {Q : Exit → Act → World → Prop} (hgd : o.guard = none) (s x : Operand) (t u : TypeId)
    (ho : o.op = .call { callee := .builtin .append, args := #[s, x], argTypes := #[t, u] }) (v : Value) (w' : World) (hrun : (Builtin.append_ #[t, u] o.type #[a.eval s, a.eval x]).run P w = .ok v w')
    (h : wpList P ops Q rest (a.put o.dst v) w') : wpList P ops Q (o :: rest) a w := by
  refine wpList_plain hgd fun K' hK => ?_
  unfold Oper.wp
  simp [execOp, ho, resolve, invoke, builtin, hrun, Result.andThen]
  exact hK _ _ h

set_option maxRecDepth 8000 in
theorem run_append_make (w : World) (n : Nat) (h0 : 0 < n) (h1 : n ≤ 1000) :
    ∃ v w', (Builtin.append_ #[38, 3] 38 #[.slice none 0 0, .int .i64 (n : Int)]).run Try.prog w = .ok v w' ∧ (∃ cap, v = .slice (some ⟨w.heap.size, 0, none⟩) n cap ∧ w'.ownsRow w.heap.size 2 1 (.slice (some ⟨w.heap.size, 0, none⟩) 0 cap) 0 [] ∧ n ≤ cap ∧ cap ≤ maxLen) ∧ Below w.heap.size w w' := by
  obtain ⟨i1, hi1, hi2, hi3, hi4⟩ := info_parts infoI
  have hn : n ≠ 0 := by omega
  have hw : IntKind.i64.wrap (n : Int) = (n : Int) := by rw [IntKind.wrap_i64]; omega
  have a1 : ¬ ((n : Int) < 0) := by omega
  have a3 : ¬ ((n : Int) ≤ 0) := by omega
  have a2 : ¬ (281474976710656 < (n : Int) * 8) := by omega
  have h63' : ¬ (9223372036854775807 < (n : Int)) := by omega
  have h48' : ¬ (281474976710656 < Builtin.nextslicecap n 0 * 8) := by rw [nextslicecap_zero h0]; omega
  have hge := grownCap_ge w n 0 2
  have hcm : grownCap w n 0 2 ≤ maxLen := grownCap_le_maxLen w n 0 2 (by unfold maxLen; omega)
  refine ⟨.slice (some ⟨w.heap.size, 0, none⟩) n (grownCap w n 0 2), w.drew.alloc (.cells (Builtin.zeroCells #[.int .i64 0] n ++ Builtin.zeroCells #[.int .i64 0] (grownCap w n 0 2 - n)) 2), ?_, ⟨_, rfl, World.ownsRow_made (w := w.drew) _ _ (Nat.le_refl _) hcm ?_, hge, hcm⟩, (Below.refl _ _).drew.alloc (Nat.le_refl _) _⟩
  · simp [Builtin.append_, run_underlying Try.underlying38, run_underlying Try.underlying3, sizeOf, typeInfo, zeroValue, hi1, hi2, hi3, hi4, asInt, asIntOf, hw, a1, a2, hn, h63', h48', Question.forced, run_firstCells_none, newRow, grownCap, Value.cells]
  · simp only [Array.size_append, size_zeroCells]
    simp
    omega

set_option maxRecDepth 8000 in
set_option maxHeartbeats 2000000 in
theorem grow_any (n : Nat) (h1 : n ≤ 1000) (z : Int) (hz : z = (n : Int)) (w : World) :
    Calls Try.prog 122 #[.slice none 0 0, .int .i64 z] w fun e w' => ∃ v, e = .returned v ∧ w'.ownsRow w.heap.size 2 1 v 0 [] ∧ Below w.heap.size w w' := by
  subst hz
  by_cases h0 : 0 < n
  · obtain ⟨v, w1, hrun, ⟨cap, rfl, own, hge, hcm⟩, hb⟩ := run_append_make w n h0 h1
    have a0 : (0 : Int) < (n : Int) := by omega
    have ac : (0 : Int) ≤ (cap : Int) := by omega
    go_enter Try.func122, Try.ntmps122
    go_wp2_with (at_builtin; refine wpList_append_run rfl (.tmp 20) (.tmp 21) 38 3 rfl _ _ hrun ?_)
    go_ret
    exact ⟨_, rfl, own, hb⟩
  · obtain rfl : n = 0 := by omega
    go_enter Try.func122, Try.ntmps122
    go_wp2
    go_ret
    exact ⟨_, rfl, World.ownsRow_nil _ _ _ _, Below.refl _ _⟩

set_option maxRecDepth 8000 in
set_option maxHeartbeats 4000000 in
theorem concat_any (R : Nat) (a1 a2 : Addr) (c1 c2 : Nat) (l1 l2 : List Int) (w : World) (h1 : w.cell? ⟨R, 0, none⟩ = some (.slice (some a1) l1.length c1)) (h2 : w.cell? ⟨R, 1, none⟩ = some (.slice (some a2) l2.length c2)) (hR : R < w.heap.size)
    (k1 : ∀ W, Below w.heap.size w W → ∀ j u, (ints l1)[j]? = some u → W.cell? (a1.add j) = some u) (k2 : ∀ W, Below w.heap.size w W → ∀ j u, (ints l2)[j]? = some u → W.cell? (a2.add j) = some u)
    (n1 : l1.length ≤ 100) (n2 : l2.length ≤ 100) :
    Calls Try.prog 115 #[.slice (some ⟨R, 0, none⟩) 2 2] w fun e w' => ∃ x : Rw, e = .returned x.val ∧ x.l = l1 ++ l2 ∧ RowOk w' w.heap.size x ∧ Below w.heap.size w w' := by
  obtain ⟨i1, hi1, hi2, hi3, hi4⟩ := info_parts infoI
  have HK1 : Hid _ := k1
  have HK2 : Hid _ := k2
  obtain ⟨m1, hm1⟩ : ∃ m1, m1 = l1.length := ⟨_, rfl⟩
  obtain ⟨m2, hm2⟩ : ∃ m2, m2 = l2.length := ⟨_, rfl⟩
  rw [← hm1] at h1 n1
  rw [← hm2] at h2 n2
  have HM : Hid (m1 = l1.length ∧ m2 = l2.length) := ⟨hm1, hm2⟩
  clear hm1 hm2 k1 k2
  have d1 : decide ((m1 : Int) < 0) = false := decide_eq_false (by omega)
  have d2 : decide ((m1 : Int) + (m2 : Int) < 0) = false := decide_eq_false (by omega)
  go_enter Try.func115, Try.ntmps115
  go_wp2
  refine wp_loop_rounds 3 ?_
  rw [rounds_succ]
  go_wp2
  rw [rounds_succ]
  go_wp2
  rw [rounds_succ]
  go_wp2_with fail
  refine (grow_any (m1 + m2) (by omega) _ (by omega) _).mono ?_
  rintro e w1 ⟨v, rfl, own1, hb1⟩
  have hr0 : w1.cell? ⟨R, 0, none⟩ = some (.slice (some a1) m1 c1) := (hb1.cell (p := ⟨R, 0, none⟩) hR).trans h1
  have j1 : (ints l1).length = m1 * 1 := by rw [ints_len, HM.out.1]; omega
  have j2 : (ints l2).length = m2 * 1 := by rw [ints_len, HM.out.2]; omega
  have K1 := HK1.out w1 hb1
  have z1 := hb1.size
  clear h1 d1 d2
  go_wp2
  refine wp_loop_rounds 3 ?_
  rw [rounds_succ]
  go_wp2_with (at_builtin; refine wpList_append_own_at _ rfl (.tmp 31) (.tmp 32) 38 rfl w.heap.size 2 i1 (.int .i64 0) 1 8 Try.underlying38 hi1 hi2 hi3 hi4 rfl (by decide) _ _ _ rfl own1 a1 m1 c1 (ints l1) rfl j1 K1 (ints_one _) (by unfold maxLen; omega) (by omega) (by omega) ?_)
  intro v2 w2 own2 grow2 nil2 at2
  have own2' := World.ownsRow.lt own1
  have hb2 : Below w.heap.size w w2 := hb1.grown grow2 (by omega) (fun r e => (own2' r e).1)
  have hr1 : w2.cell? ⟨R, 1, none⟩ = some (.slice (some a2) m2 c2) := (hb2.cell (p := ⟨R, 1, none⟩) hR).trans h2
  have K2 := HK2.out w2 hb2
  have z2 := hb2.size
  clear hr0 K1 own1 grow2 nil2 at2 own2' h2 hb1
  go_wp2
  rw [rounds_succ]
  go_wp2_with (at_builtin; refine wpList_append_own_at _ rfl (.tmp 31) (.tmp 32) 38 rfl w.heap.size 2 i1 (.int .i64 0) 1 8 Try.underlying38 hi1 hi2 hi3 hi4 rfl (by decide) _ _ _ rfl own2 a2 m2 c2 (ints l2) rfl j2 K2 (ints_one _) (by unfold maxLen; omega) (by omega) (by omega) ?_)
  intro v3 w3 own3 grow3 nil3 at3
  have own2' := World.ownsRow.lt own2
  have hb3 : Below w.heap.size w w3 := hb2.grown grow3 (by omega) (fun r e => (own2' r e).1)
  obtain ⟨x, hx0, hxl, hxo, hxb⟩ := rowOk_of (l := l1 ++ l2) own3 (by have := HM.out; simp; omega) (by rw [ints_app])
  have HX : Hid _ := hxl
  clear hr1 K2 own2 own3 grow3 nil3 at3 own2' hb2 hxb hxl
  subst hx0
  go_wp2
  rw [rounds_succ]
  go_wp2
  go_ret
  exact ⟨x, rfl, HX.out, hxo, hb3⟩

theorem concat2_any (R m1 m2 : Nat) (a1 a2 : Addr) (c1 c2 : Nat) (l1 l2 : List Int) (e1 : l1.length = m1) (e2 : l2.length = m2) (w : World) (h1 : w.cell? ⟨R, 0, none⟩ = some (.slice (some a1) m1 c1)) (h2 : w.cell? ⟨R, 1, none⟩ = some (.slice (some a2) m2 c2)) (hR : R < w.heap.size)
    (k1 : ∀ W, Below w.heap.size w W → ∀ j u, (ints l1)[j]? = some u → W.cell? (a1.add j) = some u) (k2 : ∀ W, Below w.heap.size w W → ∀ j u, (ints l2)[j]? = some u → W.cell? (a2.add j) = some u)
    (n1 : m1 ≤ 100) (n2 : m2 ≤ 100) :
    Calls Try.prog 115 #[.slice (some ⟨R, 0, none⟩) 2 2] w fun e w' => ∃ x : Rw, e = .returned x.val ∧ x.l = l1 ++ l2 ∧ RowOk w' w.heap.size x ∧ Below w.heap.size w w' := by
  subst e1 e2
  exact concat_any R a1 a2 c1 c2 l1 l2 w h1 h2 hR k1 k2 n1 n2

end Go.Proofs.Ytgiodpjaglhgdaa
