/- All orders, of the program: an iterator that ranges over itself. -/
import Derived.Test.YtgiodpjaglhgdaaRangeO
import Derived.Test.YtgiodpjaglhgdaaConcat
import Derived.RangeFuncLeaves
import Derived.Shelf.Abstract
import Derived.Shelf.RegionOpen
import Derived.WalkKit
import Derived.OwnWalkIn
import Derived.TacticsInMore
import Derived.LoopNIn
import Derived.LoopIn
namespace Go.Proofs.Ytgiodpjaglhgdaa
open Go Go.RowKit Go.Shelf
attribute [local go_sem] Oper.semAt_some

theorem round_any {P : Program} {n m l : Nat} {f : FuncId} {tmps : Array Value} {assign body : Code} {w : World} {R : Ending → World → Prop} (h : RoundIn Fence.wide n P l f tmps assign body w R) : RoundIn Fence.wide m P l f tmps assign body w R :=
  ⟨h.1, fun c cs _ => h.2 c cs (fun d hd => by cases hd)⟩
theorem yield_any {P : Program} {n m l : Nat} {args : Array Value} {w : World} {R : Ending → World → Prop} (h : YieldAt Fence.wide n P l args w R) : YieldAt Fence.wide m P l args w R := by
  obtain ⟨fn, tmps, assign, body, hy, hR⟩ := h
  exact ⟨fn, tmps, assign, body, hy, round_any hR⟩

/-- it ends as it should, in no other way -/
def Calm (Q : Exit → Act → World → Prop) : Exit → Act → World → Prop
  | .normal, a, w => Q .normal a w
  | _, _, _ => False
theorem calm {F : Fence} {n : Nat} {P : Program} {c : Code} {Q : Exit → Act → World → Prop} {a : Act} {w : World} (h : c.wpIn F n P (Calm Q) a w) : c.wpIn F n P Q a w :=
  wpIn_mono h (fun e a w hq => by cases e <;> first | exact hq | exact hq.elim)

theorem orders_any (y : Rw) (w : World) :
    Calls Try.prog 93 #[y.val] w fun e w' => e = .returned (.func (.func 114) #[] #[.pointer (some ⟨w.heap.size, 0, none⟩)]) ∧ w' = w.alloc (.cells #[y.val] 38) := by
  unfold Rw.val
  go_enter Try.func93, Try.ntmps93
  go_wp2
  go_ret
  exact ⟨rfl, rfl⟩

set_option maxRecDepth 8000 in
set_option maxHeartbeats 2000000 in
theorem orders1_zero (n : Nat) (y : Rw) (Bn : Nat) (w : World) (hl : y.l = []) (hB : w.heap[Bn]? = some (.cells #[y.val] 38 (0, 0))) :
    GivesR Fence.wide n Try.prog 114 #[.pointer (some ⟨Bn, 0, none⟩)] [[]] (fun b => b = Bn ∨ y.o = some b) w := by
  intro l J W hro hrl hJ hY h0
  have hb : W.heap[Bn]? = some (.cells #[y.val] 38 (0, 0)) := (hro.block Bn (Or.inl rfl)).trans hB
  have lB := lt_of_block hb
  unfold Rw.val at hb
  rw [hl] at hb
  have c0 := cell_of_blk 0 hb (by simp)
  simp at c0
  have c1 : (W.alloc (.cells #[.func (.yield l) #[] #[]] 98)).cell? ⟨Bn, 0, none⟩ = some (.slice y.a 0 y.c) := by
    rw [← c0]; exact ((Below.refl _ W).alloc (Nat.le_refl _) _).cell (p := ⟨Bn, 0, none⟩) lB
  have z : (W.alloc (.cells #[.func (.yield l) #[] #[]] 98)).heap.size = W.heap.size + 1 := by simp
  have hJ1 : J 0 (fun b => b < W.heap.size) (W.alloc (.cells #[.func (.yield l) #[] #[]] 98)) := hJ _ _ _ _ h0 (Rest.of ((Below.refl _ W).alloc (Nat.le_refl _) _) fun k hk => hk)
  obtain ⟨fn, tmps, assign, body, hy, hR⟩ := yield_any (m := n - 1) (hY 0 _ ⟨none, 0, []⟩ _ hJ1 ⟨by simp, rfl, ⟨rfl, Or.inl ⟨rfl, rfl⟩⟩, fun g hg => by (cases hg), fun b hb => by omega⟩)
  dsimp only [Rw.val, Rw.a, Option.map, List.length] at hy
  refine callsIn_of_wp Try.func114 rfl trivial ?_ rfl
  simp only [Try.ntmps114, List.size_toArray, List.length_cons, List.length_nil, Nat.reduceAdd, Nat.reduceSub, Array.replicate_succ, Array.replicate_zero, List.push_toArray, List.append_toArray, List.nil_append, List.cons_append]
  gi_wp2
  refine ⟨fun h => (by cases h), hR.mono ?_⟩
  rintro e W2 ⟨rfl, s', j1, _, bd, _⟩
  gi_wp2
  refine bodyPost_ret (results_none rfl _ _ _) rfl ?_
  exact ⟨⟨_, rfl⟩, s', j1, bd⟩

def markD (D : Nat) : Deferred := { target := .collected D, args := #[] }
theorem leaves_marks {P : Program} {n : Nat} {fn : Func} {tmps : Array Value} {R : Ending → World → Prop} : ∀ (ds : List Nat) (W : World), (∀ D ∈ ds, W.heap[D]? = some (.deferred (some []))) → ds.Nodup →
    (∀ W', Rest (fun b => b ∉ ds) W W' → W'.heap.size = W.heap.size → LeavesInM Fence.wide n P fn tmps R [] .returning W') → LeavesInM Fence.wide n P fn tmps R (ds.map markD) .returning W
  | [], W, _, _, h => h W (Rest.refl _ _) rfl
  | D :: ds, W, hd, hn, h => by
    obtain ⟨n1, n2⟩ := List.nodup_cons.1 hn
    refine ⟨by simp, .inl ⟨D, W.putObj D (.deferred none), rfl, run_takeDeferred (hd D List.mem_cons_self), ?_⟩⟩
    refine leaves_marks ds _ (fun D' hD' => ?_) n2 (fun W' hR hz => h W' ?_ (by rw [hz]; simp))
    · exact (World.putObj_heap_other (fun e => n1 (by rw [← e]; exact hD'))).trans (hd D' (List.mem_cons_of_mem _ hD'))
    · refine (Rest.putObj W _ (fun h => h List.mem_cons_self)).trans (hR.sub fun b hb h2 => hb (List.mem_cons_of_mem _ h2))

theorem stepIn_append {F : Fence} {n : Nat} {P : Program} {ops : Array Oper} {o : Oper} {a : Act} {w : World} {K : Act → World → Prop} {Q : Exit → Act → World → Prop} {E : Prop}
    (hg : o.guard = none) (s x : Operand) (t u : TypeId) (hop : o.op = Op.call { callee := Callee.builtin Builtin.append, args := #[s, x], argTypes := #[t, u] }) (v : Value) (w' : World)
    (hrun : (Builtin.append_ #[t, u] o.type #[a.eval s, a.eval x]).run P w = .ok v w') (hK : K (a.put o.dst v) w') : if Region.wanted o (yielded ops a.tmps) = true then Oper.wpIn F n P o a w K Q else E := by
  have hw : Region.wanted o (yielded ops a.tmps) = true := by simp [Region.wanted, hg]
  rw [if_pos hw]
  unfold Oper.wpIn
  refine ⟨?_, ?_⟩
  · simp [Oper.about, hop, resolve, Target.leads, Sem.run_pure]
  · rw [Oper.semAt_plain F _ _ (by rw [hop]; intro c hc'; cases hc')]
    simp [execOp, hop, resolve, invoke, builtin, hrun, Result.andThen]
    exact hK

theorem stepIn_yield {F : Fence} {n : Nat} {P : Program} {ops : Array Oper} {o : Oper} {a : Act} {w : World} {K : Act → World → Prop} {Q : Exit → Act → World → Prop} {E : Prop} {R : Ending → World → Prop}
    (hg : o.guard = none) (s x : Operand) (l : Nat) (ts : Array TypeId) (hop : o.op = Op.call { callee := Callee.value s, args := #[x], argTypes := ts }) (hs : a.eval s = .func (.yield l) #[] #[]) (arg : Value) (hx : a.eval x = arg)
    (hd : F.depth.isSome = true → 1 ≤ n) (hy : YieldAt F (n - 1) P l #[arg] w R) (hK : ∀ e w', R e w' → ∃ v, e = .returned v ∧ K (a.put o.dst v) w') : if Region.wanted o (yielded ops a.tmps) = true then Oper.wpIn F n P o a w K Q else E := by
  have hw : Region.wanted o (yielded ops a.tmps) = true := by simp [Region.wanted, hg]
  rw [if_pos hw]
  obtain ⟨fn, tmps, assign, body, hrun, hR⟩ := hy
  unfold Oper.wpIn
  refine ⟨?_, ?_⟩
  · simp [Oper.about, hop, resolve, Deferred.ofValue, hs, Target.leads, Sem.run_pure]
  · rw [Oper.semAt_plain F _ _ (by rw [hop]; intro c hc'; cases hc')]
    simp [execOp, hop, resolve, Deferred.ofValue, invoke, hs, hx, hrun]
    refine ⟨hd, hR.mono ?_⟩
    intro e w' h
    obtain ⟨v, rfl, hk⟩ := hK e w' h
    exact hk

theorem run_append_none {P : Program} (w : World) (t ty e : TypeId) (i : TypeInfo) (ht : P.underlying t = some (.slice e)) (hi : P.info? e = some i) (a : Addr) (n c : Nat) (hn : n ≤ c) :
    (Builtin.append_ #[t, t] ty #[.slice (some a) n c, .slice none 0 0]).run P w = .ok (.slice (some a) n c) w := by
  simp [Builtin.append_, run_underlying ht, sizeOf, typeInfo, hi, Builtin.lenOf, Builtin.firstCells, hn, storeCells]

set_option maxRecDepth 8000 in
theorem append_first (X : World) (z : Int) (x : Rw) (hx : RowOk X 0 x) (hn : x.l.length ≤ 100) :
    ∃ (yy : Rw) (w' : World), (Builtin.append_ #[38, 38] 38 #[.slice (some ⟨X.heap.size, 0, none⟩) 1 1, x.val]).run Try.prog (X.alloc (.cells #[.int .i64 z] 2)).drew = .ok yy.val w' ∧ yy.l = z :: x.l ∧ RowOk w' X.heap.size yy ∧ Below X.heap.size X w' := by
  obtain ⟨i1, hi1, hi2, hi3, hi4⟩ := info_parts infoI
  have OE : ((X.alloc (.cells #[.int .i64 z] 2)).drew).ownsRow X.heap.size 2 1 (.slice (some ⟨X.heap.size, 0, none⟩) 1 1) 1 (ints [z]) := one_row X z X.heap.size (Nat.le_refl _)
  have BD : Below X.heap.size X (X.alloc (.cells #[.int .i64 z] 2)).drew := ((Below.refl _ X).alloc (Nat.le_refl _) _).drew
  rcases hx.what with ⟨h1, h2, h3⟩ | ⟨g, h1, _, _, h3, h4⟩
  · have e : x.val = .slice none 0 0 := by unfold Rw.val Rw.a; rw [h1, h2, h3]; rfl
    rw [e, run_append_none _ _ _ _ i1 Try.underlying38 hi1 _ _ _ (Nat.le_refl _)]
    obtain ⟨yy, q0, q1, q2, _⟩ := rowOk_of (l := [z]) OE rfl rfl
    exact ⟨yy, _, by rw [← q0], by rw [q1, h2], q2, BD⟩
  · have e : x.val = .slice (some ⟨g, 0, none⟩) x.l.length x.c := by unfold Rw.val Rw.a; rw [h1]; rfl
    obtain ⟨v', w', hr, o2, g2, _, _⟩ := run_append_own_at (P := Try.prog) (w := (X.alloc (.cells #[.int .i64 z] 2)).drew) X.heap.size 38 38 2 i1 (.int .i64 0) 1 8 Try.underlying38 hi1 hi2 hi3 hi4 rfl (by decide) _ _ _ OE ⟨g, 0, none⟩ x.l.length x.c (ints x.l) (by rw [ints_len]; omega)
      ((hx.below BD).cells h1) (ints_one _) (by unfold maxLen; omega) (by omega) BD.size
    obtain ⟨yy, q0, q1, q2, _⟩ := rowOk_of (l := z :: x.l) o2 (by simp; omega) rfl
    refine ⟨yy, w', by rw [e, hr, q0], q1, q2, BD.grown g2 BD.size (fun r e => Nat.le_of_eq (show X.heap.size = r from Option.some.inj e))⟩

/-- what stands between two rounds of the loop over those behind -/
structure InvI (J : Nat → (Nat → Prop) → World → Prop) (ro M : Nat → Prop) (W V4 : World) (b0 k : Nat) (s0 : Nat → Prop) (X : World) : Prop where
  ex : ∃ so : Nat → Prop, J (b0 + k) so X ∧ (∀ b, s0 b ↔ so b ∨ M b ∨ ro b) ∧ (∀ b, so b → ¬ M b) ∧ ∀ b, so b → b < X.heap.size
  mm : ∀ b, M b → X.heap[b]? = V4.heap[b]?
  ro : Rest ro W X
  sz : V4.heap.size ≤ X.heap.size

/-- what stands between two rounds of the loop over the first number -/
structure InvO (J : Nat → (Nat → Prop) → World → Prop) (ro : Nat → Prop) (W : World) (fm Y l k : Nat) (s : Nat → Prop) (ds : List Nat) (V : World) : Prop where
  jk : J (k * fm) s V
  bd : ∀ b, s b → b < V.heap.size
  ro : Rest ro W V
  yb : V.heap[Y]? = some (.cells #[.func (.yield l) #[] #[]] 98 (0, 0))
  ny : ¬ s Y
  dd : ∀ D ∈ ds, V.heap[D]? = some (.deferred (some []))
  nd : ds.Nodup
  ns : ∀ D ∈ ds, ¬ s D

theorem turnsP_at {m : Nat} {l : List Int} (hl : l.length = m + 1) {k q : Nat} (hk : k < l.length) (hq : q < factN m) : k * factN m + q < (turnsL (m + 1) l).length ∧ (turnsL (m + 1) l)[k * factN m + q]?.getD [] = zg l k :: ((turnsL m (l.eraseIdx k))[q]?.getD []) := by
  have hlen := turnsL_len (m + 1) l hl
  have he : (turnsL m (l.eraseIdx k)).length = factN m := turnsL_len m _ (by rw [erase_len hk]; omega)
  have h1 : k * factN m + q < (m + 1) * factN m := by
    have : (k + 1) * factN m ≤ (m + 1) * factN m := Nat.mul_le_mul_right _ (by omega)
    rw [Nat.add_mul] at this
    omega
  refine ⟨by rw [hlen]; exact h1, ?_⟩
  have key : ∀ d i, i + d = l.length → k < i → (turnsP m l i)[k * factN m + q]? = (turnsP m l (k + 1))[k * factN m + q]? := by
    intro d i
    induction i generalizing d with
    | zero => intro _ h; omega
    | succ i ih =>
      intro h h2
      by_cases e : i = k
      · rw [e]
      · rw [turnsP_succ, List.getElem?_append_left, ih (d + 1) (by omega) (by omega)]
        rw [turnsP_len hl (turnsL_len m) i (by omega)]
        have : (k + 1) * factN m ≤ i * factN m := Nat.mul_le_mul_right _ (by omega)
        rw [Nat.add_mul] at this
        omega
  rw [turnsL_succ, key 0 l.length (by omega) hk, turnsP_succ, List.getElem?_append_right (by rw [turnsP_len hl (turnsL_len m) k (by omega)]; omega), turnsP_len hl (turnsL_len m) k (by omega)]
  rw [show k * factN m + q - k * factN m = q by omega, List.getElem?_map, List.getElem?_eq_getElem (by omega)]
  simp

set_option maxRecDepth 8000 in
set_option maxHeartbeats 8000000 in
theorem orders1_gives : ∀ (m : Nat) (n : Nat) (y : Rw) (Bn : Nat) (w : World), y.l.length = m → m ≤ 6 → RowOk w 0 y → w.heap[Bn]? = some (.cells #[y.val] 38 (0, 0)) →
    GivesR Fence.wide n Try.prog 114 #[.pointer (some ⟨Bn, 0, none⟩)] (turnsL m y.l) (fun b => b = Bn ∨ y.o = some b) w := by
  intro m
  induction m with
  | zero => intro n y Bn w hl _ _ hB; exact orders1_zero n y Bn w (List.eq_nil_of_length_eq_zero hl) hB
  | succ m ih =>
    intro n y Bn w hl h6 hy0 hB l J W hro hrl hJ hY h0
    obtain ⟨i1, hi1, hi2, hi3, hi4⟩ := info_parts infoI
    have hyW : RowOk W 0 y := hy0.keep fun g hg => hro.block g (Or.inr hg)
    rcases hyW.what with ⟨_, e, _⟩ | ⟨g, ho, _, hI, hlc, hcm⟩
    · rw [e] at hl; simp at hl
    have hb : W.heap[Bn]? = some (.cells #[y.val] 38 (0, 0)) := (hro.block Bn (Or.inl rfl)).trans hB
    have lB := lt_of_block hb
    have lg := hI.lt
    have hv : y.val = .slice (some ⟨g, 0, none⟩) y.l.length y.c := by unfold Rw.val Rw.a; rw [ho]; rfl
    rw [hv] at hb
    obtain ⟨N, hN⟩ : ∃ N, N = y.l.length := ⟨_, rfl⟩
    have HN : Hid (N = y.l.length ∧ N = m + 1) := ⟨hN, by omega⟩
    rw [← hN] at hb hI hlc
    have N1 : N ≤ m + 1 := by omega
    have N2 : m + 1 ≤ N := by omega
    obtain ⟨L, hL⟩ : ∃ L, L = y.l := ⟨_, rfl⟩
    rw [← hL] at hI
    have HL : Hid (L = y.l ∧ L.length = N) := ⟨hL, by rw [hL]; exact hN.symm⟩
    unfold maxLen at hcm
    -- what is read lies still
    have HRO : Hid (∀ V, Rest (fun b => b = Bn ∨ y.o = some b) W V → V.cell? ⟨Bn, 0, none⟩ = some (.slice (some ⟨g, 0, none⟩) N y.c) ∧ ∀ i, i < N → V.cell? ⟨g, i, none⟩ = some (.int .i64 (zg L i))) := fun V hV => by
      have b1 := (hV.block Bn (Or.inl rfl)).trans hb
      obtain ⟨cur, h1, h2, h3⟩ := hI.blk (hV.block g (Or.inr ho))
      exact ⟨by simpa using cell_of_blk 0 b1 (by simp), fun i hi => by simp [World.cell?, h1, h3 i hi]⟩
    obtain ⟨W0, hW0⟩ : ∃ W0, W0 = W.alloc (.cells #[.func (.yield l) #[] #[]] 98) := ⟨_, rfl⟩
    have B0 : Below W.heap.size W W0 := by rw [hW0]; exact (Below.refl _ W).alloc (Nat.le_refl _) _
    have z0 : W0.heap.size = W.heap.size + 1 := by rw [hW0]; simp
    have bY0 : W0.heap[W.heap.size]? = some (.cells #[.func (.yield l) #[] #[]] 98 (0, 0)) := by rw [hW0]; exact heap_alloc_new _ _
    have R0 : Rest (fun b => b = Bn ∨ y.o = some b) W W0 := Rest.of B0 hrl
    have J0 : J 0 (fun b => b < W.heap.size) W0 := hJ _ _ _ _ h0 (Rest.of B0 fun k hk => hk)
    obtain ⟨c0, _⟩ := HRO.out W0 R0
    refine callsIn_of_wp_marks Try.func114 rfl trivial ?_ rfl
    simp only [Try.ntmps114, List.size_toArray, List.length_cons, List.length_nil, Nat.reduceAdd, Nat.reduceSub, Array.replicate_succ, Array.replicate_zero, List.push_toArray, List.append_toArray, List.nil_append, List.cons_append]
    have e0 : ((N : Int) == 0) = false := by simp; omega
    have HW0 : Hid (W0 = W.alloc (.cells #[.func (.yield l) #[] #[]] 98)) := hW0
    rw [hW0] at c0
    clear hN hL hW0 hv hb hI hy0 hB
    gi_wp2
    rw [← HW0.out]
    refine wpIn_loop (fun a V => ∃ (k : Nat) (z : Int) (s : Nat → Prop) (ds : List Nat) (u3 u4 u5 u6 u15 u16 u17 u18 u19 u20 u21 u22 u23 u24 u25 u26 u27 u28 u29 u30 u31 u32 u33 u34 u35 u36 u37 u38 : Value), z = (k : Int) ∧ k ≤ N ∧ InvO J (fun b => b = Bn ∨ y.o = some b) W (factN m) W.heap.size l k s ds V ∧ a = { tmps := #[.func (.yield l) #[] #[], .pointer (some ⟨Bn, 0, none⟩), .pointer (some ⟨W.heap.size, 0, none⟩), u3, u4, u5, u6, .slice (some ⟨g, 0, none⟩) N y.c, .int .i64 N, .bool false, undef, undef, .slice (some ⟨g, 0, none⟩) N y.c, .int .i64 N, .int .i64 z, u15, u16, u17, u18, u19, u20, u21, u22, u23, u24, u25, u26, u27, u28, u29, u30, u31, u32, u33, u34, u35, u36, u37, u38], defers := ds.map markD }) (fun a _ => N - (intOf (a.tmps.getD 14 undef)).toNat) ?_ ?_
    · exact ⟨0, 0, _, [], _, _, _, _, _, _, _, _, _, _, _, _, _, _, _, _, _, _, _, _, _, _, _, _, _, _, _, _, rfl, by omega, ⟨by rw [Nat.zero_mul]; exact J0, fun b hb => by omega, R0, bY0, by omega, (fun D hD => by cases hD), List.nodup_nil, (fun D hD => by cases hD)⟩, rfl⟩
    · rintro a V ⟨k, z, s, ds, u3, u4, u5, u6, u15, u16, u17, u18, u19, u20, u21, u22, u23, u24, u25, u26, u27, u28, u29, u30, u31, u32, u33, u34, u35, u36, u37, u38, hz, hk, hI, rfl⟩
      subst hz
      have HI : Hid _ := hI
      clear hI J0 h0 R0 c0 bY0
      by_cases hkt : k < N
      · have hkt' : (k : Int) < (N : Int) := by omega
        obtain ⟨c1, cg⟩ := HRO.out V HI.out.ro
        have cgk := cg k hkt
        have zV := HI.out.ro.size
        have hmx : Try.prog.follows .mixedOrders = true := by kernel_rfl
        obtain ⟨V1, hV1⟩ : ∃ V1, V1 = V.alloc (.cells #[.int .i64 (zg L k)] 2) := ⟨_, rfl⟩
        have BV1 : Below V.heap.size V V1 := by rw [hV1]; exact (Below.refl _ V).alloc (Nat.le_refl _) _
        have zV1 : V1.heap.size = V.heap.size + 1 := by rw [hV1]; simp
        have hRX : ∀ X, Below V.heap.size V X → Rest (fun b => b = Bn ∨ y.o = some b) W X := fun X hX => HI.out.ro.trans (Rest.of hX fun b hb => by have := hrl b hb; omega)
        have c1b : (V.alloc (.cells #[.int .i64 (zg L k)] 2)).drew.cell? ⟨Bn, 0, none⟩ = some (.slice (some ⟨g, 0, none⟩) N y.c) := by rw [← hV1]; exact (HRO.out _ (hRX _ BV1.drew)).1
        have c1a : (V.alloc (.cells #[.int .i64 (zg L k)] 2)).cell? ⟨Bn, 0, none⟩ = some (.slice (some ⟨g, 0, none⟩) N y.c) := by rw [← hV1]; exact (HRO.out _ (hRX _ BV1)).1
        have HCX : Hid (∀ X, Below V.heap.size V X → ∀ i, i < N → X.cell? ⟨g, i, none⟩ = some (.int .i64 (zg L i))) := fun X hX => (HRO.out X (hRX X hX)).2
        have HC1 : Hid (∀ X, Below V.heap.size V X → ∀ j u, (ints (L.take k))[j]? = some u → X.cell? ((⟨g, 0, none⟩ : Addr).add j) = some u) := fun X hX j u hju => by
          have hj : j < k := by have := (List.getElem?_eq_some_iff.1 hju).1; simp [ints] at this; omega
          have e := HCX.out X hX j (by omega)
          simp [ints, hj] at hju
          obtain ⟨a, ha, rfl⟩ := hju
          rw [addr_add, Nat.zero_add]
          simpa [zg, ha] using e
        obtain ⟨ad, HA, HC2⟩ : ∃ ad : Addr, (if y.c = k + 1 then some (⟨g, 0, none⟩ : Addr) else some ⟨g, k + 1, none⟩) = some ad ∧ Hid (∀ X, Below V.heap.size V X → ∀ j u, (ints (L.drop (k + 1)))[j]? = some u → X.cell? (ad.add j) = some u) := by
          have hl := HL.out.2
          by_cases hum : y.c = k + 1
          · refine ⟨⟨g, 0, none⟩, if_pos hum, fun X hX j u hju => ?_⟩
            rw [List.drop_eq_nil_of_le (by omega)] at hju
            simp [ints] at hju
          · refine ⟨⟨g, k + 1, none⟩, if_neg hum, fun X hX j u hju => ?_⟩
            have hj : j < N - (k + 1) := by have := (List.getElem?_eq_some_iff.1 hju).1; simp [ints] at this; omega
            have e := HCX.out X hX (k + 1 + j) (by omega)
            simp [ints, List.getElem?_drop] at hju
            obtain ⟨a, ha, rfl⟩ := hju
            rw [addr_add]
            simpa [zg, ha] using e
        have hj1' : (L.take k).length = k := by have := HL.out.2; simp; omega
        have hj2' : (L.drop (k + 1)).length = N - (k + 1) := by have := HL.out.2; simp; omega
        have n2 : (k : Int) + 1 ≤ (N : Int) := by omega
        have n3 : (N : Int) ≤ (y.c : Int) := by omega
        have n5 : ((k : Int) + 1).toNat = k + 1 := by omega
        have n6 : (k : Int) ≤ (y.c : Int) := by omega
        have n8 : (0 : Int) ≤ (k : Int) + 1 := by omega
        have k0 : (0 : Int) ≤ (k : Int) := by omega
        have wk : IntKind.i64.wrap ((k : Int) + 1) = (k : Int) + 1 := by rw [IntKind.wrap_i64]; omega
        obtain ⟨V2, hV2⟩ : ∃ V2, V2 = (V1.alloc (.cells #[.slice (some ⟨g, 0, none⟩) k y.c, .slice (some ad) (N - (k + 1)) (y.c - (k + 1))] 38)).drew := ⟨_, rfl⟩
        have BV2 : Below V.heap.size V V2 := by rw [hV2]; exact (BV1.alloc BV1.size _).drew
        have zV2 : V2.heap.size = V.heap.size + 2 := by
          have : V2.heap.size = V1.heap.size + 1 := by rw [hV2]; exact World.size_alloc _ _
          omega
        have hb2 : V2.heap[V1.heap.size]? = some (.cells #[.slice (some ⟨g, 0, none⟩) k y.c, .slice (some ad) (N - (k + 1)) (y.c - (k + 1))] 38 (0, 0)) := by rw [hV2]; exact heap_alloc_new V1 _
        have CC := concat2_any V1.heap.size k (N - (k + 1)) ⟨g, 0, none⟩ ad y.c (y.c - (k + 1)) (L.take k) (L.drop (k + 1)) hj1' hj2' V2 (by simpa using cell_of_blk 0 hb2 (by simp)) (by simpa using cell_of_blk 1 hb2 (by simp)) (by omega)
          (fun X hX => HC1.out X (BV2.then hX BV2.size)) (fun X hX => HC2.out X (BV2.then hX BV2.size)) (by omega) (by omega)
        rw [zV1, hV2, hV1] at CC
        have HZ : Hid (V1.heap.size = V.heap.size + 1 ∧ V2.heap.size = V.heap.size + 2) := ⟨zV1, zV2⟩
        have HV12 : Hid (V1 = V.alloc (.cells #[.int .i64 (zg L k)] 2) ∧ V2 = (V1.alloc (.cells #[.slice (some ⟨g, 0, none⟩) k y.c, .slice (some ad) (N - (k + 1)) (y.c - (k + 1))] 38)).drew) := ⟨hV1, hV2⟩
        have HA4 : Hid (V2.heap[V.heap.size]? = some (.cells #[.int .i64 (zg L k)] 2 (0, 0))) := by
          have h1 : V1.heap[V.heap.size]? = some (.cells #[.int .i64 (zg L k)] 2 (0, 0)) := by rw [hV1]; exact heap_alloc_new _ _
          have h2 : V2.heap[V.heap.size]? = V1.heap[V.heap.size]? := by rw [hV2]; exact Below.heap_alloc V1 _ _ (by omega)
          exact h2.trans h1
        clear hj1' hj2' HCX HC1 HC2 hb2 hV1 hV2 hRX zV1 zV2
        gi_wp2
        refine wpIn_mono (Q := Calm fun _ a' V3 => ∃ xx : Rw, a' = { tmps := #[.func (.yield l) #[] #[], .pointer (some ⟨Bn, 0, none⟩), .pointer (some ⟨W.heap.size, 0, none⟩), .int .i64 k, .pointer (some ⟨V.heap.size, 0, none⟩), xx.val, u6, .slice (some ⟨g, 0, none⟩) N y.c, .int .i64 N, .bool false, undef, undef, .slice (some ⟨g, 0, none⟩) N y.c, .int .i64 N, .int .i64 k, .bool true, .int .i64 k, .pointer (some ⟨g, k, none⟩), .int .i64 (zg L k), .slice (some ⟨g, 0, none⟩) N y.c, .int .i64 k, .slice (some ⟨g, 0, none⟩) k y.c, .slice (some ⟨g, 0, none⟩) N y.c, .int .i64 k, .int .i64 ((k : Int) + 1), .slice (some ad) (N - (k + 1)) (y.c - (k + 1)), .slice (some ⟨V.heap.size + 1, 0, none⟩) 2 2, xx.val, u28, u29, u30, u31, u32, u33, u34, u35, u36, u37, u38], defers := ds.map markD } ∧ xx.l = L.take k ++ L.drop (k + 1) ∧ RowOk V3 V2.heap.size xx ∧ Below V2.heap.size V2 V3) ?_ ?_
        · rw [HZ.out.2]
          gi_region_with_o (refine ⟨trivial, fun h => (by cases h), ?_⟩; refine (callsIn_wide.2 CC).mono ?_; rintro e V3 ⟨xx, rfl, hxl, hxo, hb3⟩)
          all_goals
            rw [← HV12.out.1, ← HV12.out.2] at hxo hb3
            rw [HZ.out.2] at hxo hb3
            exact ⟨xx, rfl, hxl, hxo, hb3⟩
        · rintro e a' V3 hq
          cases e <;> first | exact hq.elim | skip
          obtain ⟨xx, rfl, hxl, hxo, hb23⟩ := hq
          have hb3 : Below V.heap.size V V3 := BV2.then hb23 BV2.size
          clear CC c1a c1b HA
          have hxe : xx.l = L.eraseIdx k := by rw [hxl, List.eraseIdx_eq_take_drop_succ]
          have hxn : xx.l.length = m := by rw [hxe, erase_len (by have := HL.out.2; omega)]; have := HL.out.2; omega
          gi_wp2_with (refine ⟨trivial, fun h => (by cases h), ?_⟩; refine (callsIn_wide.2 (orders_any xx _)).mono ?_; rintro e w' ⟨rfl, hq⟩; have hq' := hq.symm; clear hq; subst hq')
          obtain ⟨V4, hV4⟩ : ∃ V4, V4 = V3.alloc (.cells #[xx.val] 38) := ⟨_, rfl⟩
          have B34 : Below V3.heap.size V3 V4 := by rw [hV4]; exact (Below.refl _ V3).alloc (Nat.le_refl _) _
          have z4 : V4.heap.size = V3.heap.size + 1 := by rw [hV4]; simp
          have z3 := hb3.size
          have BV4 : Below V.heap.size V V4 := hb3.then B34 z3
          have bB4 : V4.heap[V3.heap.size]? = some (.cells #[xx.val] 38 (0, 0)) := by rw [hV4]; exact heap_alloc_new _ _
          have xo4 : RowOk V4 0 xx := (hxo.below B34).low (Nat.zero_le _)
          have xlt : ∀ b, xx.o = some b → V.heap.size < b ∧ b < V3.heap.size := fun b hb => by have := hxo.lt hb; have := HZ.out.2; omega
          rw [← hV4]
          obtain ⟨M, hM⟩ : ∃ M : Nat → Prop, M = fun b => b < V4.heap.size ∧ ¬ s b := ⟨_, rfl⟩
          have sbd := HI.out.bd
          have hlen : (turnsL m xx.l).length = factN m := turnsL_len m _ hxn
          have roW : ∀ b, (b = Bn ∨ y.o = some b) → b < V.heap.size := fun b hb => by have := hrl b hb; omega
          refine range_own rfl (fun h => by cases h) (gf := 114) (lb := #[.pointer (some ⟨V3.heap.size, 0, none⟩)]) rfl trivial (enters_of Try.func114 (by kernel_rfl) rfl) (ih (n - 1) xx V3.heap.size V4 hxn (by omega) xo4 bB4) (Rest.refl _ _)
            (fun b hb => by
              rcases hb with hb | hb
              · omega
              · have := xlt b hb; omega) rfl
            (InvI J (fun b => b = Bn ∨ y.o = some b) M W V4 (k * factN m)) ?inv ?start (fun x => { tmps := #[.func (.yield l) #[] #[], .pointer (some ⟨Bn, 0, none⟩), .pointer (some ⟨W.heap.size, 0, none⟩), .int .i64 k, .pointer (some ⟨V.heap.size, 0, none⟩), xx.val, x.val, .slice (some ⟨g, 0, none⟩) N y.c, .int .i64 N, .bool false, undef, undef, .slice (some ⟨g, 0, none⟩) N y.c, .int .i64 N, .int .i64 k, .bool true, .int .i64 k, .pointer (some ⟨g, k, none⟩), .int .i64 (zg L k), .slice (some ⟨g, 0, none⟩) N y.c, .int .i64 k, .slice (some ⟨g, 0, none⟩) k y.c, .slice (some ⟨g, 0, none⟩) N y.c, .int .i64 k, .int .i64 ((k : Int) + 1), .slice (some ad) (N - (k + 1)) (y.c - (k + 1)), .slice (some ⟨V.heap.size + 1, 0, none⟩) 2 2, xx.val, xx.val, .func (.func 114) #[] #[.pointer (some ⟨V3.heap.size, 0, none⟩)], x.val, u31, u32, u33, u34, u35, u36, u37, u38], defers := [] }) ?assign ?body ?done
          case inv =>
            rintro k' s0 X1 X2 ⟨⟨so, j1, e1, e2, e3⟩, mm, rr, sz⟩ hR
            exact ⟨⟨so, hJ _ _ _ _ j1 (hR.sub fun b hb => (e1 b).2 (Or.inl hb)), e1, e2, fun b hb => by have := e3 b hb; have := hR.size; omega⟩, fun b hb => (hR.block b ((e1 b).2 (Or.inr (Or.inl hb)))).trans (mm b hb), rr.trans (hR.sub fun b hb => (e1 b).2 (Or.inr (Or.inr hb))), by have := hR.size; omega⟩
          case start =>
            refine ⟨⟨s, hJ _ _ _ _ HI.out.jk (Rest.of BV4 sbd), fun b => ⟨fun hb => ?_, fun hb => ?_⟩, fun b hb hm => ?_, fun b hb => by have := sbd b hb; have := BV4.size; omega⟩, fun b _ => rfl, HI.out.ro.trans (Rest.of BV4 roW), Nat.le_refl _⟩
            · by_cases hs : s b
              · exact Or.inl hs
              · exact Or.inr (Or.inl (by rw [hM]; exact ⟨hb, hs⟩))
            · have h4 := BV4.size
              rcases hb with hb | hb | hb
              · have := sbd b hb; omega
              · rw [hM] at hb; exact hb.1
              · have := roW b hb; omega
            · rw [hM] at hm; exact hm.2 hb
          case assign =>
            intro l' x X K hK
            gi_wp2
            exact hK
          case body =>
            rintro l' k' s0 x X hl' ⟨r, hr⟩ hnl hIn hc
            have hIn' := hIn
            obtain ⟨⟨so, j1, e1, e2, e3⟩, mm, rr, sz⟩ := hIn'
            have lY := lt_of_block HI.out.yb
            have mY : M W.heap.size := by rw [hM]; exact ⟨by have := BV4.size; omega, HI.out.ny⟩
            have mA : M V.heap.size := by rw [hM]; exact ⟨by omega, fun h => by have := sbd _ h; omega⟩
            have bY := (mm _ mY).trans ((BV4.block _ lY).trans HI.out.yb)
            have zz := HZ.out.2
            have z23 := hb23.size
            have bA := (mm _ mA).trans ((B34.block _ (by omega)).trans ((hb23.block _ (by omega)).trans HA4.out))
            have LX : W.heap.size < X.heap.size ∧ V.heap.size < X.heap.size := ⟨lt_of_block bY, lt_of_block bA⟩
            have hxlen : x.l.length = m := by
              have hm := hc.lt
              have e := hc.eq
              rw [List.getElem?_eq_getElem hm] at e
              have hp := turnsL_perm m xx.l hxn _ (List.getElem_mem hm)
              rw [e]
              exact hp.length_eq.trans hxn
            obtain ⟨yy, w10, hrun, hyl, hyo, B10⟩ := append_first X (zg L k) x hc.ok (by omega)
            have hk' : k' < factN m := by have := hc.lt; omega
            obtain ⟨t1, t2⟩ := turnsP_at (m := m) (l := y.l) (by have := HL.out; have := HN.out; omega) (k := k) (q := k') (by have := HN.out; omega) hk'
            have hYT := yield_any (m := n - 1 - 1 - 1) (hY (k * factN m + k') so yy w10 (hJ _ _ _ _ j1 (Rest.of B10 e3)) ⟨t1, by rw [t2, hyl, hc.eq, HL.out.1, hxe, HL.out.1], hyo.low (Nat.zero_le _), fun g' hg' h => by have := (hyo.lt hg').2; have := e3 _ h; omega, fun b hb => by have := e3 b hb; have := B10.size; omega⟩)
            have HYT : Hid _ := hYT
            have z10 := B10.size
            have cY : X.cell? ⟨W.heap.size, 0, none⟩ = some (.func (.yield l) #[] #[]) := by simpa using cell_of_blk 0 bY (by simp)
            have cA : X.cell? ⟨V.heap.size, 0, none⟩ = some (.int .i64 (zg L k)) := by simpa using cell_of_blk 0 bA (by simp)
            have cY2 : (X.alloc (.cells #[.int .i64 (zg L k)] 2)).drew.cell? ⟨W.heap.size, 0, none⟩ = some (.func (.yield l) #[] #[]) := by
              rw [← cY]; exact (((Below.refl _ X).alloc (Nat.le_refl _) _).drew).cell (p := ⟨W.heap.size, 0, none⟩) LX.1
            have cY3 : w10.cell? ⟨W.heap.size, 0, none⟩ = some (.func (.yield l) #[] #[]) := (B10.cell (p := ⟨W.heap.size, 0, none⟩) LX.1).trans cY
            have HPK : Hid (InvI J (fun b => b = Bn ∨ y.o = some b) M W V4 (k * factN m) k' s0 X ∧ Come (turnsL m xx.l) k' s0 x X) := ⟨hIn, hc⟩
            have HB10 : Hid (Below X.heap.size X w10) := B10
            have HYO : Hid (RowOk w10 X.heap.size yy) := hyo
            have HM : Hid (∀ b, M b ↔ b < V4.heap.size ∧ ¬ s b) := fun b => by rw [hM]
            clear hYT hIn hc j1 t1 t2 hyl bY bA B10 hyo hM hV4 ho
            gi_wp2
            refine wpIn_mono (Q := Calm fun _ a' w' => a' = { tmps := #[.func (.yield l) #[] #[], .pointer (some ⟨Bn, 0, none⟩), .pointer (some ⟨W.heap.size, 0, none⟩), .int .i64 k, .pointer (some ⟨V.heap.size, 0, none⟩), xx.val, x.val, .slice (some ⟨g, 0, none⟩) N y.c, .int .i64 N, .bool false, undef, undef, .slice (some ⟨g, 0, none⟩) N y.c, .int .i64 N, .int .i64 k, .bool true, .int .i64 k, .pointer (some ⟨g, k, none⟩), .int .i64 (zg L k), .slice (some ⟨g, 0, none⟩) N y.c, .int .i64 k, .slice (some ⟨g, 0, none⟩) k y.c, .slice (some ⟨g, 0, none⟩) N y.c, .int .i64 k, .int .i64 ((k : Int) + 1), .slice (some ad) (N - (k + 1)) (y.c - (k + 1)), .slice (some ⟨V.heap.size + 1, 0, none⟩) 2 2, xx.val, xx.val, .func (.func 114) #[] #[.pointer (some ⟨V3.heap.size, 0, none⟩)], x.val, .func (.yield l) #[] #[], .int .i64 (zg L k), .slice (some ⟨X.heap.size, 0, none⟩) 1 1, x.val, yy.val, .bool true, .bool false, u38], defers := [] } ∧ After J (fun b => b = Bn ∨ y.o = some b) (k * factN m + k') so yy w10 w') ?_ ?_
            · refine wpIn_region_any hmx ?_
              change wpAnyIn _ _ _ _ _ _ _ _ _ (World.drew _)
              refine wpAnyIn_ready (rs := [0, 1, 3]) (by kernel_rfl) (by simp) ?_
              refine AllReadyIn.cons rfl (fun K hK => ?_) ?_
              · skip
                go_simp
                refine hK _ _ ?_
                clear hK K
                refine wpAnyIn_ready (rs := [1, 3]) (by kernel_rfl) (by simp) ?_
                refine AllReadyIn.cons rfl (fun K hK => ?_) ?_
                · skip
                  go_simp
                  refine hK _ _ ?_
                  clear hK K
                  refine wpAnyIn_ready (rs := [2, 3]) (by kernel_rfl) (by simp) ?_
                  refine AllReadyIn.cons rfl (fun K hK => ?_) ?_
                  · skip
                    go_simp
                    refine hK _ _ ?_
                    clear hK K
                    refine wpAnyIn_ready (rs := [3]) (by kernel_rfl) (by simp) ?_
                    refine AllReadyIn.cons rfl (fun K hK => ?_) ?_
                    · skip
                      go_simp
                      refine hK _ _ ?_
                      clear hK K
                      refine wpAnyIn_ready (rs := [4]) (by kernel_rfl) (by simp) ?_
                      refine AllReadyIn.cons rfl (fun K hK => ?_) ?_
                      · skip
                        refine stepIn_append rfl (.tmp 33) (.tmp 34) 38 38 rfl _ _ hrun ?_
                        refine hK _ _ ?_
                        clear hK K
                        refine wpAnyIn_ready (rs := [5]) (by kernel_rfl) (by simp) ?_
                        refine AllReadyIn.cons rfl (fun K hK => ?_) ?_
                        · skip
                          refine stepIn_yield rfl (.tmp 31) (.tmp 35) l #[38] rfl rfl _ rfl (fun h => by cases h) HYT.out ?_
                          rintro e w11 ⟨rfl, hAf⟩
                          refine ⟨_, rfl, hK _ _ ?_⟩
                          clear hK K
                          refine wpAnyIn_ready (rs := [6]) (by kernel_rfl) (by simp) ?_
                          refine AllReadyIn.cons rfl (fun K hK => ?_) ?_
                          · skip
                            go_simp
                            refine hK _ _ ?_
                            clear hK K
                            refine wpAnyIn_done (by kernel_rfl) ?_ _
                            exact ⟨rfl, hAf⟩
                          exact AllReadyIn.nil
                        exact AllReadyIn.nil
                      exact AllReadyIn.nil
                    exact AllReadyIn.nil
                  refine AllReadyIn.cons rfl (fun K hK => ?_) ?_
                  · skip
                    go_simp
                    refine hK _ _ ?_
                    clear hK K
                    refine wpAnyIn_ready (rs := [2]) (by kernel_rfl) (by simp) ?_
                    refine AllReadyIn.cons rfl (fun K hK => ?_) ?_
                    · skip
                      go_simp
                      refine hK _ _ ?_
                      clear hK K
                      refine wpAnyIn_ready (rs := [4]) (by kernel_rfl) (by simp) ?_
                      refine AllReadyIn.cons rfl (fun K hK => ?_) ?_
                      · skip
                        refine stepIn_append rfl (.tmp 33) (.tmp 34) 38 38 rfl _ _ hrun ?_
                        refine hK _ _ ?_
                        clear hK K
                        refine wpAnyIn_ready (rs := [5]) (by kernel_rfl) (by simp) ?_
                        refine AllReadyIn.cons rfl (fun K hK => ?_) ?_
                        · skip
                          refine stepIn_yield rfl (.tmp 31) (.tmp 35) l #[38] rfl rfl _ rfl (fun h => by cases h) HYT.out ?_
                          rintro e w11 ⟨rfl, hAf⟩
                          refine ⟨_, rfl, hK _ _ ?_⟩
                          clear hK K
                          refine wpAnyIn_ready (rs := [6]) (by kernel_rfl) (by simp) ?_
                          refine AllReadyIn.cons rfl (fun K hK => ?_) ?_
                          · skip
                            go_simp
                            refine hK _ _ ?_
                            clear hK K
                            refine wpAnyIn_done (by kernel_rfl) ?_ _
                            exact ⟨rfl, hAf⟩
                          exact AllReadyIn.nil
                        exact AllReadyIn.nil
                      exact AllReadyIn.nil
                    exact AllReadyIn.nil
                  exact AllReadyIn.nil
                refine AllReadyIn.cons rfl (fun K hK => ?_) ?_
                · skip
                  go_simp
                  refine hK _ _ ?_
                  clear hK K
                  refine wpAnyIn_ready (rs := [1]) (by kernel_rfl) (by simp) ?_
                  refine AllReadyIn.cons rfl (fun K hK => ?_) ?_
                  · skip
                    go_simp
                    refine hK _ _ ?_
                    clear hK K
                    refine wpAnyIn_ready (rs := [2]) (by kernel_rfl) (by simp) ?_
                    refine AllReadyIn.cons rfl (fun K hK => ?_) ?_
                    · skip
                      go_simp
                      refine hK _ _ ?_
                      clear hK K
                      refine wpAnyIn_ready (rs := [4]) (by kernel_rfl) (by simp) ?_
                      refine AllReadyIn.cons rfl (fun K hK => ?_) ?_
                      · skip
                        refine stepIn_append rfl (.tmp 33) (.tmp 34) 38 38 rfl _ _ hrun ?_
                        refine hK _ _ ?_
                        clear hK K
                        refine wpAnyIn_ready (rs := [5]) (by kernel_rfl) (by simp) ?_
                        refine AllReadyIn.cons rfl (fun K hK => ?_) ?_
                        · skip
                          refine stepIn_yield rfl (.tmp 31) (.tmp 35) l #[38] rfl rfl _ rfl (fun h => by cases h) HYT.out ?_
                          rintro e w11 ⟨rfl, hAf⟩
                          refine ⟨_, rfl, hK _ _ ?_⟩
                          clear hK K
                          refine wpAnyIn_ready (rs := [6]) (by kernel_rfl) (by simp) ?_
                          refine AllReadyIn.cons rfl (fun K hK => ?_) ?_
                          · skip
                            go_simp
                            refine hK _ _ ?_
                            clear hK K
                            refine wpAnyIn_done (by kernel_rfl) ?_ _
                            exact ⟨rfl, hAf⟩
                          exact AllReadyIn.nil
                        exact AllReadyIn.nil
                      exact AllReadyIn.nil
                    exact AllReadyIn.nil
                  exact AllReadyIn.nil
                exact AllReadyIn.nil
              refine AllReadyIn.cons rfl (fun K hK => ?_) ?_
              · skip
                go_simp
                refine hK _ _ ?_
                clear hK K
                refine wpAnyIn_ready (rs := [0, 2, 3]) (by kernel_rfl) (by simp) ?_
                refine AllReadyIn.cons rfl (fun K hK => ?_) ?_
                · skip
                  go_simp
                  refine hK _ _ ?_
                  clear hK K
                  refine wpAnyIn_ready (rs := [2, 3]) (by kernel_rfl) (by simp) ?_
                  refine AllReadyIn.cons rfl (fun K hK => ?_) ?_
                  · skip
                    go_simp
                    refine hK _ _ ?_
                    clear hK K
                    refine wpAnyIn_ready (rs := [3]) (by kernel_rfl) (by simp) ?_
                    refine AllReadyIn.cons rfl (fun K hK => ?_) ?_
                    · skip
                      go_simp
                      refine hK _ _ ?_
                      clear hK K
                      refine wpAnyIn_ready (rs := [4]) (by kernel_rfl) (by simp) ?_
                      refine AllReadyIn.cons rfl (fun K hK => ?_) ?_
                      · skip
                        refine stepIn_append rfl (.tmp 33) (.tmp 34) 38 38 rfl _ _ hrun ?_
                        refine hK _ _ ?_
                        clear hK K
                        refine wpAnyIn_ready (rs := [5]) (by kernel_rfl) (by simp) ?_
                        refine AllReadyIn.cons rfl (fun K hK => ?_) ?_
                        · skip
                          refine stepIn_yield rfl (.tmp 31) (.tmp 35) l #[38] rfl rfl _ rfl (fun h => by cases h) HYT.out ?_
                          rintro e w11 ⟨rfl, hAf⟩
                          refine ⟨_, rfl, hK _ _ ?_⟩
                          clear hK K
                          refine wpAnyIn_ready (rs := [6]) (by kernel_rfl) (by simp) ?_
                          refine AllReadyIn.cons rfl (fun K hK => ?_) ?_
                          · skip
                            go_simp
                            refine hK _ _ ?_
                            clear hK K
                            refine wpAnyIn_done (by kernel_rfl) ?_ _
                            exact ⟨rfl, hAf⟩
                          exact AllReadyIn.nil
                        exact AllReadyIn.nil
                      exact AllReadyIn.nil
                    exact AllReadyIn.nil
                  refine AllReadyIn.cons rfl (fun K hK => ?_) ?_
                  · skip
                    go_simp
                    refine hK _ _ ?_
                    clear hK K
                    refine wpAnyIn_ready (rs := [2]) (by kernel_rfl) (by simp) ?_
                    refine AllReadyIn.cons rfl (fun K hK => ?_) ?_
                    · skip
                      go_simp
                      refine hK _ _ ?_
                      clear hK K
                      refine wpAnyIn_ready (rs := [4]) (by kernel_rfl) (by simp) ?_
                      refine AllReadyIn.cons rfl (fun K hK => ?_) ?_
                      · skip
                        refine stepIn_append rfl (.tmp 33) (.tmp 34) 38 38 rfl _ _ hrun ?_
                        refine hK _ _ ?_
                        clear hK K
                        refine wpAnyIn_ready (rs := [5]) (by kernel_rfl) (by simp) ?_
                        refine AllReadyIn.cons rfl (fun K hK => ?_) ?_
                        · skip
                          refine stepIn_yield rfl (.tmp 31) (.tmp 35) l #[38] rfl rfl _ rfl (fun h => by cases h) HYT.out ?_
                          rintro e w11 ⟨rfl, hAf⟩
                          refine ⟨_, rfl, hK _ _ ?_⟩
                          clear hK K
                          refine wpAnyIn_ready (rs := [6]) (by kernel_rfl) (by simp) ?_
                          refine AllReadyIn.cons rfl (fun K hK => ?_) ?_
                          · skip
                            go_simp
                            refine hK _ _ ?_
                            clear hK K
                            refine wpAnyIn_done (by kernel_rfl) ?_ _
                            exact ⟨rfl, hAf⟩
                          exact AllReadyIn.nil
                        exact AllReadyIn.nil
                      exact AllReadyIn.nil
                    exact AllReadyIn.nil
                  exact AllReadyIn.nil
                refine AllReadyIn.cons rfl (fun K hK => ?_) ?_
                · skip
                  go_simp
                  refine hK _ _ ?_
                  clear hK K
                  refine wpAnyIn_ready (rs := [0, 3]) (by kernel_rfl) (by simp) ?_
                  refine AllReadyIn.cons rfl (fun K hK => ?_) ?_
                  · skip
                    go_simp
                    refine hK _ _ ?_
                    clear hK K
                    refine wpAnyIn_ready (rs := [3]) (by kernel_rfl) (by simp) ?_
                    refine AllReadyIn.cons rfl (fun K hK => ?_) ?_
                    · skip
                      go_simp
                      refine hK _ _ ?_
                      clear hK K
                      refine wpAnyIn_ready (rs := [4]) (by kernel_rfl) (by simp) ?_
                      refine AllReadyIn.cons rfl (fun K hK => ?_) ?_
                      · skip
                        refine stepIn_append rfl (.tmp 33) (.tmp 34) 38 38 rfl _ _ hrun ?_
                        refine hK _ _ ?_
                        clear hK K
                        refine wpAnyIn_ready (rs := [5]) (by kernel_rfl) (by simp) ?_
                        refine AllReadyIn.cons rfl (fun K hK => ?_) ?_
                        · skip
                          refine stepIn_yield rfl (.tmp 31) (.tmp 35) l #[38] rfl rfl _ rfl (fun h => by cases h) HYT.out ?_
                          rintro e w11 ⟨rfl, hAf⟩
                          refine ⟨_, rfl, hK _ _ ?_⟩
                          clear hK K
                          refine wpAnyIn_ready (rs := [6]) (by kernel_rfl) (by simp) ?_
                          refine AllReadyIn.cons rfl (fun K hK => ?_) ?_
                          · skip
                            go_simp
                            refine hK _ _ ?_
                            clear hK K
                            refine wpAnyIn_done (by kernel_rfl) ?_ _
                            exact ⟨rfl, hAf⟩
                          exact AllReadyIn.nil
                        exact AllReadyIn.nil
                      exact AllReadyIn.nil
                    exact AllReadyIn.nil
                  refine AllReadyIn.cons rfl (fun K hK => ?_) ?_
                  · skip
                    go_simp
                    refine hK _ _ ?_
                    clear hK K
                    refine wpAnyIn_ready (rs := [0, 4]) (by kernel_rfl) (by simp) ?_
                    refine AllReadyIn.cons rfl (fun K hK => ?_) ?_
                    · skip
                      go_simp
                      refine hK _ _ ?_
                      clear hK K
                      refine wpAnyIn_ready (rs := [4]) (by kernel_rfl) (by simp) ?_
                      refine AllReadyIn.cons rfl (fun K hK => ?_) ?_
                      · skip
                        refine stepIn_append rfl (.tmp 33) (.tmp 34) 38 38 rfl _ _ hrun ?_
                        refine hK _ _ ?_
                        clear hK K
                        refine wpAnyIn_ready (rs := [5]) (by kernel_rfl) (by simp) ?_
                        refine AllReadyIn.cons rfl (fun K hK => ?_) ?_
                        · skip
                          refine stepIn_yield rfl (.tmp 31) (.tmp 35) l #[38] rfl rfl _ rfl (fun h => by cases h) HYT.out ?_
                          rintro e w11 ⟨rfl, hAf⟩
                          refine ⟨_, rfl, hK _ _ ?_⟩
                          clear hK K
                          refine wpAnyIn_ready (rs := [6]) (by kernel_rfl) (by simp) ?_
                          refine AllReadyIn.cons rfl (fun K hK => ?_) ?_
                          · skip
                            go_simp
                            refine hK _ _ ?_
                            clear hK K
                            refine wpAnyIn_done (by kernel_rfl) ?_ _
                            exact ⟨rfl, hAf⟩
                          exact AllReadyIn.nil
                        exact AllReadyIn.nil
                      exact AllReadyIn.nil
                    refine AllReadyIn.cons rfl (fun K hK => ?_) ?_
                    · skip
                      refine stepIn_append rfl (.tmp 33) (.tmp 34) 38 38 rfl _ _ hrun ?_
                      refine hK _ _ ?_
                      clear hK K
                      refine wpAnyIn_ready (rs := [0]) (by kernel_rfl) (by simp) ?_
                      refine AllReadyIn.cons rfl (fun K hK => ?_) ?_
                      · skip
                        go_simp
                        refine hK _ _ ?_
                        clear hK K
                        refine wpAnyIn_ready (rs := [5]) (by kernel_rfl) (by simp) ?_
                        refine AllReadyIn.cons rfl (fun K hK => ?_) ?_
                        · skip
                          refine stepIn_yield rfl (.tmp 31) (.tmp 35) l #[38] rfl rfl _ rfl (fun h => by cases h) HYT.out ?_
                          rintro e w11 ⟨rfl, hAf⟩
                          refine ⟨_, rfl, hK _ _ ?_⟩
                          clear hK K
                          refine wpAnyIn_ready (rs := [6]) (by kernel_rfl) (by simp) ?_
                          refine AllReadyIn.cons rfl (fun K hK => ?_) ?_
                          · skip
                            go_simp
                            refine hK _ _ ?_
                            clear hK K
                            refine wpAnyIn_done (by kernel_rfl) ?_ _
                            exact ⟨rfl, hAf⟩
                          exact AllReadyIn.nil
                        exact AllReadyIn.nil
                      exact AllReadyIn.nil
                    exact AllReadyIn.nil
                  exact AllReadyIn.nil
                refine AllReadyIn.cons rfl (fun K hK => ?_) ?_
                · skip
                  go_simp
                  refine hK _ _ ?_
                  clear hK K
                  refine wpAnyIn_ready (rs := [0, 2]) (by kernel_rfl) (by simp) ?_
                  refine AllReadyIn.cons rfl (fun K hK => ?_) ?_
                  · skip
                    go_simp
                    refine hK _ _ ?_
                    clear hK K
                    refine wpAnyIn_ready (rs := [2]) (by kernel_rfl) (by simp) ?_
                    refine AllReadyIn.cons rfl (fun K hK => ?_) ?_
                    · skip
                      go_simp
                      refine hK _ _ ?_
                      clear hK K
                      refine wpAnyIn_ready (rs := [4]) (by kernel_rfl) (by simp) ?_
                      refine AllReadyIn.cons rfl (fun K hK => ?_) ?_
                      · skip
                        refine stepIn_append rfl (.tmp 33) (.tmp 34) 38 38 rfl _ _ hrun ?_
                        refine hK _ _ ?_
                        clear hK K
                        refine wpAnyIn_ready (rs := [5]) (by kernel_rfl) (by simp) ?_
                        refine AllReadyIn.cons rfl (fun K hK => ?_) ?_
                        · skip
                          refine stepIn_yield rfl (.tmp 31) (.tmp 35) l #[38] rfl rfl _ rfl (fun h => by cases h) HYT.out ?_
                          rintro e w11 ⟨rfl, hAf⟩
                          refine ⟨_, rfl, hK _ _ ?_⟩
                          clear hK K
                          refine wpAnyIn_ready (rs := [6]) (by kernel_rfl) (by simp) ?_
                          refine AllReadyIn.cons rfl (fun K hK => ?_) ?_
                          · skip
                            go_simp
                            refine hK _ _ ?_
                            clear hK K
                            refine wpAnyIn_done (by kernel_rfl) ?_ _
                            exact ⟨rfl, hAf⟩
                          exact AllReadyIn.nil
                        exact AllReadyIn.nil
                      exact AllReadyIn.nil
                    exact AllReadyIn.nil
                  refine AllReadyIn.cons rfl (fun K hK => ?_) ?_
                  · skip
                    go_simp
                    refine hK _ _ ?_
                    clear hK K
                    refine wpAnyIn_ready (rs := [0, 4]) (by kernel_rfl) (by simp) ?_
                    refine AllReadyIn.cons rfl (fun K hK => ?_) ?_
                    · skip
                      go_simp
                      refine hK _ _ ?_
                      clear hK K
                      refine wpAnyIn_ready (rs := [4]) (by kernel_rfl) (by simp) ?_
                      refine AllReadyIn.cons rfl (fun K hK => ?_) ?_
                      · skip
                        refine stepIn_append rfl (.tmp 33) (.tmp 34) 38 38 rfl _ _ hrun ?_
                        refine hK _ _ ?_
                        clear hK K
                        refine wpAnyIn_ready (rs := [5]) (by kernel_rfl) (by simp) ?_
                        refine AllReadyIn.cons rfl (fun K hK => ?_) ?_
                        · skip
                          refine stepIn_yield rfl (.tmp 31) (.tmp 35) l #[38] rfl rfl _ rfl (fun h => by cases h) HYT.out ?_
                          rintro e w11 ⟨rfl, hAf⟩
                          refine ⟨_, rfl, hK _ _ ?_⟩
                          clear hK K
                          refine wpAnyIn_ready (rs := [6]) (by kernel_rfl) (by simp) ?_
                          refine AllReadyIn.cons rfl (fun K hK => ?_) ?_
                          · skip
                            go_simp
                            refine hK _ _ ?_
                            clear hK K
                            refine wpAnyIn_done (by kernel_rfl) ?_ _
                            exact ⟨rfl, hAf⟩
                          exact AllReadyIn.nil
                        exact AllReadyIn.nil
                      exact AllReadyIn.nil
                    refine AllReadyIn.cons rfl (fun K hK => ?_) ?_
                    · skip
                      refine stepIn_append rfl (.tmp 33) (.tmp 34) 38 38 rfl _ _ hrun ?_
                      refine hK _ _ ?_
                      clear hK K
                      refine wpAnyIn_ready (rs := [0]) (by kernel_rfl) (by simp) ?_
                      refine AllReadyIn.cons rfl (fun K hK => ?_) ?_
                      · skip
                        go_simp
                        refine hK _ _ ?_
                        clear hK K
                        refine wpAnyIn_ready (rs := [5]) (by kernel_rfl) (by simp) ?_
                        refine AllReadyIn.cons rfl (fun K hK => ?_) ?_
                        · skip
                          refine stepIn_yield rfl (.tmp 31) (.tmp 35) l #[38] rfl rfl _ rfl (fun h => by cases h) HYT.out ?_
                          rintro e w11 ⟨rfl, hAf⟩
                          refine ⟨_, rfl, hK _ _ ?_⟩
                          clear hK K
                          refine wpAnyIn_ready (rs := [6]) (by kernel_rfl) (by simp) ?_
                          refine AllReadyIn.cons rfl (fun K hK => ?_) ?_
                          · skip
                            go_simp
                            refine hK _ _ ?_
                            clear hK K
                            refine wpAnyIn_done (by kernel_rfl) ?_ _
                            exact ⟨rfl, hAf⟩
                          exact AllReadyIn.nil
                        exact AllReadyIn.nil
                      exact AllReadyIn.nil
                    exact AllReadyIn.nil
                  exact AllReadyIn.nil
                exact AllReadyIn.nil
              refine AllReadyIn.cons rfl (fun K hK => ?_) ?_
              · skip
                go_simp
                refine hK _ _ ?_
                clear hK K
                refine wpAnyIn_ready (rs := [0, 1]) (by kernel_rfl) (by simp) ?_
                refine AllReadyIn.cons rfl (fun K hK => ?_) ?_
                · skip
                  go_simp
                  refine hK _ _ ?_
                  clear hK K
                  refine wpAnyIn_ready (rs := [1]) (by kernel_rfl) (by simp) ?_
                  refine AllReadyIn.cons rfl (fun K hK => ?_) ?_
                  · skip
                    go_simp
                    refine hK _ _ ?_
                    clear hK K
                    refine wpAnyIn_ready (rs := [2]) (by kernel_rfl) (by simp) ?_
                    refine AllReadyIn.cons rfl (fun K hK => ?_) ?_
                    · skip
                      go_simp
                      refine hK _ _ ?_
                      clear hK K
                      refine wpAnyIn_ready (rs := [4]) (by kernel_rfl) (by simp) ?_
                      refine AllReadyIn.cons rfl (fun K hK => ?_) ?_
                      · skip
                        refine stepIn_append rfl (.tmp 33) (.tmp 34) 38 38 rfl _ _ hrun ?_
                        refine hK _ _ ?_
                        clear hK K
                        refine wpAnyIn_ready (rs := [5]) (by kernel_rfl) (by simp) ?_
                        refine AllReadyIn.cons rfl (fun K hK => ?_) ?_
                        · skip
                          refine stepIn_yield rfl (.tmp 31) (.tmp 35) l #[38] rfl rfl _ rfl (fun h => by cases h) HYT.out ?_
                          rintro e w11 ⟨rfl, hAf⟩
                          refine ⟨_, rfl, hK _ _ ?_⟩
                          clear hK K
                          refine wpAnyIn_ready (rs := [6]) (by kernel_rfl) (by simp) ?_
                          refine AllReadyIn.cons rfl (fun K hK => ?_) ?_
                          · skip
                            go_simp
                            refine hK _ _ ?_
                            clear hK K
                            refine wpAnyIn_done (by kernel_rfl) ?_ _
                            exact ⟨rfl, hAf⟩
                          exact AllReadyIn.nil
                        exact AllReadyIn.nil
                      exact AllReadyIn.nil
                    exact AllReadyIn.nil
                  exact AllReadyIn.nil
                refine AllReadyIn.cons rfl (fun K hK => ?_) ?_
                · skip
                  go_simp
                  refine hK _ _ ?_
                  clear hK K
                  refine wpAnyIn_ready (rs := [0, 2]) (by kernel_rfl) (by simp) ?_
                  refine AllReadyIn.cons rfl (fun K hK => ?_) ?_
                  · skip
                    go_simp
                    refine hK _ _ ?_
                    clear hK K
                    refine wpAnyIn_ready (rs := [2]) (by kernel_rfl) (by simp) ?_
                    refine AllReadyIn.cons rfl (fun K hK => ?_) ?_
                    · skip
                      go_simp
                      refine hK _ _ ?_
                      clear hK K
                      refine wpAnyIn_ready (rs := [4]) (by kernel_rfl) (by simp) ?_
                      refine AllReadyIn.cons rfl (fun K hK => ?_) ?_
                      · skip
                        refine stepIn_append rfl (.tmp 33) (.tmp 34) 38 38 rfl _ _ hrun ?_
                        refine hK _ _ ?_
                        clear hK K
                        refine wpAnyIn_ready (rs := [5]) (by kernel_rfl) (by simp) ?_
                        refine AllReadyIn.cons rfl (fun K hK => ?_) ?_
                        · skip
                          refine stepIn_yield rfl (.tmp 31) (.tmp 35) l #[38] rfl rfl _ rfl (fun h => by cases h) HYT.out ?_
                          rintro e w11 ⟨rfl, hAf⟩
                          refine ⟨_, rfl, hK _ _ ?_⟩
                          clear hK K
                          refine wpAnyIn_ready (rs := [6]) (by kernel_rfl) (by simp) ?_
                          refine AllReadyIn.cons rfl (fun K hK => ?_) ?_
                          · skip
                            go_simp
                            refine hK _ _ ?_
                            clear hK K
                            refine wpAnyIn_done (by kernel_rfl) ?_ _
                            exact ⟨rfl, hAf⟩
                          exact AllReadyIn.nil
                        exact AllReadyIn.nil
                      exact AllReadyIn.nil
                    exact AllReadyIn.nil
                  refine AllReadyIn.cons rfl (fun K hK => ?_) ?_
                  · skip
                    go_simp
                    refine hK _ _ ?_
                    clear hK K
                    refine wpAnyIn_ready (rs := [0, 4]) (by kernel_rfl) (by simp) ?_
                    refine AllReadyIn.cons rfl (fun K hK => ?_) ?_
                    · skip
                      go_simp
                      refine hK _ _ ?_
                      clear hK K
                      refine wpAnyIn_ready (rs := [4]) (by kernel_rfl) (by simp) ?_
                      refine AllReadyIn.cons rfl (fun K hK => ?_) ?_
                      · skip
                        refine stepIn_append rfl (.tmp 33) (.tmp 34) 38 38 rfl _ _ hrun ?_
                        refine hK _ _ ?_
                        clear hK K
                        refine wpAnyIn_ready (rs := [5]) (by kernel_rfl) (by simp) ?_
                        refine AllReadyIn.cons rfl (fun K hK => ?_) ?_
                        · skip
                          refine stepIn_yield rfl (.tmp 31) (.tmp 35) l #[38] rfl rfl _ rfl (fun h => by cases h) HYT.out ?_
                          rintro e w11 ⟨rfl, hAf⟩
                          refine ⟨_, rfl, hK _ _ ?_⟩
                          clear hK K
                          refine wpAnyIn_ready (rs := [6]) (by kernel_rfl) (by simp) ?_
                          refine AllReadyIn.cons rfl (fun K hK => ?_) ?_
                          · skip
                            go_simp
                            refine hK _ _ ?_
                            clear hK K
                            refine wpAnyIn_done (by kernel_rfl) ?_ _
                            exact ⟨rfl, hAf⟩
                          exact AllReadyIn.nil
                        exact AllReadyIn.nil
                      exact AllReadyIn.nil
                    refine AllReadyIn.cons rfl (fun K hK => ?_) ?_
                    · skip
                      refine stepIn_append rfl (.tmp 33) (.tmp 34) 38 38 rfl _ _ hrun ?_
                      refine hK _ _ ?_
                      clear hK K
                      refine wpAnyIn_ready (rs := [0]) (by kernel_rfl) (by simp) ?_
                      refine AllReadyIn.cons rfl (fun K hK => ?_) ?_
                      · skip
                        go_simp
                        refine hK _ _ ?_
                        clear hK K
                        refine wpAnyIn_ready (rs := [5]) (by kernel_rfl) (by simp) ?_
                        refine AllReadyIn.cons rfl (fun K hK => ?_) ?_
                        · skip
                          refine stepIn_yield rfl (.tmp 31) (.tmp 35) l #[38] rfl rfl _ rfl (fun h => by cases h) HYT.out ?_
                          rintro e w11 ⟨rfl, hAf⟩
                          refine ⟨_, rfl, hK _ _ ?_⟩
                          clear hK K
                          refine wpAnyIn_ready (rs := [6]) (by kernel_rfl) (by simp) ?_
                          refine AllReadyIn.cons rfl (fun K hK => ?_) ?_
                          · skip
                            go_simp
                            refine hK _ _ ?_
                            clear hK K
                            refine wpAnyIn_done (by kernel_rfl) ?_ _
                            exact ⟨rfl, hAf⟩
                          exact AllReadyIn.nil
                        exact AllReadyIn.nil
                      exact AllReadyIn.nil
                    exact AllReadyIn.nil
                  exact AllReadyIn.nil
                exact AllReadyIn.nil
              exact AllReadyIn.nil
            · rintro e a' w11 hq
              cases e <;> first | exact hq.elim | skip
              obtain ⟨rfl, so', j2, h3, b3, R3, Q3⟩ := hq
              gi_wp2
              have hB := HB10.out
              have hzB := hB.size
              have MX : ∀ b, M b → b < X.heap.size := fun b hb => by have := ((HM.out b).1 hb).1; omega
              have yyb : ∀ b, yy.o = some b → X.heap.size ≤ b := fun b hb => (HYO.out.lt hb).2
              have roX : ∀ b, (b = Bn ∨ y.o = some b) → b < X.heap.size := fun b hb => by have := roW b hb; omega
              have keep : ∀ b, b < X.heap.size → ¬ so b → w11.heap[b]? = X.heap[b]? := fun b hb hs => (R3.block b ⟨by omega, hs, fun e => by have := yyb b e; omega⟩).trans (hB.block b hb)
              have mm' : ∀ b, M b → w11.heap[b]? = V4.heap[b]? := fun b hb => (keep b (MX b hb) (fun h => e2 b h hb)).trans (mm b hb)
              have hs11 : X.heap.size ≤ w11.heap.size := by have := R3.size; omega
              refine ⟨fun b => so' b ∨ M b ∨ (b = Bn ∨ y.o = some b), ⟨⟨so', j2, fun b => Iff.rfl, fun b hb hm => ?_, b3⟩, mm', ?_, by omega⟩, ?_, ?_, ?_, ?_⟩
              · rcases h3 b hb with h | h | h
                · exact e2 b h hm
                · have := MX b hm; omega
                · have := MX b hm; have := yyb b h; omega
              · exact (rr.trans (Rest.of hB roX)).trans Q3
              · rintro b (h | h | h)
                · rcases h3 b h with h | h | h
                  · exact Or.inl ((e1 b).2 (Or.inl h))
                  · exact Or.inr (Or.inl (by omega))
                  · exact Or.inr (Or.inl (yyb b h))
                · exact Or.inl ((e1 b).2 (Or.inr (Or.inl h)))
                · exact Or.inl ((e1 b).2 (Or.inr (Or.inr h)))
              · rintro b (h | h | h)
                · exact b3 b h
                · have := MX b h; omega
                · have := roX b h; omega
              · exact ⟨R3.os.trans hB.os, R3.tape.trans hB.tape, R3.output.trans hB.output, hs11, fun b hb => keep b hb.1 (fun h => hb.2.1 ((e1 b).2 (Or.inl h)))⟩
              · refine ⟨R3.os.trans hB.os, R3.tape.trans hB.tape, R3.output.trans hB.output, hs11, fun b hb => ?_⟩
                have hMb : M b := by
                  refine (HM.out b).2 ?_
                  rcases hb with rfl | hb
                  · exact ⟨by omega, fun h => by have := sbd _ h; omega⟩
                  · have := xlt b hb; exact ⟨by omega, fun h => by have := sbd _ h; omega⟩
                exact (mm' b hMb).trans (mm b hMb).symm
          case done =>
            rintro D s0 X hD ⟨⟨so, j1, e1, e2, e3⟩, mm, rr, sz⟩ hnD hbd hdf
            have lY := lt_of_block HI.out.yb
            have mY : M W.heap.size := by rw [hM]; exact ⟨by have := BV4.size; omega, HI.out.ny⟩
            have bY := (mm _ mY).trans ((BV4.block _ lY).trans HI.out.yb)
            have mD : ∀ D' ∈ ds, M D' := fun D' h => by rw [hM]; exact ⟨by have := lt_of_block (HI.out.dd D' h); have := BV4.size; omega, HI.out.ns D' h⟩
            rw [hlen] at j1
            have hO : InvO J (fun b => b = Bn ∨ y.o = some b) W (factN m) W.heap.size l (k + 1) so (D :: ds) X := by
              refine ⟨by rw [Nat.add_mul, Nat.one_mul]; exact j1, e3, rr, bY, fun h => e2 _ h mY, fun D' h => ?_, List.nodup_cons.2 ⟨fun h => ?_, HI.out.nd⟩, fun D' h => ?_⟩
              · rcases List.mem_cons.1 h with rfl | h
                · exact hdf
                · exact (mm _ (mD D' h)).trans ((BV4.block _ (lt_of_block (HI.out.dd D' h))).trans (HI.out.dd D' h))
              · have := mD D h; rw [hM] at this; have := this.1; omega
              · rcases List.mem_cons.1 h with rfl | h
                · exact fun h => hnD ((e1 _).2 (Or.inl h))
                · exact fun h' => e2 _ h' (mD D' h)
            gi_wp2
            exact ⟨⟨k + 1, _, so, D :: ds, _, _, _, _, _, _, _, _, _, _, _, _, _, _, _, _, _, _, _, _, _, _, _, _, _, _, _, _, by go_num, by omega, hO, rfl⟩, by simp [intOf]; omega⟩
      · have e : k = N := by omega
        subst e
        have hkN : k = m + 1 := HN.out.2
        gi_wp2
        refine leaves_marks ds _ HI.out.dd HI.out.nd (fun W' hR hz => ?_)
        refine ⟨_, results_none rfl _ _ _, ⟨_, rfl⟩, s, ?_, fun b hb => by have := HI.out.bd b hb; omega⟩
        have e2 : (turnsL (m + 1) y.l).length = k * factN m := by rw [turnsL_len (m + 1) y.l (by have := HN.out.1; omega), hkN]; rfl
        rw [e2]
        exact hJ _ _ _ _ HI.out.jk (hR.sub fun b hb h => HI.out.ns b h hb)

end Go.Proofs.Ytgiodpjaglhgdaa
