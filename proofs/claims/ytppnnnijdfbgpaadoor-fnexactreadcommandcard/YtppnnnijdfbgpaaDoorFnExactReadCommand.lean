/- For every input that can be read, where the listed tables hold what their initialisers lay (the card ties that to the program's text), the law FnExactReadCommand returns true, and what it was handed reads as before. The frame is the kit's worked card over a table; the walk is ours. -/
import Derived.OpenVars
import Derived.ChangeVars
import Derived.Lib.LaidU8
import Derived.Test.YtppnnnijdfbgpaaDoorCards
import Derived.Test.YtppnnnijdfbgpaaDoorTie
import Derived.WalkKit
import Derived.ProofKit
import Derived.OpenShut
import Derived.Deep.DeepHandedRow
import Derived.Lib.LaidTab
import Derived.Stop.LaidErr
import Derived.ChangeOld
import Derived.Below
import Derived.Test.YtppnnnijdfbgpaaDoorCmdR
import Derived.Test.YtppnnnijdfbgpaaDoorCommandOpen
import Derived.Test.YtppnnnijdfbgpaaDoorCmdI2
import Derived.Test.YtppnnnijdfbgpaaDoorCmdLaid
import Derived.Lib.SmallJoins
import Derived.ChangeMaps5
import Derived.Deep.Cut
import Derived.Deep.CutRange
namespace Go.Proofs.YtppnnnijdfbgpaaDoor.fnExactReadCommand
open Go.ChangeShapes Go.WideShapes Go.ChangeAt Go.RowKit
open Go.ChangeMaps
set_option linter.unusedVariables false

theorem own : ownKnob Tryd.prog.godebug = none := by kernel_rfl
theorem laidOut : laidOutB Tryd.prog = true := by kernel_rfl
theorem table0 {W : World} (h : laidMet Tryd.prog Rows.fnExactReadCommandRow.laid W) : ShIs W := shIs_of rfl (Lib.laidMet.reads h (.head _))

set_option maxHeartbeats 1000000 in
theorem walk (s0 : ByteArray) (w : World) (w0 : s0.size ≤ maxLen) (tab0 : ShIs w) :
    Calls Tryd.prog 6 #[.string s0] w fun e w' => e = .returned (.bool true) ∧ Below w.heap.size w w' := by
  obtain ⟨l, rfl⟩ : ∃ l : List UInt8, s0 = ⟨l.toArray⟩ := ⟨s0.data.toList, by apply ByteArray.ext; simp⟩
  have HT : Hid (ShIs w) := tab0
  clear tab0
  have hsz := size_list l
  by_cases hl : l.length ≤ 1048576
  · have CS := fun W => specReadCommand_any l (by omega) W
    have CI := fun W h => implReadCommand_any l (by omega) W h
    have hno : ¬ 1048576 < (l.length : Int) := by omega
    generalize (⟨l.toArray⟩ : ByteArray) = bs at hsz CS CI w0 ⊢
    go_enter Tryd.func6, Tryd.ntmps6
    go_wp2_with fail
    refine (CS _).mono ?_
    rintro e w1 ⟨k, a, b, c, is, rfl, R1, hb1⟩
    have HR1 : Hid (IsRd l k a b c is) := R1
    clear R1
    obtain ⟨W2, hW2⟩ : ∃ W2, W2 = w1.alloc (.cells #[.int .i64 k, .int .i64 a, .int .i64 b, .int .i64 c] 25) := ⟨_, rfl⟩
    have V2 : Below w.heap.size w W2 := by rw [hW2]; exact hb1.alloc hb1.size _
    have y2 : W2.heap[w1.heap.size]? = some (.cells #[.int .i64 k, .int .i64 a, .int .i64 b, .int .i64 c] 25 (0, 0)) := by rw [hW2]; exact heap_alloc_new _ _
    have l2 := lt_of_block y2
    have H2 : Hid (ShIs W2) := HT.out.keep V2 HT.out.pos
    go_upto_region 4 with fail
    rw [← hW2]
    clear hW2
    generalize w1.heap.size = N at y2 l2 ⊢
    go_wp2_with fail
    refine (CI _ H2.out).mono ?_
    rintro e w3 ⟨k2, a2, b2, c2, is2, rfl, R2, hb3⟩
    obtain ⟨rfl, rfl, rfl, rfl, rfl⟩ := R2.uniq HR1.out
    clear CS CI H2 HT
    have V3 := V2.then hb3 V2.size
    have y3 := (hb3.block _ l2).trans y2
    have l3 := lt_of_block y3
    obtain ⟨W4, hW4⟩ : ∃ W4, W4 = w3.alloc (.cells #[.int .i64 k2, .int .i64 a2, .int .i64 b2, .int .i64 c2] 25) := ⟨_, rfl⟩
    have V4 : Below w.heap.size w W4 := by rw [hW4]; exact V3.alloc V3.size _
    have y4 : W4.heap[N]? = some (.cells #[.int .i64 k2, .int .i64 a2, .int .i64 b2, .int .i64 c2] 25 (0, 0)) := by rw [hW4]; exact ((box_below (w := w3)).block _ l3).trans y3
    have x4 : W4.heap[w3.heap.size]? = some (.cells #[.int .i64 k2, .int .i64 a2, .int .i64 b2, .int .i64 c2] 25 (0, 0)) := by rw [hW4]; exact heap_alloc_new _ _
    obtain ⟨⟨m0, m1, m2, m3⟩, _⟩ := boxed4 y4
    obtain ⟨⟨n0, n1, n2, n3⟩, _⟩ := boxed4 x4
    clear y2 y3 y4 x4
    go_upto_region 5 with fail
    rw [← hW4]
    clear hW4
    go_wp2_with fail
    refine (eqCommand_same _ _ _ _ _).mono ?_
    rintro e w5 ⟨rfl, hb5⟩
    have V5 := V4.then hb5 V4.size
    cases is2 with
    | true =>
      go_wp2_with fail
      go_ret
      exact ⟨rfl, V5⟩
    | false =>
      go_wp2_with fail
      go_ret
      exact ⟨rfl, V5⟩
  · have hno : 1048576 < (l.length : Int) := by omega
    generalize (⟨l.toArray⟩ : ByteArray) = bs at hsz w0 ⊢
    go_enter Tryd.func6, Tryd.ntmps6
    go_wp2_with fail
    go_ret
    exact ⟨rfl, Below.refl _ _⟩

/-- What the walk gives, for every argument and every world that holds the tables. -/
theorem contract (H : Type) (enc : TypeId × Value → H) (W : World) (base : Nat) (args : Array Value) (ds gs : List (DataW H)) (before : List MemPlace)
    (hval : ∀ (j : Nat) t v, Tryd.f6.params[j]? = some t → args[j]? = some v → Value.okWide Tryd.prog W .any base t v)
    (hW : DataW.Whole enc Tryd.prog Tryd.f6.params.toList Rows.fnExactReadCommandSpec.vars false W args.toList ds gs before) (hL : laidMet Tryd.prog Rows.fnExactReadCommandRow.laid W) :
    Calls Tryd.prog 6 args W fun e W' => ∃ v, e = .returned v ∧ Rows.fnExactReadCommandSpec.post enc Tryd.prog Tryd.f6 false true false false W args v W' := by
  have hW' := hW
  obtain ⟨p, q, hA0, hV, rfl, hfz, hnd⟩ := hW
  have hA : DataW.TrodAll enc Tryd.prog W 0 (fun _ => true) true Tryd.f6.params.toList args.toList ds p := hA0
  rw [Tryd.params6] at hA hval
  obtain ⟨v0, vs0, d0, ds0, p0, q0, hargs, rfl, rfl, h0, r0⟩ := trodAll_cons hA
  obtain ⟨rfl, rfl, rfl⟩ := trodAll_nil r0
  obtain rfl : args = #[v0] := by cases args; simp_all
  have hV2 := hV
  obtain ⟨gv, gt9, gcs, gfu, dg, pg, rfl, _, _, _, _, _⟩ := trodVars_one hV
  have k0 := h0
  have lt0 : ∀ x ∈ p0, x.block < W.heap.size := by obtain ⟨m, hm⟩ := k0; exact DataW.trod_lt m _ _ _ hm
  obtain ⟨s0, rfl, rfl, rfl, w0⟩ := open_string Tryd.underlying9 (hval 0 9 v0 rfl rfl) h0
  clear hA0
  refine (walk s0 W w0 (table0 hL)).mono fun e W' ⟨he, hg⟩ => ?_
  subst he
  exact ⟨_, rfl, _, _, _, [], _, _, hW', trodAll_mk1 (shut_bool Tryd.underlying4 _), (trodAll_cons_mk (Below.trod laidOut (by kernel_rfl) (of_decide_eq_true (by kernel_rfl)) k0 hg lt0) trodAll_mk0), Below.trodVars laidOut hg (by kernel_rfl) hV2, hg.frame _, fun h => by cases h⟩

/-- A world for the witness: the settled one, the tables holding what their initialisers lay. -/
def laidHeap (h : Array Obj) : Array Obj :=
  h.modify 0 fun | .cells _ t frozen => .cells shL.toArray t frozen | x => x
noncomputable def laidWorld (os : Os) : World :=
  { World.holding Tryd.prog os ⟨#[], #[], []⟩ with heap := laidHeap (World.holding Tryd.prog os ⟨#[], #[], []⟩).heap }
theorem laid_met (os : Os) : laidMet Tryd.prog Rows.fnExactReadCommandRow.laid ((laidWorld os).forCall (fun _ _ => 0) ⟨#[], #[.string ⟨#[]⟩], []⟩).memory :=
  laidMet_of_run' 8 (by kernel_rfl) (by kernel_rfl)
theorem reads0 (os : Os) {H : Type} (enc : TypeId × Value → H) : (DataW.whole enc Tryd.prog ((laidWorld os).forCall (fun _ _ => 0) ⟨#[], #[.string ⟨#[]⟩], []⟩).memory Tryd.f6.params.toList Rows.fnExactReadCommandSpec.vars false (#[.string ⟨#[]⟩] : Array Value).toList 8).map (fun x => (x.1, x.2.1)) = some ([.lit (.string [])], [Rows.laid_loop_example_g00255_impl_shapes]) := by kernel_rfl
theorem reads (os : Os) {H : Type} (enc : TypeId × Value → H) : ∃ places, DataW.whole enc Tryd.prog ((laidWorld os).forCall (fun _ _ => 0) ⟨#[], #[.string ⟨#[]⟩], []⟩).memory Tryd.f6.params.toList Rows.fnExactReadCommandSpec.vars false (#[.string ⟨#[]⟩] : Array Value).toList 8 = some ([.lit (.string [])], [Rows.laid_loop_example_g00255_impl_shapes], places) := by
  obtain ⟨⟨a, b, c⟩, h1, h2⟩ := Option.map_eq_some_iff.1 (reads0 os enc)
  simp only [Prod.mk.injEq] at h2
  obtain ⟨rfl, rfl⟩ := h2
  exact ⟨c, h1⟩

set_option maxRecDepth 100000 in
theorem lifted (os : Os) (started : os.Started) (H : Type) (enc : TypeId × Value → H) (F : Stop.Interp) :
    ReturnsInHanded {} Tryd.checked os 6 .any ((OpenSpec.ofChange Rows.fnExactReadCommandSpec).preRow enc Tryd.prog Tryd.f6 Rows.fnExactReadCommandRow.domain false Rows.fnExactReadCommandRow.laid) (((OpenSpec.ofChange Rows.fnExactReadCommandSpec).at F).post enc Tryd.prog Tryd.f6 false true false false) := by
  obtain ⟨places, hx⟩ := reads os enc
  refine returnsInHanded_of_row (C := Tryd.checked) (s := (OpenSpec.ofChange Rows.fnExactReadCommandSpec)) own started (by kernel_rfl) Tryd.func6
    (witness_row_at (enc := enc) (C := Tryd.checked) false (laidWorld os) #[.string ⟨#[]⟩] rfl (by kernel_rfl) (by kernel_rfl) (by kernel_rfl)
      (OpenSpec.preRow_of_cond 8 hx (by kernel_rfl) (fun k hk => by cases hk) (by kernel_rfl) (laid_met os))) ?_
  intro W base args ds gs before hval hW _ _ _ hL _ _
  exact contract H enc W base args ds gs before hval hW hL

theorem said : Rows.FnExactReadCommandSaid :=
  OpenClaim.holds_of_cond 6 Tryd.f6 rfl rfl rfl rfl rfl rfl rfl ⟨rfl, rfl, rfl, rfl, rfl⟩ rfl rfl rfl rfl rfl (by kernel_rfl) Tryd.func6 (by kernel_rfl)
    (of_decide_eq_true (by kernel_rfl)) (by unfold Func.isWrapper; first | (rw [if_pos (by decide +kernel)]; kernel_rfl) | (rw [if_neg (by decide +kernel)]; exact ⟨rfl, rfl⟩))
    (fun os started H enc _ F => by rw [OpenClaim.pre_eq_preRow]; exact lifted os started H enc F)

theorem plain (f : FuncId) (fn : Func) (hf : Tryd.pinned.checked.prog.funcNamed "loop.example/g00255/laws.FnExactReadCommand" = some f) (hfn : Tryd.pinned.checked.prog.funcs[f]? = some fn) :
    false = Tryd.pinned.checked.prog.looks [] ∧ ∀ (j : Nat) t, fn.params[j]? = some t → Tryd.pinned.checked.prog.wantsStandIn t = false := by
  obtain rfl : f = 6 := Option.some.inj ((show Tryd.prog.funcNamed "loop.example/g00255/laws.FnExactReadCommand" = some 6 by kernel_rfl).symm.trans hf) |>.symm
  obtain rfl : fn = Tryd.f6 := (Option.some.inj (Tryd.func6.symm.trans hfn)).symm
  refine ⟨by kernel_rfl, fun j t ht => ?_⟩
  rw [Tryd.params6] at ht
  obtain rfl : t = 9 := by simpa using Array.mem_of_getElem? ht
  exact (show Tryd.prog.wantsStandIn 9 = false by kernel_rfl)

/-- the given statement -/
theorem card : Rows.FnExactReadCommandCardSaid :=
  Claim7.holds_tied_plain_at .later [] _ _ _ _ said (fun _ h => by cases h) (by kernel_rfl) (fun _ h => by cases h) fnExactReadCommand_row_tie rfl ⟨rfl, rfl⟩ (by kernel_rfl) rfl plain (by kernel_rfl)
#print axioms card
end Go.Proofs.YtppnnnijdfbgpaaDoor.fnExactReadCommand
