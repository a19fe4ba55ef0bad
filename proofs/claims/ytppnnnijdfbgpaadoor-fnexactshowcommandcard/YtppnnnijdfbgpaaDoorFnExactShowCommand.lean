/- For every input that can be read, where the listed tables hold what their initialisers lay (the card ties that to the program's text), the law FnExactShowCommand returns true, and what it was handed reads as before. The frame is the kit's worked card over a table; the walk is ours. -/
import Derived.OpenVars
import Derived.ChangeVars
import Derived.Lib.LaidU8
import Derived.Test.YtppnnnijdfbgpaaDoorCards
import Derived.Test.YtppnnnijdfbgpaaDoorTie
import Derived.WalkKit
import Derived.ProofKit
import Derived.OpenShut
import Derived.Deep.DeepHandedRow
import Derived.Lib.LaidTab
import Derived.Stop.LaidErr
import Derived.ChangeOld
import Derived.Below
import Derived.Test.YtppnnnijdfbgpaaDoorCmdT
import Derived.Test.YtppnnnijdfbgpaaDoorCommandOpen
import Derived.Test.YtppnnnijdfbgpaaDoorCmdI
import Derived.Lib.SmallJoins
namespace Go.Proofs.YtppnnnijdfbgpaaDoor.fnExactShowCommand
open Go.ChangeShapes Go.WideShapes Go.ChangeAt Go.RowKit
set_option linter.unusedVariables false

theorem own : ownKnob Tryd.prog.godebug = none := by kernel_rfl
theorem laidOut : laidOutB Tryd.prog = true := by kernel_rfl
theorem g0 : Tryd.prog.globalNamed "math/bits.deBruijn32tab" = some 2 := by kernel_rfl
theorem gt0 : (Tryd.prog.globals[2]?).map (·.type) = some 87 := by kernel_rfl
theorem cells87 : Tryd.prog.cellsOf 87 = 32 := by kernel_rfl
theorem cells5 : Tryd.prog.cellsOf 5 = 1 := by kernel_rfl
def zs0 : List Int := [0, 1, 28, 2, 29, 14, 24, 3, 30, 22, 20, 15, 25, 17, 4, 8, 31, 27, 13, 23, 21, 19, 16, 7, 26, 12, 18, 6, 11, 5, 10, 9]
theorem table0 {W : World} (h : laidMet Tryd.prog Rows.fnExactShowCommandRow.laid W) : Lib.TabIs Tryd.prog W "math/bits.deBruijn32tab" .u8 zs0 :=
  Lib.tabIs_of_head g0 gt0 Tryd.underlying87 Tryd.underlying5 cells5 cells87 h
theorem g1 : Tryd.prog.globalNamed "math/bits.deBruijn64tab" = some 3 := by kernel_rfl
theorem gt1 : (Tryd.prog.globals[3]?).map (·.type) = some 88 := by kernel_rfl
theorem cells88 : Tryd.prog.cellsOf 88 = 64 := by kernel_rfl
def zs1 : List Int := [0, 1, 56, 2, 57, 49, 28, 3, 61, 58, 42, 50, 38, 29, 17, 4, 62, 47, 59, 36, 45, 43, 51, 22, 53, 39, 33, 30, 24, 18, 12, 5, 63, 55, 48, 27, 60, 41, 37, 16, 46, 35, 44, 21, 52, 32, 23, 11, 54, 26, 40, 15, 34, 20, 31, 10, 25, 14, 19, 9, 13, 8, 7, 6]
theorem table1 {W : World} (h : laidMet Tryd.prog Rows.fnExactShowCommandRow.laid W) : Lib.TabIs Tryd.prog W "math/bits.deBruijn64tab" .u8 zs1 :=
  Lib.tabIs_of_head g1 gt1 Tryd.underlying88 Tryd.underlying5 cells5 cells88 (laidMet.tail h)
theorem g2 : Tryd.prog.globalNamed "internal/strconv.uint64pow10" = some 1 := by kernel_rfl
theorem gt2 : (Tryd.prog.globals[1]?).map (·.type) = some 80 := by kernel_rfl
theorem cells80 : Tryd.prog.cellsOf 80 = 20 := by kernel_rfl
theorem cells71 : Tryd.prog.cellsOf 71 = 1 := by kernel_rfl
def zs2 : List Int := [1, 10, 100, 1000, 10000, 100000, 1000000, 10000000, 100000000, 1000000000, 10000000000, 100000000000, 1000000000000, 10000000000000, 100000000000000, 1000000000000000, 10000000000000000, 100000000000000000, 1000000000000000000, 10000000000000000000]
theorem table2 {W : World} (h : laidMet Tryd.prog Rows.fnExactShowCommandRow.laid W) : Lib.TabIs Tryd.prog W "internal/strconv.uint64pow10" .u64 zs2 :=
  Lib.tabIs_of_head g2 gt2 Tryd.underlying80 Tryd.underlying71 cells71 cells80 (laidMet.tail (laidMet.tail h))
theorem table3 {W : World} (h : laidMet Tryd.prog Rows.fnExactShowCommandRow.laid W) : ShIs W := shIs_of rfl (Lib.laidMet.reads h (.tail _ (.tail _ (.tail _ (.head _)))))

set_option maxHeartbeats 1000000 in
theorem walk (j0 : Cm) (w : World) (w0 : cmwf j0) (tab0 : Lib.TabIs Tryd.prog w "math/bits.deBruijn32tab" .u8 zs0) (tab1 : Lib.TabIs Tryd.prog w "math/bits.deBruijn64tab" .u8 zs1) (tab2 : Lib.TabIs Tryd.prog w "internal/strconv.uint64pow10" .u64 zs2) (tab3 : ShIs w) :
    Calls Tryd.prog 5 #[.agg #[.int .i64 j0.kind, .int .i64 j0.a, .int .i64 j0.b, .int .i64 j0.c]] w fun e w' => e = .returned (.bool true) ∧ Below w.heap.size w w' := by
  obtain ⟨k, a, b, c⟩ := j0
  simp only
  have HT : Hid (ShT w) := ⟨tab3, tab2⟩
  clear tab0 tab1 tab2 tab3
  obtain ⟨sh, hsh⟩ : ∃ sh, sh = if cmB k a b c = true then cmSh k a b c else [] := ⟨_, rfl⟩
  have CS := fun W => specShowCommand_any k a b c W
  have CI := fun W h => showCommand_t k a b c W h
  rw [← hsh] at CS CI
  clear hsh
  go_enter Tryd.func5, Tryd.ntmps5
  go_wp2_with fail
  refine (toCommand_any _ _ _ _ _).mono ?_
  rintro e w1 ⟨rfl, U1⟩
  go_wp2_with fail
  refine (CS _).mono ?_
  rintro e w2 ⟨rfl, hb2⟩
  have U2 := U1.then hb2 U1.size
  obtain ⟨p0, p1, p2, p3, hz2⟩ := box4_cells U2
  go_wp2_with fail
  refine (toCommand_any _ _ _ _ _).mono ?_
  rintro e w3 ⟨rfl, hb3⟩
  have U3 := U2.then hb3 U2.size
  have V3 := (box_below (w := w)).then U3 (by simp)
  have H3 : Hid (ShT w3) := HT.out.keep V3
  go_wp2_with fail
  refine (CI _ H3.out).mono ?_
  rintro e w4 ⟨rfl, hb4⟩
  have V4 := V3.then hb4 V3.size
  go_wp2
  go_ret
  exact ⟨rfl, V4⟩

/-- What the walk gives, for every argument and every world that holds the tables. -/
theorem contract (H : Type) (enc : TypeId × Value → H) (W : World) (base : Nat) (args : Array Value) (ds gs : List (DataW H)) (before : List MemPlace)
    (hval : ∀ (j : Nat) t v, Tryd.f5.params[j]? = some t → args[j]? = some v → Value.okWide Tryd.prog W .any base t v)
    (hW : DataW.Whole enc Tryd.prog Tryd.f5.params.toList Rows.fnExactShowCommandSpec.vars false W args.toList ds gs before) (hL : laidMet Tryd.prog Rows.fnExactShowCommandRow.laid W) :
    Calls Tryd.prog 5 args W fun e W' => ∃ v, e = .returned v ∧ Rows.fnExactShowCommandSpec.post enc Tryd.prog Tryd.f5 false true false false W args v W' := by
  have hW' := hW
  obtain ⟨p, q, hA0, hV, rfl, hfz, hnd⟩ := hW
  have hA : DataW.TrodAll enc Tryd.prog W 0 (fun _ => true) true Tryd.f5.params.toList args.toList ds p := hA0
  rw [Tryd.params5] at hA hval
  obtain ⟨v0, vs0, d0, ds0, p0, q0, hargs, rfl, rfl, h0, r0⟩ := trodAll_cons hA
  obtain ⟨rfl, rfl, rfl⟩ := trodAll_nil r0
  obtain rfl : args = #[v0] := by cases args; simp_all
  have hV2 := hV
  obtain ⟨gv, gt9, gcs, gfu, dg, pg, rfl, _, _, _, _, _⟩ := trodVars_one hV
  have k0 := h0
  have lt0 : ∀ x ∈ p0, x.block < W.heap.size := by obtain ⟨m, hm⟩ := k0; exact DataW.trod_lt m _ _ _ hm
  obtain ⟨j0, rfl, w0⟩ := open_cm (hval 0 32 v0 rfl rfl) h0
  clear hA0
  refine (walk j0 W w0 (table0 hL) (table1 hL) (table2 hL) (table3 hL)).mono fun e W' ⟨he, hg⟩ => ?_
  subst he
  exact ⟨_, rfl, _, _, _, [], _, _, hW', trodAll_mk1 (shut_bool Tryd.underlying4 _), (trodAll_cons_mk (Below.trod laidOut (by kernel_rfl) (of_decide_eq_true (by kernel_rfl)) k0 hg lt0) trodAll_mk0), Below.trodVars laidOut hg (by kernel_rfl) hV2, hg.frame _, fun h => by cases h⟩

/-- A world for the witness: the settled one, the tables holding what their initialisers lay. -/
def laidHeap (h : Array Obj) : Array Obj :=
  (((h.modify 2 fun | .cells _ t frozen => .cells (zs0.map (Value.int .u8)).toArray t frozen | x => x).modify 3 fun | .cells _ t frozen => .cells (zs1.map (Value.int .u8)).toArray t frozen | x => x).modify 1 fun | .cells _ t frozen => .cells (zs2.map (Value.int .u64)).toArray t frozen | x => x).modify 0 fun | .cells _ t frozen => .cells shL.toArray t frozen | x => x
noncomputable def laidWorld (os : Os) : World :=
  { World.holding Tryd.prog os ⟨#[], #[], []⟩ with heap := laidHeap (World.holding Tryd.prog os ⟨#[], #[], []⟩).heap }
theorem laid_met (os : Os) : laidMet Tryd.prog Rows.fnExactShowCommandRow.laid ((laidWorld os).forCall (fun _ _ => 0) ⟨#[], #[.agg #[.int .i64 0, .int .i64 0, .int .i64 0, .int .i64 0]], []⟩).memory :=
  laidMet_of_run' 8 (by kernel_rfl) (by kernel_rfl)
theorem reads0 (os : Os) {H : Type} (enc : TypeId × Value → H) : (DataW.whole enc Tryd.prog ((laidWorld os).forCall (fun _ _ => 0) ⟨#[], #[.agg #[.int .i64 0, .int .i64 0, .int .i64 0, .int .i64 0]], []⟩).memory Tryd.f5.params.toList Rows.fnExactShowCommandSpec.vars false (#[.agg #[.int .i64 0, .int .i64 0, .int .i64 0, .int .i64 0]] : Array Value).toList 8).map (fun x => (x.1, x.2.1)) = some ([.agg [.lit (.int .i64 0), .lit (.int .i64 0), .lit (.int .i64 0), .lit (.int .i64 0)]], [Rows.laid_loop_example_g00255_impl_shapes]) := by kernel_rfl
theorem reads (os : Os) {H : Type} (enc : TypeId × Value → H) : ∃ places, DataW.whole enc Tryd.prog ((laidWorld os).forCall (fun _ _ => 0) ⟨#[], #[.agg #[.int .i64 0, .int .i64 0, .int .i64 0, .int .i64 0]], []⟩).memory Tryd.f5.params.toList Rows.fnExactShowCommandSpec.vars false (#[.agg #[.int .i64 0, .int .i64 0, .int .i64 0, .int .i64 0]] : Array Value).toList 8 = some ([.agg [.lit (.int .i64 0), .lit (.int .i64 0), .lit (.int .i64 0), .lit (.int .i64 0)]], [Rows.laid_loop_example_g00255_impl_shapes], places) := by
  obtain ⟨⟨a, b, c⟩, h1, h2⟩ := Option.map_eq_some_iff.1 (reads0 os enc)
  simp only [Prod.mk.injEq] at h2
  obtain ⟨rfl, rfl⟩ := h2
  exact ⟨c, h1⟩

set_option maxRecDepth 100000 in
theorem lifted (os : Os) (started : os.Started) (H : Type) (enc : TypeId × Value → H) (F : Stop.Interp) :
    ReturnsInHanded {} Tryd.checked os 5 .any ((OpenSpec.ofChange Rows.fnExactShowCommandSpec).preRow enc Tryd.prog Tryd.f5 Rows.fnExactShowCommandRow.domain false Rows.fnExactShowCommandRow.laid) (((OpenSpec.ofChange Rows.fnExactShowCommandSpec).at F).post enc Tryd.prog Tryd.f5 false true false false) := by
  obtain ⟨places, hx⟩ := reads os enc
  refine returnsInHanded_of_row (C := Tryd.checked) (s := (OpenSpec.ofChange Rows.fnExactShowCommandSpec)) own started (by kernel_rfl) Tryd.func5
    (witness_row_at (enc := enc) (C := Tryd.checked) false (laidWorld os) #[.agg #[.int .i64 0, .int .i64 0, .int .i64 0, .int .i64 0]] rfl (by kernel_rfl) (by kernel_rfl) (by kernel_rfl)
      (OpenSpec.preRow_of_cond 8 hx (by kernel_rfl) (fun k hk => by cases hk) (by kernel_rfl) (laid_met os))) ?_
  intro W base args ds gs before hval hW _ _ _ hL _ _
  exact contract H enc W base args ds gs before hval hW hL

theorem said : Rows.FnExactShowCommandSaid :=
  OpenClaim.holds_of_cond 5 Tryd.f5 rfl rfl rfl rfl rfl rfl rfl ⟨rfl, rfl, rfl, rfl, rfl⟩ rfl rfl rfl rfl rfl (by kernel_rfl) Tryd.func5 (by kernel_rfl)
    (of_decide_eq_true (by kernel_rfl)) (by unfold Func.isWrapper; first | (rw [if_pos (by decide +kernel)]; kernel_rfl) | (rw [if_neg (by decide +kernel)]; exact ⟨rfl, rfl⟩))
    (fun os started H enc _ F => by rw [OpenClaim.pre_eq_preRow]; exact lifted os started H enc F)

theorem plain (f : FuncId) (fn : Func) (hf : Tryd.pinned.checked.prog.funcNamed "loop.example/g00255/laws.FnExactShowCommand" = some f) (hfn : Tryd.pinned.checked.prog.funcs[f]? = some fn) :
    false = Tryd.pinned.checked.prog.looks [] ∧ ∀ (j : Nat) t, fn.params[j]? = some t → Tryd.pinned.checked.prog.wantsStandIn t = false := by
  obtain rfl : f = 5 := Option.some.inj ((show Tryd.prog.funcNamed "loop.example/g00255/laws.FnExactShowCommand" = some 5 by kernel_rfl).symm.trans hf) |>.symm
  obtain rfl : fn = Tryd.f5 := (Option.some.inj (Tryd.func5.symm.trans hfn)).symm
  refine ⟨by kernel_rfl, fun j t ht => ?_⟩
  rw [Tryd.params5] at ht
  obtain rfl : t = 32 := by simpa using Array.mem_of_getElem? ht
  exact (show Tryd.prog.wantsStandIn 32 = false by kernel_rfl)

/-- the given statement -/
theorem card : Rows.FnExactShowCommandCardSaid :=
  Claim7.holds_tied_plain_at .later [] _ _ _ _ said (fun _ h => by cases h) (by kernel_rfl) (fun _ h => by cases h) fnExactShowCommand_row_tie rfl ⟨rfl, rfl⟩ (by kernel_rfl) rfl plain (by kernel_rfl)
#print axioms card
end Go.Proofs.YtppnnnijdfbgpaaDoor.fnExactShowCommand
