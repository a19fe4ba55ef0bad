/- From the row's condition (the listed table reads as its initialiser lays it) to the table's cells. -/
import Derived.Test.YtppnnnijdfbgpaaDoorShpI
import Derived.Lib.LaidU8
namespace Go.Proofs.YtppnnnijdfbgpaaDoor
open Go.Lib Go.ChangeShapes

theorem shC9 : Tryd.prog.cellsOf 9 = 1 := by kernel_rfl
theorem shC2 : Tryd.prog.cellsOf 2 = 1 := by kernel_rfl
theorem shC38 : Tryd.prog.cellsOf 38 = 2 := by kernel_rfl
theorem shC39 : Tryd.prog.cellsOf 39 = 6 := by kernel_rfl
theorem shC41 : Tryd.prog.cellsOf 41 = 7 := by kernel_rfl
theorem shC42 : Tryd.prog.cellsOf 42 = 56 := by kernel_rfl

section
variable {H : Type} {enc : TypeId × Value → H} {w : World} {base : Nat} {sp : Nat → Bool} {held : Bool}
def shD (s : List UInt8) (x0 y0 x1 y1 x2 y2 : Int) : DataW H := .agg [.lit (.string s), .agg [.agg [.lit (.int .i64 x0), .lit (.int .i64 y0)], .agg [.lit (.int .i64 x1), .lit (.int .i64 y1)], .agg [.lit (.int .i64 x2), .lit (.int .i64 y2)]]]
theorem shRow_cells {fuel : Nat} {cs : List Value} {s : List UInt8} {x0 y0 x1 y1 x2 y2 : Int} {p : List MemPlace}
    (h : DataW.trod enc Tryd.prog w base sp held fuel 41 cs = some (shD s x0 y0 x1 y1 x2 y2, p)) :
    cs = [.string ⟨s.toArray⟩, .int .i64 x0, .int .i64 y0, .int .i64 x1, .int .i64 y1, .int .i64 x2, .int .i64 y2] := by
  obtain ⟨xs, n, rfl, hx, hl, hxl, hall⟩ := DataW.trod_struct Tryd.underlying41 h
  rw [shC41] at hl
  have hx2 : xs.map (·.1) = [.lit (.string s), .agg [.agg [.lit (.int .i64 x0), .lit (.int .i64 y0)], .agg [.lit (.int .i64 x1), .lit (.int .i64 y1)], .agg [.lit (.int .i64 x2), .lit (.int .i64 y2)]]] := by
    have := congrArg Prod.fst hx
    simpa [shD] using this.symm
  obtain ⟨z0, z1, rfl⟩ : ∃ z0 z1, xs = [z0, z1] := by
    match xs, hx2 with
    | [z0, z1], _ => exact ⟨z0, z1, rfl⟩
  simp only [List.map_cons, List.map_nil, List.cons.injEq, and_true] at hx2
  obtain ⟨e0, e1⟩ := hx2
  have f0 := hall 0 _ rfl
  have f1 := hall 1 _ rfl
  change DataW.trod _ _ _ _ _ _ _ 9 ((cs.drop 0).take (Tryd.prog.cellsOf 9)) = some z0 at f0
  change DataW.trod _ _ _ _ _ _ _ 39 ((cs.drop 1).take (Tryd.prog.cellsOf 39)) = some z1 at f1
  rw [shC9] at f0
  rw [shC39] at f1
  have g0 : cs[0]? = some (.string ⟨s.toArray⟩) := by
    obtain ⟨b, hb, hx', _⟩ := DataW.trod_string Tryd.underlying9 f0
    rw [hx'] at e0
    cases e0
    have := congrArg (·[0]?) hb
    simpa [List.getElem?_take, List.getElem?_drop] using this
  obtain ⟨y1', q1⟩ := z1
  simp only at e1
  subst e1
  have gd : ∀ (i : Nat) (a b : Int), i < 3 → ([DataW.agg [DataW.lit (.int .i64 x0), .lit (.int .i64 y0)], .agg [.lit (.int .i64 x1), .lit (.int .i64 y1)], .agg [.lit (.int .i64 x2), .lit (.int .i64 y2)]] : List (DataW H))[i]? = some (.agg [.lit (.int .i64 a), .lit (.int .i64 b)]) → cs[1 + 2 * i]? = some (.int .i64 a) ∧ cs[2 + 2 * i]? = some (.int .i64 b) := by
    intro i a b hi hd
    obtain ⟨fuel', d, q, hdi, he⟩ := array_elem Tryd.underlying39 f1 i hi
    rw [hd] at hdi
    cases hdi
    rw [shC38] at he
    have hcs := ints_of_struct (zs := [a, b]) Tryd.underlying38 (fun j f hj => by
      match j, hj with
      | 0, hj => simp at hj; subst hj; exact ⟨Tryd.underlying2, rfl, shC2⟩
      | 1, hj => simp at hj; subst hj; exact ⟨Tryd.underlying2, rfl, shC2⟩
      | j + 2, hj => simp at hj) (by rw [shC38]; rfl) he
    have k0 := congrArg (·[0]?) hcs
    have k1 := congrArg (·[1]?) hcs
    obtain rfl | rfl | rfl : i = 0 ∨ i = 1 ∨ i = 2 := by omega
    all_goals
      simp [List.getElem?_drop] at k0 k1
      exact ⟨k0, k1⟩
  obtain ⟨a0, b0⟩ := gd 0 x0 y0 (by omega) rfl
  obtain ⟨a1, b1⟩ := gd 1 x1 y1 (by omega) rfl
  obtain ⟨a2, b2⟩ := gd 2 x2 y2 (by omega) rfl
  apply List.ext_getElem?
  intro i
  by_cases hi : i < 7
  · obtain rfl | rfl | rfl | rfl | rfl | rfl | rfl : i = 0 ∨ i = 1 ∨ i = 2 ∨ i = 3 ∨ i = 4 ∨ i = 5 ∨ i = 6 := by omega
    · exact g0
    · exact a0
    · exact b0
    · exact a1
    · exact b1
    · exact a2
    · exact b2
  · rw [List.getElem?_eq_none (by omega), List.getElem?_eq_none (by simp; omega)]
theorem sh_lenT {fuel : Nat} {cs : List Value} {x : DataW H × List MemPlace} (h : DataW.trod enc Tryd.prog w base sp held fuel 42 cs = some x) : cs.length = 56 := by
  cases fuel with
  | zero => simp [DataW.trod] at h
  | succ fuel =>
    simp only [DataW.trod, Tryd.underlying42, shC42] at h
    split at h
    · rename_i hl; exact hl
    · cases h
end

theorem shIs_of {W : World} {d : DataW Unit} (hd0 : d = Rows.laid_loop_example_g00255_impl_shapes) (h : VarReads Tryd.prog W "loop.example/g00255/impl.shapes" d) : ShIs W := by
  subst hd0
  obtain ⟨g, t, cs, fuel, p, hg, hty, hvar, hd⟩ := h
  obtain rfl := Option.some.inj (shNamed.symm.trans hg)
  obtain rfl : 42 = t := Option.some.inj ((show (Tryd.prog.globals[0]?).map (·.type) = some 42 by kernel_rfl).symm.trans hty)
  have hlen := sh_lenT hd
  have hrow : ∀ (i : Nat) (s : List UInt8) (x0 y0 x1 y1 x2 y2 : Int), i < 8 → (match (Rows.laid_loop_example_g00255_impl_shapes : DataW Unit) with | .agg ds => ds | _ => [])[i]? = some (shD s x0 y0 x1 y1 x2 y2) → (cs.toList.drop (i * 7)).take 7 = [.string ⟨s.toArray⟩, .int .i64 x0, .int .i64 y0, .int .i64 x1, .int .i64 y1, .int .i64 x2, .int .i64 y2] := by
    intro i s x0 y0 x1 y1 x2 y2 hi hd'
    obtain ⟨fuel', d, q, hdi, he⟩ := array_elem Tryd.underlying42 hd i hi
    rw [shC41] at he
    have e : some d = some (shD s x0 y0 x1 y1 x2 y2) := hdi.symm.trans hd'
    cases e
    exact shRow_cells he
  have r0 := hrow 0 [] 0 0 0 0 0 0 (by omega) rfl
  have r1 := hrow 1 [115, 117, 98, 109, 105, 116] 1 1000 1 10000 0 9 (by omega) rfl
  have r2 := hrow 2 [99, 97, 110, 99, 101, 108] 1 1000000 0 0 0 0 (by omega) rfl
  have r3 := hrow 3 [116, 105, 99, 107] 0 1000000000 0 0 0 0 (by omega) rfl
  have r4 := hrow 4 [100, 114, 97, 105, 110] 0 7 0 0 0 0 (by omega) rfl
  have r5 := hrow 5 [117, 112] 0 7 0 0 0 0 (by omega) rfl
  have r6 := hrow 6 [100, 111, 119, 110] 0 7 0 0 0 0 (by omega) rfl
  have r7 := hrow 7 [100, 111, 110, 101] 1 1000000 1 1000000 0 0 (by omega) rfl
  have step : ∀ (l : List Value) (n : Nat), l.drop n = (l.drop n).take 7 ++ l.drop (n + 7) := fun l n => by rw [← List.drop_drop, List.take_append_drop]
  have all : cs.toList = shL := by
    rw [show cs.toList = cs.toList.drop (0 * 7) from rfl, step, r0, show 0 * 7 + 7 = 1 * 7 from rfl, step, r1, show 1 * 7 + 7 = 2 * 7 from rfl, step, r2, show 2 * 7 + 7 = 3 * 7 from rfl, step, r3,
      show 3 * 7 + 7 = 4 * 7 from rfl, step, r4, show 4 * 7 + 7 = 5 * 7 from rfl, step, r5, show 5 * 7 + 7 = 6 * 7 from rfl, step, r6, show 6 * 7 + 7 = 7 * 7 from rfl, step, r7,
      List.drop_eq_nil_of_le (by omega)]
    rfl
  unfold ShIs
  rw [hvar]
  congr 1
  apply Array.ext'
  rw [all]

end Go.Proofs.YtppnnnijdfbgpaaDoor
