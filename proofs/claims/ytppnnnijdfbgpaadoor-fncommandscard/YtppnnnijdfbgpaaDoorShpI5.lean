/- The program's commandOf. -/
import Derived.Test.YtppnnnijdfbgpaaDoorShpI2
import Derived.Test.YtppnnnijdfbgpaaDoorCmdR
import Derived.Test.YtppnnnijdfbgpaaDoorInts
import Derived.Test.YtppnnnijdfbgpaaDoorCopy2
namespace Go.Proofs.YtppnnnijdfbgpaaDoor
open Go.RowKit

theorem sizedI1 : (Tryd.prog.info? 2).map (·.size) = some 1 := by kernel_rfl
theorem three_cells (zs : List Int) : ((#[Value.int .i64 0, Value.int .i64 0, Value.int .i64 0] : Array Value).toList.take 0 ++ (zs.take 3).map (Value.int .i64) ++ (#[Value.int .i64 0, Value.int .i64 0, Value.int .i64 0] : Array Value).toList.drop (0 + ((zs.take 3).map (Value.int .i64)).length)).toArray = #[.int .i64 (zg zs 0), .int .i64 (zg zs 1), .int .i64 (zg zs 2)] := by
  match zs with
  | [] => rfl
  | [_] => rfl
  | [_, _] => rfl
  | _ :: _ :: _ :: _ => rfl

theorem run_copy3 {w : World} (ty : TypeId) (B base : Nat) (v : Value) (zs : List Int) (own : w.ownsRow base 2 1 v zs.length (zs.map (Value.int .i64)))
    (hg : w.heap[B]? = some (.cells #[.int .i64 0, .int .i64 0, .int .i64 0] 43 (0, 0))) :
    ∃ (w' : World) (r : Value), (Builtin.copy_ #[45, 45] ty #[.slice (some ⟨B, 0, none⟩) 3 3, v]).run Tryd.prog w = .ok r w' ∧ w'.heap[B]? = some (.cells #[.int .i64 (zg zs 0), .int .i64 (zg zs 1), .int .i64 (zg zs 2)] 43 (0, 0)) ∧ Only B w w' := by
  by_cases h0 : zs = []
  · subst h0
    refine ⟨w, goInt 0, ?_, hg, Only.refl _ _⟩
    rcases own.2 with ⟨rfl, _⟩ | ⟨g, cap, cur, rfl, _⟩
    · exact run_copy_noneK (P := Tryd.prog) 1 w 45 45 ty 2 (some ⟨B, 0, none⟩) none 3 3 0 0 Tryd.underlying45 sizedI1 rfl
    · exact run_copy_noneK (P := Tryd.prog) 1 w 45 45 ty 2 (some ⟨B, 0, none⟩) (some ⟨g, 0, none⟩) 3 3 0 cap Tryd.underlying45 sizedI1 rfl
  · have hl : 0 < zs.length := by cases zs with | nil => exact absurd rfl h0 | cons _ _ => simp
    rcases own.2 with ⟨_, e⟩ | ⟨g, cap, cur, rfl, _, hgg, h1, _, hcs, hx⟩
    · omega
    · obtain ⟨⟨cur', hb, hn, hat⟩, _⟩ := own_ints own
      have hrun := run_copy_rowK (P := Tryd.prog) 1 w 45 45 ty 2 B 0 3 3 ⟨g, 0, none⟩ zs.length cap (Nat.min zs.length 3) #[.int .i64 0, .int .i64 0, .int .i64 0] 43 ((zs.take 3).map (Value.int .i64)) Tryd.underlying45 sizedI1 hg rfl
        (by rw [List.length_map, List.length_take]; show min 3 zs.length = min zs.length 3 * 1; omega)
        (fun j u hj => by
          have hjl : j < 3 ∧ j < zs.length := by
            have : j < ((zs.take 3).map (Value.int .i64)).length := by
              rcases Nat.lt_or_ge j ((zs.take 3).map (Value.int .i64)).length with h | h
              · exact h
              · rw [List.getElem?_eq_none h] at hj; cases hj
            simp at this; omega
          have e : u = .int .i64 (zg zs j) := by
            simp [hjl.1, hjl.2] at hj
            rw [← hj]; simp [zg, hjl.2]
          have hadd : (⟨g, 0, none⟩ : Addr).add j = ⟨g, j, none⟩ := by unfold Addr.add; split <;> simp_all
          rw [e, hadd, cell_of_row _ _ _ _ _ _ hb]
          exact hat j hjl.2)
        (by simp; omega)
        (fun u hu => by obtain ⟨z, _, rfl⟩ := List.mem_map.1 hu; rfl)
      rw [three_cells] at hrun
      exact ⟨_, _, hrun, setRow_heap w B _ _ _ _ hg, ⟨rfl, rfl, rfl, by simp [World.setRow], fun k hk => setRow_other w B k _ hk⟩⟩

set_option maxHeartbeats 1000000 in
theorem commandOf_any (kd : Nat) (base : Nat) (v : Value) (zs : List Int) (w : World) (own : w.ownsRow base 2 1 v zs.length (zs.map (Value.int .i64))) :
    Calls Tryd.prog 27 #[.int .i64 kd, v] w fun e w' => e = .returned (.agg #[.int .i64 kd, .int .i64 (zg zs 0), .int .i64 (zg zs 1), .int .i64 (zg zs 2)]) ∧ Below w.heap.size w w' := by
  obtain ⟨W0, hW0⟩ : ∃ W0, W0 = w.alloc (.cells #[.int .i64 0, .int .i64 0, .int .i64 0, .int .i64 0] 25) := ⟨_, rfl⟩
  have B0 : Below w.heap.size w W0 := by rw [hW0]; exact box_below
  have X0 : W0.heap[w.heap.size]? = some (.cells #[.int .i64 0, .int .i64 0, .int .i64 0, .int .i64 0] 25 (0, 0)) := by rw [hW0]; exact heap_alloc_new _ _
  have l0 := lt_of_block X0
  obtain ⟨W1, hW1⟩ : ∃ W1, W1 = W0.alloc (.cells #[.int .i64 0, .int .i64 0, .int .i64 0] 43) := ⟨_, rfl⟩
  have B1 : Below w.heap.size w W1 := by rw [hW1]; exact B0.alloc B0.size _
  have Y1 : W1.heap[W0.heap.size]? = some (.cells #[.int .i64 0, .int .i64 0, .int .i64 0] 43 (0, 0)) := by rw [hW1]; exact heap_alloc_new _ _
  have X1 : W1.heap[w.heap.size]? = some (.cells #[.int .i64 0, .int .i64 0, .int .i64 0, .int .i64 0] 25 (0, 0)) := by rw [hW1]; exact (Below.heap_alloc _ _ _ l0).trans X0
  have own1 : W1.ownsRow base 2 1 v zs.length (zs.map (Value.int .i64)) := ownI_below own B1
  obtain ⟨W2, r, hcp, Y2, ho⟩ := run_copy3 3 W0.heap.size base v zs own1 Y1
  have X2 : W2.heap[w.heap.size]? = some (.cells #[.int .i64 0, .int .i64 0, .int .i64 0, .int .i64 0] 25 (0, 0)) := (ho.block _ (by omega)).trans X1
  have B2 : Below w.heap.size w W2 := B1.trans (ho.below B0.size)
  clear X0 X1 Y1 own1 ho l0
  obtain ⟨c0, c1, c2⟩ : W2.cell? ⟨W0.heap.size, 0, none⟩ = some (.int .i64 (zg zs 0)) ∧ W2.cell? ⟨W0.heap.size, 1, none⟩ = some (.int .i64 (zg zs 1)) ∧ W2.cell? ⟨W0.heap.size, 2, none⟩ = some (.int .i64 (zg zs 2)) := by simp [World.cell?, Y2]
  obtain ⟨⟨d0, d1, d2, d3⟩, f0, f1, f2, f3⟩ := boxed4 X2
  have HX : Hid (∀ v0 v1 v2 v3 : Value, ((((W2.setCell ⟨w.heap.size, 0, none⟩ v0).setCell ⟨w.heap.size, 1, none⟩ v1).setCell ⟨w.heap.size, 2, none⟩ v2).setCell ⟨w.heap.size, 3, none⟩ v3).heap[w.heap.size]? = some (.cells #[v0, v1, v2, v3] 25 (0, 0))) := fun v0 v1 v2 v3 => setAll4 X2 v0 v1 v2 v3
  have HB : Hid (∀ v0 v1 v2 v3 : Value, Below w.heap.size w ((((W2.setCell ⟨w.heap.size, 0, none⟩ v0).setCell ⟨w.heap.size, 1, none⟩ v1).setCell ⟨w.heap.size, 2, none⟩ v2).setCell ⟨w.heap.size, 3, none⟩ v3)) := fun v0 v1 v2 v3 => below4 B2 (Nat.le_refl _) v0 v1 v2 v3
  clear X2 Y2
  go_enter Tryd.func27, Tryd.ntmps27
  go_upto_region 1 with fail
  rw [← hW0]
  clear hW0
  go_upto_region 2 with fail
  rw [← hW1]
  clear hW1
  go_wp2
  refine bodyPost_ret (results_cell_row rfl _ _ w.heap.size _ _ _ _ rfl (HX.out _ _ _ _) Tryd.underlying25 rfl sizedCmd) rfl ?_
  exact ⟨rfl, HB.out _ _ _ _⟩

end Go.Proofs.YtppnnnijdfbgpaaDoor
