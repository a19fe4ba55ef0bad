/- Several texts in one. -/
import Derived.Test.YtnbeaeekfahijaaHodM
import Derived.Test.YtnbeaeekfahijaaSelS2
import Derived.Deep.DeepAppendRoom
import Derived.Deep.RegionLaw
import Derived.Lib.SliceRun
import Derived.Test.YtnbeaeekfahijaaRuleI2
import Derived.Test.YtnbeaeekfahijaaJobDrawA
/- slices.Delete of one job out of a row of the call's own. -/
namespace Go.Proofs.Ytnbeaeekfahijaa
open Go.RowKit Go.Sort

theorem step_append_spare {P : Program} {ops : Array Oper} {o : Oper} {a : Act} {w : World} {K : Act → World → Prop} {Q : Exit → Act → World → Prop} {E : Prop}
    (hg : o.guard = none) (s x : Operand) (t : TypeId) (hop : o.op = Op.call { callee := Callee.builtin Builtin.append, args := #[s, x], argTypes := #[t, t] })
    (base : Nat) (e : TypeId) (i : TypeInfo) (size : Nat) (h1 : P.underlying t = some (.slice e)) (h2 : P.info? e = some i) (h4 : i.size = size)
    (g n cap : Nat) (xs : List Value) (hs : a.eval s = .slice (some ⟨g, 0, none⟩) n cap) (hown : w.ownsRow base e size (.slice (some ⟨g, 0, none⟩) n cap) n xs)
    (ad : Addr) (m c : Nat) (news : List Value) (hx : a.eval x = .slice (some ad) m c) (hn : news.length = m * size) (hc : ∀ j u, news[j]? = some u → w.cell? (ad.add j) = some u) (h1c : ∀ u ∈ news, u.oneCell' = true)
    (hroom : n + m ≤ cap)
    (hK : ∀ w', w'.ownsRow base e size (.slice (some ⟨g, 0, none⟩) (n + m) cap) (n + m) (xs ++ news) → w.grownBy w' (some g) → K (a.put o.dst (.slice (some ⟨g, 0, none⟩) (n + m) cap)) w') :
    if Region.wanted o (yielded ops a.tmps) = true then Oper.wp P o a w K Q else E := by
  have hw : Region.wanted o (yielded ops a.tmps) = true := by simp [Region.wanted, hg]
  rw [if_pos hw]
  obtain ⟨w', hrun, r1, r2⟩ := run_append_own_spare (P := P) w base t o.type e i size h1 h2 h4 g n cap xs hown ad m c news hn hc h1c hroom
  unfold Oper.wp
  simp [execOp, hop, resolve, invoke, builtin, hs, hx, hrun, Result.andThen]
  exact hK w' r1 r2

/-- 'clear' of one job -/
theorem run_clear_job (w : World) (ty : TypeId) (b o c : Nat) (hc : ∀ j, j < 7 → (w.cell? ⟨b, o + j, none⟩).isSome = true) (hf : ∀ j, j < 7 → w.frozen? ⟨b, o + j, none⟩ = false) :
    (Builtin.clear_ #[24] ty #[.slice (some ⟨b, o, none⟩) 1 c]).run Try.prog w = .ok (.tuple #[]) (w.setCells b o (List.replicate 7 (.int .i64 0))) := by
  have hst := run_storeCells_cells (P := Try.prog) b o (List.replicate 7 (.int .i64 0)) 0 w (by simpa using hc) (by simpa using hf) (by intro v hv; rw [List.eq_of_mem_replicate hv]; rfl)
  simp only [Nat.add_zero] at hst
  have hz : (Builtin.zeroCells (Value.agg #[.int .i64 0, .int .i64 0, .int .i64 0, .int .i64 0, .int .i64 0, .int .i64 0, .int .i64 0]).cells 1).toList = List.replicate 7 (.int .i64 0) := by kernel_rfl
  have e : List.replicate 7 (Value.int .i64 0) = [.int .i64 0, .int .i64 0, .int .i64 0, .int .i64 0, .int .i64 0, .int .i64 0, .int .i64 0] := rfl
  rw [e] at hst hz ⊢
  simp [Builtin.clear_, run_underlying Try.underlying24, hz, hst]

theorem OwnJ.beyond {w : World} {base g cap : Nat} {ys : List Jb} (h : OwnJ w base g cap ys) {o : Nat} (ho : ys.length * 7 ≤ o) (v : Value) : OwnJ (w.setCell ⟨g, o, none⟩ v) base g cap ys := by
  refine ⟨?_, h.le, h.mx, h.base, by simpa [World.setCell] using h.lt⟩
  refine ⟨h.own.1, ?_⟩
  rcases h.own.2 with ⟨e, _⟩ | ⟨g', cap', cur, e, hg, hgg, h1, h2, h3, h4⟩
  · cases e
  · injection e with e1 _ e3
    injection e1 with e1
    injection e1 with e1 _ _
    subst e1 e3
    refine .inr ⟨g, cap, _, rfl, hg, blk_set hgg _, h1, h2, by simpa using h3, ?_⟩
    rw [← h4, Array.toList_setIfInBounds, List.take_set_of_le ho]

/-- each cell of the row's room lies there -/
theorem OwnJ.room {w : World} {base g cap : Nat} {ys : List Jb} (h : OwnJ w base g cap ys) {o : Nat} (ho : o < cap * 7) : (w.cell? ⟨g, o, none⟩).isSome = true ∧ w.frozen? ⟨g, o, none⟩ = false := by
  rcases h.own.2 with ⟨e, _⟩ | ⟨g', cap', cur, e, hg, hgg, h1, h2, h3, h4⟩
  · cases e
  · injection e with e1 _ e3
    injection e1 with e1
    injection e1 with e1 _ _
    subst e1 e3
    exact ⟨by simp [World.cell?, hgg, show o < cur.size by omega], free_of_blk _ hgg⟩

theorem setCells_beyond {base g cap : Nat} {ys : List Jb} : ∀ (vs : List Value) (o : Nat) (w : World), OwnJ w base g cap ys → ys.length * 7 ≤ o → OwnJ (w.setCells g o vs) base g cap ys ∧ w.grownBy (w.setCells g o vs) (some g)
  | [], _, w, h, _ => ⟨h, ⟨rfl, rfl, rfl, Nat.le_refl _, fun _ _ _ => rfl⟩⟩
  | v :: r, o, w, h, ho => by
    obtain ⟨h1, h2⟩ := setCells_beyond r (o + 1) (w.setCell ⟨g, o, none⟩ v) (h.beyond ho v) (by omega)
    refine ⟨h1, ⟨h2.os, h2.tape, h2.output, Nat.le_trans (by simp [World.setCell]) h2.size, fun k hk hne => ?_⟩⟩
    have hkg : k ≠ g := fun e => hne (by rw [e])
    exact (h2.block k (by simpa [World.setCell] using hk) hne).trans (Below.heap_setCell _ _ _ _ hkg)

set_option maxRecDepth 8000 in
set_option maxHeartbeats 4000000 in
theorem delete_any (base g cap i : Nat) (K : List Jb) (w : World) (h : OwnJ w base g cap K) (hi : i < K.length) :
    Calls Try.prog 70 #[.slice (some ⟨g, 0, none⟩) K.length cap, .int .i64 i, .int .i64 (i + 1)] w fun e w' => e = .returned (.slice (some ⟨g, 0, none⟩) (K.length - 1) cap) ∧ OwnJ w' base g cap (K.eraseIdx i) ∧ w.grownBy w' (some g) := by
  obtain ⟨i1, hj, hj0, hj1, hj2⟩ := info_parts infoJ
  have hle := h.le
  have hmx := h.mx
  unfold maxLen at hmx
  have n1 : (i : Int) < (K.length : Int) := by omega
  have n2 : (i : Int) + 1 ≤ (K.length : Int) := by omega
  have n3 : (K.length : Int) ≤ (cap : Int) := by omega
  have n5 : ((i : Int) + 1).toNat = i + 1 := by omega
  have n6 : (i : Int) ≤ (cap : Int) := by omega
  have n7 : (0 : Int) ≤ (i : Int) := by omega
  have n8 : (0 : Int) ≤ (i : Int) + 1 := by omega
  have hne : ((i : Int) == (i : Int) + 1) = false := by rw [beq_eq_false_iff_ne]; omega
  have hd : w.drew.ownsRow base 31 7 (.slice (some ⟨g, 0, none⟩) i cap) i (jcells (K.take i)) := (h.below (Below.refl _ _).drew).pre (by omega)
  obtain ⟨ad, HA, HC⟩ : ∃ ad : Addr, (if cap = i + 1 then some (⟨g, 0, none⟩ : Addr) else some ⟨g, (i + 1) * 7, none⟩) = some ad ∧ Hid (∀ j u, (jcells (K.drop (i + 1)))[j]? = some u → w.drew.cell? (ad.add j) = some u) := by
    by_cases hum : cap = i + 1
    · refine ⟨⟨g, 0, none⟩, if_pos hum, fun j u hju => ?_⟩
      rw [List.drop_eq_nil_of_le (by omega)] at hju
      simp [jcells] at hju
    · refine ⟨⟨g, (i + 1) * 7, none⟩, if_neg hum, fun j u hju => ?_⟩
      have := h.rest (i + 1) j u hju
      rw [Nat.zero_add] at this
      exact this
  have hjl : (jcells (K.drop (i + 1))).length = (K.length - (i + 1)) * 7 := by rw [jcells_len]; simp
  have he : (K.take i ++ K.drop (i + 1)).length = i + (K.length - (i + 1)) := by simp; omega
  have hk : i + (K.length - (i + 1)) = K.length - 1 := by omega
  go_enter Try.func70, Try.ntmps70
  go_wp2
  go_region_law (refine step_append_spare rfl (.tmp 22) (.tmp 25) 24 rfl base 31 i1 7 Try.underlying24 hj hj1 g i cap (jcells (K.take i)) (by simp [Act.eval, Act.put]) hd ad (K.length - (i + 1)) (cap - (i + 1)) (jcells (K.drop (i + 1))) (by simp [Act.eval, Act.put]) hjl HC.out (jcells_one _) (by omega) ?_; intro w1 own1 grow1)
  all_goals
    have hel : (K.eraseIdx i).length = K.length - 1 := List.length_eraseIdx_of_lt hi
    have hee : K.eraseIdx i = K.take i ++ K.drop (i + 1) := List.eraseIdx_eq_take_drop_succ _ _
    rw [hk] at own1
    have hl1 := own1.lt g rfl
    have O1 : OwnJ w1 base g cap (K.eraseIdx i) := ⟨by rw [hel, hee, jcells_app]; exact own1, by omega, h.mx, h.base, hl1.2⟩
    have hcl := fun ty => run_clear_job w1 ty g ((K.length - 1) * 7) (cap - (K.length - 1)) (fun j hj' => (O1.room (by omega)).1) (fun j hj' => (O1.room (by omega)).2)
    obtain ⟨O2, G2⟩ := setCells_beyond (List.replicate 7 (.int .i64 0)) ((K.length - 1) * 7) w1 O1 (by rw [hel]; exact Nat.le_refl _)
    have G3 : w.grownBy (w1.setCells g ((K.length - 1) * 7) (List.replicate 7 (.int .i64 0))) (some g) := World.grownBy.trans (show w.grownBy w1 (some g) from ⟨grow1.os, grow1.tape, grow1.output, grow1.size, grow1.block⟩) G2
    generalize w1.setCells g ((K.length - 1) * 7) (List.replicate 7 (.int .i64 0)) = w2 at hcl O2 G3
    clear G2 O1 own1 grow1 hl1 hel hee hd HC hjl he
    have m1 : ((K.length - 1 : Nat) : Int) ≤ (K.length : Int) := by omega
    have m2 : ¬ cap = K.length - 1 := by omega
    have m3 : K.length - (K.length - 1) = 1 := by omega
    go_wp2
    go_ret
    exact ⟨rfl, O2, G3⟩

end Go.Proofs.Ytnbeaeekfahijaa

/- slices.MaxFunc of jobs, by the longest (of alike ones the greatest Id). -/
namespace Go.Proofs.Ytnbeaeekfahijaa
open Go.RowKit Go.Sort

theorem cbyLong_pos (x y : Jb) : 0 < cbyLong x y ↔ ltLong y x = true := by
  unfold cbyLong or2 kbyLong cmpI ltLong
  simp only [decide_eq_true_eq]
  split <;> split <;> (try split) <;> (try split) <;> omega

theorem box7_set {w : World} {B : Nat} {i j : Jb} (h : w.heap[B]? = some (.cells #[.int .i64 i.id, .int .i64 i.cores, .int .i64 i.long, .int .i64 i.due, .int .i64 i.wt, .int .i64 i.rank, .int .i64 i.at_] 31 (0, 0))) :
    (((((((w.setCell ⟨B, 0, none⟩ (.int .i64 j.id)).setCell ⟨B, 1, none⟩ (.int .i64 j.cores)).setCell ⟨B, 2, none⟩ (.int .i64 j.long)).setCell ⟨B, 3, none⟩ (.int .i64 j.due)).setCell ⟨B, 4, none⟩ (.int .i64 j.wt)).setCell ⟨B, 5, none⟩ (.int .i64 j.rank)).setCell ⟨B, 6, none⟩ (.int .i64 j.at_)).heap[B]? = some (.cells #[.int .i64 j.id, .int .i64 j.cores, .int .i64 j.long, .int .i64 j.due, .int .i64 j.wt, .int .i64 j.rank, .int .i64 j.at_] 31 (0, 0)) := by
  have := blk_set (j := 6) (blk_set (j := 5) (blk_set (j := 4) (blk_set (j := 3) (blk_set (j := 2) (blk_set (j := 1) (blk_set (j := 0) h (.int .i64 j.id)) (.int .i64 j.cores)) (.int .i64 j.long)) (.int .i64 j.due)) (.int .i64 j.wt)) (.int .i64 j.rank)) (.int .i64 j.at_)
  simpa using this
theorem box7_other (w : World) (B : Nat) (j : Jb) {k : Nat} (hk : k ≠ B) : (((((((w.setCell ⟨B, 0, none⟩ (.int .i64 j.id)).setCell ⟨B, 1, none⟩ (.int .i64 j.cores)).setCell ⟨B, 2, none⟩ (.int .i64 j.long)).setCell ⟨B, 3, none⟩ (.int .i64 j.due)).setCell ⟨B, 4, none⟩ (.int .i64 j.wt)).setCell ⟨B, 5, none⟩ (.int .i64 j.rank)).setCell ⟨B, 6, none⟩ (.int .i64 j.at_)).heap[k]? = w.heap[k]? :=
  (Below.heap_setCell _ _ _ _ hk).trans ((Below.heap_setCell _ _ _ _ hk).trans ((Below.heap_setCell _ _ _ _ hk).trans ((Below.heap_setCell _ _ _ _ hk).trans ((Below.heap_setCell _ _ _ _ hk).trans ((Below.heap_setCell _ _ _ _ hk).trans (Below.heap_setCell _ _ _ _ hk))))))
theorem box7_below {b : Nat} {w0 w : World} (h : Below b w0 w) {B : Nat} (hB : b ≤ B) (j : Jb) : Below b w0 (((((((w.setCell ⟨B, 0, none⟩ (.int .i64 j.id)).setCell ⟨B, 1, none⟩ (.int .i64 j.cores)).setCell ⟨B, 2, none⟩ (.int .i64 j.long)).setCell ⟨B, 3, none⟩ (.int .i64 j.due)).setCell ⟨B, 4, none⟩ (.int .i64 j.wt)).setCell ⟨B, 5, none⟩ (.int .i64 j.rank)).setCell ⟨B, 6, none⟩ (.int .i64 j.at_)) := (((((((h.setCell hB _).setCell hB _).setCell hB _).setCell hB _).setCell hB _).setCell hB _).setCell hB _)

set_option maxRecDepth 8000 in
set_option maxHeartbeats 4000000 in
theorem maxFunc_any (a : Option Addr) (n cap : Nat) (K : List Jb) (bo bn : Nat) (w : World) (h : JobS w a n cap K) (h0 : 0 < n) (hn : n ≤ 41) (hok : ∀ i, i < n → jok (jg K i) = true)
    (ho : w.cell? ⟨bo, 0, none⟩ = some (.func (.func 42) #[] #[])) (hb : w.cell? ⟨bn, 0, none⟩ = some (.func (.func 64) #[] #[])) :
    Calls Try.prog 68 #[.slice a n cap, .func (.func 77) #[] #[.pointer (some ⟨bo, 0, none⟩), .pointer (some ⟨bn, 0, none⟩)]] w fun e w' =>
      ∃ i, e = .returned (.agg #[.int .i64 (jg K i).id, .int .i64 (jg K i).cores, .int .i64 (jg K i).long, .int .i64 (jg K i).due, .int .i64 (jg K i).wt, .int .i64 (jg K i).rank, .int .i64 (jg K i).at_]) ∧ IsFar K i ∧ Below w.heap.size w w' := by
  have hlen := h.len
  have hm := h.mx
  have hle := h.le
  unfold maxLen at hm
  have lo := World.block_lt_of_cell? w _ ho
  have lb := World.block_lt_of_cell? w _ hb
  obtain ⟨b, off, rfl, hbw, hat⟩ := h.at_ h0
  have hmo : Try.prog.follows .mixedOrders = true := by kernel_rfl
  have h0' : (0 : Int) < (n : Int) := by omega
  have h1' : ¬ ((n : Int) < 1) := by omega
  obtain ⟨C0, C1, C2, C3, C4, C5, C6⟩ := (hat.below (box_below (w := w) (cs := #[.int .i64 0, .int .i64 0, .int .i64 0, .int .i64 0, .int .i64 0, .int .i64 0, .int .i64 0]) (T := 31)) hbw).job (i := 0) (by omega)
  simp only [Nat.zero_mul, Nat.add_zero] at C0 C1 C2 C3 C4 C5 C6
  go_enter Try.func68, Try.ntmps68
  go_wp2
  clear C0 C1 C2 C3 C4 C5 C6
  go_loopw [6] (fun i wr => ∃ (k j : Nat), 1 ≤ k ∧ k ≤ n ∧ i = .int .i64 k ∧ j < k ∧ wr.heap[w.heap.size]? = some (.cells #[.int .i64 0, .int .i64 0, .int .i64 0, .int .i64 0, .int .i64 0, .int .i64 0, .int .i64 0] 31 (0, 0)) ∧ wr.heap[w.heap.size + 1]? = some (.cells #[.int .i64 (jg K j).id, .int .i64 (jg K j).cores, .int .i64 (jg K j).long, .int .i64 (jg K j).due, .int .i64 (jg K j).wt, .int .i64 (jg K j).rank, .int .i64 (jg K j).at_] 31 (0, 0)) ∧ (∀ p, p < k → ltLong (jg K j) (jg K p) = false) ∧ Below w.heap.size w wr) (fun i _ => n - (intOf i).toNat)
  case atStart =>
    refine ⟨1, 0, by omega, by omega, rfl, by omega, ?_, ?_, fun p hp => ?_, ?_⟩
    · exact (Below.heap_alloc _ _ _ (by simp)).trans (heap_alloc_new _ _)
    · have := heap_alloc_new (w.alloc (.cells #[.int .i64 0, .int .i64 0, .int .i64 0, .int .i64 0, .int .i64 0, .int .i64 0, .int .i64 0] 31)) (.cells #[.int .i64 (jg K 0).id, .int .i64 (jg K 0).cores, .int .i64 (jg K 0).long, .int .i64 (jg K 0).due, .int .i64 (jg K 0).wt, .int .i64 (jg K 0).rank, .int .i64 (jg K 0).at_] 31)
      rwa [show (w.alloc (.cells #[.int .i64 0, .int .i64 0, .int .i64 0, .int .i64 0, .int .i64 0, .int .i64 0, .int .i64 0] 31)).heap.size = w.heap.size + 1 by simp] at this
    · obtain rfl : p = 0 := by omega
      exact swo_long.irrefl _
    · exact ((Below.refl _ _).alloc (Nat.le_refl _) _).alloc (by simp) _
  case round =>
    obtain ⟨k, j, k1, kn, rfl, hjk, bR, bM, hmax, hw⟩ := hrel
    have lM := lt_of_block bM
    have lR := lt_of_block bR
    by_cases hlt : k < n
    · have hlt' : (k : Int) < (n : Int) := by omega
      have hwz := hw.size
      have hbi : b < wr.heap.size := by omega
      have Hk := (hat.below hw hbw).job (i := k) (by omega)
      have Hm := (blk7 bM).1
      have P0 := fun nn os => cell_grown (w := wr) (by exact hbi) Hk.1 nn os
      have P1 := fun nn os => cell_grown (w := wr) (by exact hbi) Hk.2.1 nn os
      have P2 := fun nn os => cell_grown (w := wr) (by exact hbi) Hk.2.2.1 nn os
      have P3 := fun nn os => cell_grown (w := wr) (by exact hbi) Hk.2.2.2.1 nn os
      have P4 := fun nn os => cell_grown (w := wr) (by exact hbi) Hk.2.2.2.2.1 nn os
      have P5 := fun nn os => cell_grown (w := wr) (by exact hbi) Hk.2.2.2.2.2.1 nn os
      have P6 := fun nn os => cell_grown (w := wr) (by exact hbi) Hk.2.2.2.2.2.2 nn os
      have Q0 := fun nn os => cell_grown (w := wr) (by exact lM) Hm.1 nn os
      have Q1 := fun nn os => cell_grown (w := wr) (by exact lM) Hm.2.1 nn os
      have Q2 := fun nn os => cell_grown (w := wr) (by exact lM) Hm.2.2.1 nn os
      have Q3 := fun nn os => cell_grown (w := wr) (by exact lM) Hm.2.2.2.1 nn os
      have Q4 := fun nn os => cell_grown (w := wr) (by exact lM) Hm.2.2.2.2.1 nn os
      have Q5 := fun nn os => cell_grown (w := wr) (by exact lM) Hm.2.2.2.2.2.1 nn os
      have Q6 := fun nn os => cell_grown (w := wr) (by exact lM) Hm.2.2.2.2.2.2 nn os
      have CA : ∀ nn os, Calls Try.prog 77 #[.agg #[.int .i64 (jg K k).id, .int .i64 (jg K k).cores, .int .i64 (jg K k).long, .int .i64 (jg K k).due, .int .i64 (jg K k).wt, .int .i64 (jg K k).rank, .int .i64 (jg K k).at_], .agg #[.int .i64 (jg K j).id, .int .i64 (jg K j).cores, .int .i64 (jg K j).long, .int .i64 (jg K j).due, .int .i64 (jg K j).wt, .int .i64 (jg K j).rank, .int .i64 (jg K j).at_], .pointer (some ⟨bo, 0, none⟩), .pointer (some ⟨bn, 0, none⟩)] (grow (wr.drewN nn) os) fun e w' => e = .returned (.int .i64 (cbyLong (jg K k) (jg K j))) ∧ ∃ q os', w' = grow ((grow (wr.drewN nn) os).drewN q) os' :=
        fun nn os => then_byLong _ _ (hok k hlt) (hok j (by omega)) bo bn _ (cell_grown (by exact Nat.lt_of_lt_of_le lo hwz) ((hw.cell (p := ⟨bo, 0, none⟩) lo).trans ho) nn os) (cell_grown (by exact Nat.lt_of_lt_of_le lb hwz) ((hw.cell (p := ⟨bn, 0, none⟩) lb).trans hb) nn os)
      clear Hk Hm
      have FZ := fun (c : Nat) nn os => ((below_grow wr nn os).frozen (p := ⟨w.heap.size + 1, c, none⟩) lM).trans (free_of_blk c bM)
      have F0 := FZ 0
      have F1 := FZ 1
      have F2 := FZ 2
      have F3 := FZ 3
      have F4 := FZ 4
      have F5 := FZ 5
      have F6 := FZ 6
      clear FZ
      have hpos := cbyLong_pos (jg K k) (jg K j)
      have BG := fun nn os => below_grow wr nn os
      generalize cbyLong (jg K k) (jg K j) = cv at CA hpos
      by_cases hc : 0 < cv
      · have hlk := hpos.1 hc
        have HM : Hid (∀ p, p < k + 1 → ltLong (jg K k) (jg K p) = false) := fun p hp => by
          by_cases e : p = k
          · subst e; exact swo_long.irrefl _
          · rw [Bool.eq_false_iff]; intro h1
            have := swo_long.trans _ _ _ hlk h1
            rw [hmax p (by omega)] at this; cases this
        clear hpos hmax
        go_wp2
        go_quiet_grown ((go_at_call 77; exact Calls.grown_of (CA _ _)))
        have B3 := BG nq osq
        have bM3 := (B3.block _ lM).trans bM
        have bR3 := (B3.block _ lR).trans bR
        have hw3 := hw.then B3 hw.size
        go_wp2
        go_roundw
        case rel => exact ⟨k + 1, k, by omega, by omega, by go_num, by omega, (box7_other _ _ _ (by omega)).trans bR3, box7_set bM3, HM.out, box7_below hw3 (by omega) _⟩
        case measure => simp [intOf]; omega
      · have HM : Hid (∀ p, p < k + 1 → ltLong (jg K j) (jg K p) = false) := fun p hp => by
          by_cases e : p = k
          · subst e; rw [Bool.eq_false_iff]; exact fun h1 => hc (hpos.2 h1)
          · exact hmax p (by omega)
        clear hpos hmax
        go_wp2
        go_quiet_grown ((go_at_call 77; exact Calls.grown_of (CA _ _)))
        have B3 := BG nq osq
        go_wp2
        go_roundw
        case rel => exact ⟨k + 1, j, by omega, by omega, by go_num, by omega, (B3.block _ lR).trans bR, (B3.block _ lM).trans bM, HM.out, hw.then B3 hw.size⟩
        case measure => simp [intOf]; omega
    · have e : k = n := by omega
      subst e
      have hlt' : ¬ ((k : Int) < (k : Int)) := by omega
      obtain ⟨Q0, Q1, Q2, Q3, Q4, Q5, Q6⟩ := (blk7 bM).1
      obtain ⟨⟨R0, R1, R2, R3, R4, R5, R6⟩, RF⟩ := blk7 (j := jb0) bR
      have F0 := free_of_blk 0 bR
      have F1 := free_of_blk 1 bR
      have F2 := free_of_blk 2 bR
      have F3 := free_of_blk 3 bR
      have F4 := free_of_blk 4 bR
      have F5 := free_of_blk 5 bR
      have F6 := free_of_blk 6 bR
      have bF := box7_set (i := jb0) (j := jg K j) bR
      have wF := box7_below hw (Nat.le_refl _) (jg K j)
      have HF : Hid (IsFar K j) := ⟨(by omega : j < K.length), fun p hp => hmax p (by omega)⟩
      clear RF hmax
      go_wp2
      generalize ((((((wr.setCell ⟨w.heap.size, 0, none⟩ (.int .i64 (jg K j).id)).setCell ⟨w.heap.size, 1, none⟩ (.int .i64 (jg K j).cores)).setCell ⟨w.heap.size, 2, none⟩ (.int .i64 (jg K j).long)).setCell ⟨w.heap.size, 3, none⟩ (.int .i64 (jg K j).due)).setCell ⟨w.heap.size, 4, none⟩ (.int .i64 (jg K j).wt)).setCell ⟨w.heap.size, 5, none⟩ (.int .i64 (jg K j).rank)).setCell ⟨w.heap.size, 6, none⟩ (.int .i64 (jg K j).at_) = WF at bF wF ⊢
      obtain ⟨G0, G1, G2, G3, G4, G5, G6⟩ := (blk7 bF).1
      exact bodyPost_ret (v := .agg #[.int .i64 (jg K j).id, .int .i64 (jg K j).cores, .int .i64 (jg K j).long, .int .i64 (jg K j).due, .int .i64 (jg K j).wt, .int .i64 (jg K j).rank, .int .i64 (jg K j).at_]) (by simp [results, Try.results68, go_sem, G0, G1, G2, G3, G4, G5, G6]) rfl ⟨j, rfl, HF.out, wF⟩

end Go.Proofs.Ytnbeaeekfahijaa

/- parted and Hodgson of the program. -/
namespace Go.Proofs.Ytnbeaeekfahijaa
open Go.RowKit Go.Sort

theorem ownR_keep {w w' : World} {base : Nat} {v : Value} {m : Nat} {xs : List Value} (h : w.ownsRow base 31 7 v m xs) (hk : ∀ g, v.ownBlock = some g → w'.heap[g]? = w.heap[g]?) : w'.ownsRow base 31 7 v m xs := by
  refine ⟨h.1, ?_⟩
  rcases h.2 with h | ⟨g, cap, cur, rfl, hg, hgg, r⟩
  · exact .inl h
  · exact .inr ⟨g, cap, cur, rfl, hg, (hk g rfl).trans hgg, r⟩
theorem ownR_lt {w : World} {base : Nat} {v : Value} {m : Nat} {xs : List Value} (h : w.ownsRow base 31 7 v m xs) {g : Nat} (hg : v.ownBlock = some g) : base ≤ g ∧ g < w.heap.size := h.lt g hg
theorem ownR_below {w w' : World} {base : Nat} {v : Value} {m : Nat} {xs : List Value} (h : w.ownsRow base 31 7 v m xs) (hb : Below w.heap.size w w') : w'.ownsRow base 31 7 v m xs :=
  ownR_keep h fun g hg => hb.block g (ownR_lt h hg).2
theorem ownJ_own {w : World} {base g cap : Nat} {ys : List Jb} (h : w.ownsRow base 31 7 (.slice (some ⟨g, 0, none⟩) ys.length cap) ys.length (jcells ys)) : OwnJ w base g cap ys := by
  obtain ⟨g', c', e, O⟩ := ownJ_of (ys := ys) h rfl rfl (fun e => by cases e)
  injection e with e1 _ e3
  injection e1 with e1
  injection e1 with e1 _ _
  subst e1 e3
  exact O

theorem IsNum.at_ {M : List Jb} (hj : JsOk M) {i : Nat} (hi : i < M.length) {r : Int} (h : IsNum M M.length (jg M i).id r) : r = i := by
  rcases h with ⟨_, h⟩ | ⟨k, rfl, hk, e, _⟩
  · exact absurd rfl (h i hi)
  · have mi : jg M i ∈ M := by rw [jg_get hi]; exact List.getElem_mem hi
    have mk : jg M k ∈ M := by rw [jg_get hk]; exact List.getElem_mem hk
    have := hj.inj mk mi e
    rw [jg_get hk, jg_get hi] at this
    have := (List.getElem_inj (js_nodup hj)).1 this
    omega

set_option maxRecDepth 8000 in
set_option maxHeartbeats 8000000 in
theorem parted_any (a : Option Addr) (n cap : Nat) (E : List Jb) (w : World) (h : JobS w a n cap E) (hj : JsOk E) :
    Calls Try.prog 48 #[.slice a n cap] w fun e w' => ∃ l r K R, e = .returned (.tuple #[l, r]) ∧ HSt E E.length K R ∧ w'.ownsRow w.heap.size 31 7 l K.length (jcells K) ∧ w'.ownsRow w.heap.size 31 7 r R.length (jcells R) ∧ (∀ g, l.ownBlock = some g → r.ownBlock ≠ some g) ∧ Below w.heap.size w w' := by
  obtain ⟨i1, hji, hj0, hj1, hj2⟩ := info_parts infoJ
  have hlen := h.len
  have hm := h.mx
  have hle := h.le
  have hn40 : n ≤ 40 := by have := hj.n; omega
  unfold maxLen at hm
  go_enter Try.func48, Try.ntmps48
  go_wp2
  go_loopw [2, 3, 4, 11] (fun l r s i wr => ∃ (k : Nat) (K R : List Jb), k ≤ n ∧ i = .int .i64 k ∧ s = .int .i64 (tot K) ∧ Hid (HSt E k K R) ∧ Hid (wr.ownsRow w.heap.size 31 7 l K.length (jcells K)) ∧ Hid (wr.ownsRow w.heap.size 31 7 r R.length (jcells R)) ∧ Hid (∀ g, l.ownBlock = some g → r.ownBlock ≠ some g) ∧ Below w.heap.size w wr) (fun _ _ _ i _ => n - (intOf i).toNat)
  case atStart => exact ⟨0, [], [], by omega, rfl, rfl, ⟨rfl, rfl⟩, World.ownsRow_nil _ _ _ _, World.ownsRow_nil _ _ _ _, (fun g hg => by cases hg), Below.refl _ _⟩
  case round =>
    obtain ⟨k, K, R, hk, rfl, rfl, HS, HL, HR, HD, hw⟩ := hrel
    by_cases hlt : k < n
    · obtain ⟨b, off, rfl, hbw, hat⟩ := h.at_ (by omega)
      have hlt' : (k : Int) < (n : Int) := by omega
      have hz := hw.size
      have hkl := HS.out.len (by omega)
      have hjM := (HS.out.jsK hj (by omega)).2.2 (by omega)
      have tb := tot_bd (ls := K) (fun x hx => (js_all (jsB_mk (HS.out.jsK hj (by omega)).1)) x hx)
      have jb := jok_bd (hj.ok k (by omega)).1
      have eM : tot (K ++ [jg E k]) = tot K + (jg E k).long := by rw [tot_app]; show tot K + ((jg E k).long + 0) = _; omega
      have hMl : (K ++ [jg E k]).length = K.length + 1 := by simp
      obtain ⟨C0, C1, C2, C3, C4, C5, C6⟩ := (hat.below hw hbw).job (i := k) (by omega)
      -- the two blocks that come: the job's box, and a slice of it
      have A1 : Below wr.heap.size wr (wr.alloc (.cells #[.int .i64 (jg E k).id, .int .i64 (jg E k).cores, .int .i64 (jg E k).long, .int .i64 (jg E k).due, .int .i64 (jg E k).wt, .int .i64 (jg E k).rank, .int .i64 (jg E k).at_] 31)) := box_below
      have A2 : Below wr.heap.size wr ((wr.alloc (.cells #[.int .i64 (jg E k).id, .int .i64 (jg E k).cores, .int .i64 (jg E k).long, .int .i64 (jg E k).due, .int .i64 (jg E k).wt, .int .i64 (jg E k).rank, .int .i64 (jg E k).at_] 31)).alloc (.cells #[.int .i64 (jg E k).id, .int .i64 (jg E k).cores, .int .i64 (jg E k).long, .int .i64 (jg E k).due, .int .i64 (jg E k).wt, .int .i64 (jg E k).rank, .int .i64 (jg E k).at_] 31)) := A1.alloc (by simp) _
      have OA := ownR_below HL.out A2
      have RA := ownR_below HR.out A2
      have bJ : ((wr.alloc (.cells #[.int .i64 (jg E k).id, .int .i64 (jg E k).cores, .int .i64 (jg E k).long, .int .i64 (jg E k).due, .int .i64 (jg E k).wt, .int .i64 (jg E k).rank, .int .i64 (jg E k).at_] 31)).alloc (.cells #[.int .i64 (jg E k).id, .int .i64 (jg E k).cores, .int .i64 (jg E k).long, .int .i64 (jg E k).due, .int .i64 (jg E k).wt, .int .i64 (jg E k).rank, .int .i64 (jg E k).at_] 31)).heap[wr.heap.size]? = some (.cells #[.int .i64 (jg E k).id, .int .i64 (jg E k).cores, .int .i64 (jg E k).long, .int .i64 (jg E k).due, .int .i64 (jg E k).wt, .int .i64 (jg E k).rank, .int .i64 (jg E k).at_] 31 (0, 0)) := (Below.heap_alloc _ _ _ (by simp)).trans (heap_alloc_new _ _)
      have hnew : ∀ q u, (jl (jg E k))[q]? = some u → ((wr.alloc (.cells #[.int .i64 (jg E k).id, .int .i64 (jg E k).cores, .int .i64 (jg E k).long, .int .i64 (jg E k).due, .int .i64 (jg E k).wt, .int .i64 (jg E k).rank, .int .i64 (jg E k).at_] 31)).alloc (.cells #[.int .i64 (jg E k).id, .int .i64 (jg E k).cores, .int .i64 (jg E k).long, .int .i64 (jg E k).due, .int .i64 (jg E k).wt, .int .i64 (jg E k).rank, .int .i64 (jg E k).at_] 31)).cell? ((⟨wr.heap.size + 1, 0, none⟩ : Addr).add q) = some u := by
        intro q u hq
        have := new7_cells' (wr.alloc (.cells #[.int .i64 (jg E k).id, .int .i64 (jg E k).cores, .int .i64 (jg E k).long, .int .i64 (jg E k).due, .int .i64 (jg E k).wt, .int .i64 (jg E k).rank, .int .i64 (jg E k).at_] 31)) (jg E k) 31 q u hq
        rwa [show (wr.alloc (.cells #[.int .i64 (jg E k).id, .int .i64 (jg E k).cores, .int .i64 (jg E k).long, .int .i64 (jg E k).due, .int .i64 (jg E k).wt, .int .i64 (jg E k).rank, .int .i64 (jg E k).at_] 31)).heap.size = wr.heap.size + 1 by simp] at this
      have HN : Hid _ := hnew
      clear hnew
      go_wp2_with (at_builtin; refine wpList_append_own_at _ rfl (.tmp 15) (.tmp 17) 24 rfl w.heap.size 31 i1 (.agg #[.int .i64 0, .int .i64 0, .int .i64 0, .int .i64 0, .int .i64 0, .int .i64 0, .int .i64 0]) 7 56 Try.underlying24 hji hj0 hj1 hj2 rfl (by decide) _ _ _ rfl OA ⟨wr.heap.size + 1, 0, none⟩ 1 1 [.int .i64 (jg E k).id, .int .i64 (jg E k).cores, .int .i64 (jg E k).long, .int .i64 (jg E k).due, .int .i64 (jg E k).wt, .int .i64 (jg E k).rank, .int .i64 (jg E k).at_] rfl rfl HN.out (jl_one (jg E k)) (by unfold maxLen; omega) (by omega) (by simp; omega) ?_)
      intro v3 w3 own3 grow3 nil3 at3
      obtain ⟨g3, c3, rfl, O3⟩ := ownJ_of' (ys := K ++ [jg E k]) own3 (by simp) (by rw [jcells_app]; rfl) nil3
      have lJ := lt_of_block bJ
      have B3 : Below w.heap.size w w3 := (hw.trans (A2.mono hz)).grown grow3 (Nat.le_trans hz A2.size) (fun g hg => (ownR_lt HL.out hg).1)
      have bJ3 : w3.heap[wr.heap.size]? = some (.cells #[.int .i64 (jg E k).id, .int .i64 (jg E k).cores, .int .i64 (jg E k).long, .int .i64 (jg E k).due, .int .i64 (jg E k).wt, .int .i64 (jg E k).rank, .int .i64 (jg E k).at_] 31 (0, 0)) := (grow3.block _ lJ (fun e => by have := (ownR_lt HL.out e.symm).2; omega)).trans bJ
      have R3 : w3.ownsRow w.heap.size 31 7 u3 R.length (jcells R) := ownR_keep RA (fun g hg => grow3.block g (ownR_lt RA hg).2 (fun e => HD.out g e.symm hg))
      have D3 : ∀ g, g3 = g → u3.ownBlock ≠ some g := by
        rintro g rfl hg
        rcases at3 with e | e
        · exact HD.out _ e.symm hg
        · have e' : g3 = _ := Option.some.inj e
          have := (ownR_lt HR.out hg).2
          try simp at e'
          omega
      obtain ⟨⟨J0, J1, J2, J3, J4, J5, J6⟩, _⟩ := blk7 bJ3
      have HR3 : Hid _ := R3
      have HO3 : Hid _ := O3
      have HD3 : Hid _ := D3
      clear own3 grow3 nil3 at3 OA RA A1 A2 HN HL HR bJ R3 O3 D3 C0 C1 C2 C3 C4 C5 C6
      by_cases hc : tot (K ++ [jg E k]) ≤ (jg E k).due
      · have hs : Hid (HSt E (k + 1) (K ++ [jg E k]) R) := ⟨K, R, HS.out, Or.inl ⟨hc, rfl, rfl⟩⟩
        rw [eM] at hc
        have hc' : ¬ (jg E k).due < tot K + (jg E k).long := by omega
        have HM : Hid (tot (K ++ [jg E k]) = tot K + (jg E k).long) := eM
        clear eM
        go_wp2
        go_roundw
        case rel => exact ⟨k + 1, K ++ [jg E k], R, by omega, by go_num, by rw [HM.out], hs, by rw [hMl]; exact (by have := HO3.out.own; rwa [hMl] at this), HR3.out, (fun g hg => HD3.out g (Option.some.inj hg)), B3⟩
        case measure => simp [intOf]; omega
      · have hs : Hid (∀ i, IsFar (K ++ [jg E k]) i → HSt E (k + 1) ((K ++ [jg E k]).eraseIdx i) (R ++ [jg (K ++ [jg E k]) i])) := fun i hi => ⟨K, R, HS.out, Or.inr ⟨hc, i, hi, rfl, rfl⟩⟩
        have hsub : ∀ x ∈ K ++ [jg E k], x ∈ E := fun x hx => by
          rcases List.mem_append.1 hx with hx | hx
          · exact (List.take_sublist k E).subset ((HS.out.perm (by omega)).subset (List.mem_append_left _ hx))
          · rw [List.mem_singleton.1 hx, jg_get (by omega)]; exact List.getElem_mem _
        have wfM : ∀ i, i < (K ++ [jg E k]).length → jwf (jg (K ++ [jg E k]) i) := fun i hi => by
          obtain ⟨q, hq, e⟩ := List.getElem_of_mem (hsub _ (show jg (K ++ [jg E k]) i ∈ _ by rw [jg_get hi]; exact List.getElem_mem hi))
          rw [← e, ← jg_get hq]; exact h.wf q (by omega)
        have okM : ∀ i, i < (K ++ [jg E k]).length → jok (jg (K ++ [jg E k]) i) = true := fun i hi => (hjM.ok i hi).1
        have hM40 := hjM.n
        obtain ⟨M, hMd⟩ : ∃ M, K ++ [jg E k] = M := ⟨_, rfl⟩
        rw [hMd] at hs wfM okM hjM hM40 HO3 hMl eM hc
        clear hMd hsub HS
        have hc' : (jg E k).due < tot K + (jg E k).long := by omega
        have JM : JobS w3 (some ⟨g3, 0, none⟩) M.length c3 M := HO3.out.toS wfM
        rw [← hMl]
        have tk0 : 0 ≤ tot K := tb.1
        have tk1 : tot K ≤ 400000 := by have := tb.2; omega
        have tl0 : 1 ≤ (jg E k).long := jb.1
        have tl1 : (jg E k).long ≤ 10000 := jb.2.1
        have HMl : Hid (M.length = K.length + 1) := hMl
        have hM1 : 1 ≤ M.length := by omega
        have hkR : R.length ≤ 40 := by omega
        have HTM : Hid (tot M = tot K + (jg E k).long) := eM
        clear hMl hkl eM hc
        go_wp2_with fail
        refine (then_make _ _ _).mono ?_
        rintro e w4 ⟨rfl, hw4⟩
        have hb4 : Below w3.heap.size w3 w4 := by rw [hw4]; exact ((Below.refl _ _).alloc (Nat.le_refl _) _).alloc (by simp) _
        have c0 : w4.cell? ⟨w3.heap.size, 0, none⟩ = some (.func (.func 42) #[] #[]) := by rw [hw4]; simp
        have c1 : w4.cell? ⟨w3.heap.size + 1, 0, none⟩ = some (.func (.func 64) #[] #[]) := by rw [hw4]; simp
        clear hw4
        have JM4 := JM.below hb4
        go_wp2_with fail
        refine (maxFunc_any _ M.length c3 M w3.heap.size (w3.heap.size + 1) _ JM4 (by omega) (by omega) okM c0 c1).mono ?_
        rintro e w5 ⟨i, rfl, hfar, hb5⟩
        have hil := hfar.1
        have V5 := hb4.then hb5 hb4.size
        have V6 := V5.alloc V5.size (.cells #[.int .i64 (jg M i).id, .int .i64 (jg M i).cores, .int .i64 (jg M i).long, .int .i64 (jg M i).due, .int .i64 (jg M i).wt, .int .i64 (jg M i).rank, .int .i64 (jg M i).at_] 31)
        have bF := heap_alloc_new w5 (.cells #[.int .i64 (jg M i).id, .int .i64 (jg M i).cores, .int .i64 (jg M i).long, .int .i64 (jg M i).due, .int .i64 (jg M i).wt, .int .i64 (jg M i).rank, .int .i64 (jg M i).at_] 31)
        have z6 : (w5.alloc (.cells #[.int .i64 (jg M i).id, .int .i64 (jg M i).cores, .int .i64 (jg M i).long, .int .i64 (jg M i).due, .int .i64 (jg M i).wt, .int .i64 (jg M i).rank, .int .i64 (jg M i).at_] 31)).heap.size = w5.heap.size + 1 := by simp
        clear c0 c1 JM4
        go_wp2_with fail
        refine (numberOf_any _ M.length c3 M (jg M i).id _ (JM.below V6)).mono ?_
        rintro e w7 ⟨x, rfl, hx, hg7⟩
        obtain rfl := hx.at_ hjM hil
        have hb7 : Below (w5.alloc (.cells #[.int .i64 (jg M i).id, .int .i64 (jg M i).cores, .int .i64 (jg M i).long, .int .i64 (jg M i).due, .int .i64 (jg M i).wt, .int .i64 (jg M i).rank, .int .i64 (jg M i).at_] 31)).heap.size (w5.alloc (.cells #[.int .i64 (jg M i).id, .int .i64 (jg M i).cores, .int .i64 (jg M i).long, .int .i64 (jg M i).due, .int .i64 (jg M i).wt, .int .i64 (jg M i).rank, .int .i64 (jg M i).at_] 31)) w7 := by obtain ⟨q, os, rfl⟩ := hg7; exact below_grow _ _ _
        have V7 := V6.then hb7 V6.size
        have bF7 := (hb7.block _ (by omega)).trans bF
        have O7 := HO3.out.below V7
        have R7 := ownR_below HR3.out V7
        have z7 := V7.size
        clear hg7 hx
        go_wp2_with fail
        refine (delete_any w.heap.size g3 c3 i M _ O7 hil).mono ?_
        rintro e w8 ⟨rfl, O8, G8⟩
        have hg3 := HO3.out.lt
        have z5 := V5.size
        have lF := lt_of_block bF7
        have bF8 := (G8.block _ lF (fun e => by have := Option.some.inj e; omega)).trans bF7
        have R8 : w8.ownsRow w.heap.size 31 7 u3 R.length (jcells R) := ownR_keep R7 (fun g hg => G8.block g (ownR_lt R7 hg).2 (fun e => HD3.out g (Option.some.inj e).symm hg))
        have z8 := G8.size
        have B8 : Below w.heap.size w w8 := (B3.trans (V7.mono B3.size)).grown G8 (Nat.le_trans B3.size z7) (fun g hg => by have e' : g3 = g := Option.some.inj hg; have := HO3.out.base; omega)
        obtain ⟨⟨Q0, Q1, Q2, Q3, Q4, Q5, Q6⟩, _⟩ := blk7 bF8
        have RA := ownR_below R8 (box_below (cs := #[.int .i64 (jg M i).id, .int .i64 (jg M i).cores, .int .i64 (jg M i).long, .int .i64 (jg M i).due, .int .i64 (jg M i).wt, .int .i64 (jg M i).rank, .int .i64 (jg M i).at_]) (T := 31))
        have HN : Hid _ := new7_cells' w8 (jg M i) 31
        have z9 := B8.size
        clear bF bF7 O7 R7 V6 V7 JM
        go_wp2_with (at_builtin; refine wpList_append_own_at _ rfl (.tmp 39) (.tmp 41) 24 rfl w.heap.size 31 i1 (.agg #[.int .i64 0, .int .i64 0, .int .i64 0, .int .i64 0, .int .i64 0, .int .i64 0, .int .i64 0]) 7 56 Try.underlying24 hji hj0 hj1 hj2 rfl (by decide) _ _ _ rfl RA ⟨w8.heap.size, 0, none⟩ 1 1 [.int .i64 (jg M i).id, .int .i64 (jg M i).cores, .int .i64 (jg M i).long, .int .i64 (jg M i).due, .int .i64 (jg M i).wt, .int .i64 (jg M i).rank, .int .i64 (jg M i).at_] rfl rfl HN.out (jl_one (jg M i)) (by unfold maxLen; omega) (by omega) (by simp; omega) ?_)
        intro v10 w10 own10 grow10 nil10 at10
        have lF8 := lt_of_block bF8
        have bF10 := (grow10.block w5.heap.size (by simp; omega) (fun e => by have := (ownR_lt HR3.out e.symm).2; omega)).trans ((Below.heap_alloc _ _ _ lF8).trans bF8)
        have O9 := O8.below (box_below (cs := #[.int .i64 (jg M i).id, .int .i64 (jg M i).cores, .int .i64 (jg M i).long, .int .i64 (jg M i).due, .int .i64 (jg M i).wt, .int .i64 (jg M i).rank, .int .i64 (jg M i).at_]) (T := 31))
        have lO8 := O8.lt
        have O10 : OwnJ w10 w.heap.size g3 c3 (M.eraseIdx i) := O9.keep (grow10.block g3 (by simp; omega) (fun e => HD3.out g3 rfl e.symm)) grow10.size
        have B10 : Below w.heap.size w w10 := (B8.alloc z9 _).grown grow10 (by simp; omega) (fun g hg => (ownR_lt R8 hg).1)
        have D10 : ∀ g, (Value.slice (some ⟨g3, 0, none⟩) (M.length - 1) c3).ownBlock = some g → v10.ownBlock ≠ some g := by
          intro g hg e
          have e3 : g3 = g := Option.some.inj hg
          rcases at10 with e1 | e1
          · exact HD3.out g e3 (e1.symm.trans e)
          · rw [e] at e1
            have e4 : g = _ := Option.some.inj e1
            omega
        have R10 : w10.ownsRow w.heap.size 31 7 v10 (R ++ [jg M i]).length (jcells (R ++ [jg M i])) := by
          rw [jcells_app, List.length_append]; exact own10
        obtain ⟨⟨Y0, Y1, Y2, _, _, _, _⟩, _⟩ := blk7 bF10
        have te := tot_erase hil
        have ml0 : 1 ≤ (jg M i).long := (jok_bd (okM i hil)).1
        have ml1 : (jg M i).long ≤ 10000 := (jok_bd (okM i hil)).2.1
        have hs10 := Hid.out hs i hfar
        have hel : (M.eraseIdx i).length = M.length - 1 := List.length_eraseIdx_of_lt hil
        have HO10 : Hid (w10.ownsRow w.heap.size 31 7 (.slice (some ⟨g3, 0, none⟩) (M.length - 1) c3) (M.eraseIdx i).length (jcells (M.eraseIdx i))) := by rw [← hel]; exact O10.own
        have HR10 : Hid _ := R10
        have HD10 : Hid _ := D10
        have Hs10 : Hid _ := hs10
        have HT : Hid (tot (M.eraseIdx i) = tot K + (jg E k).long - (jg M i).long) := (by have := HTM.out; omega : tot (M.eraseIdx i) = tot K + (jg E k).long - (jg M i).long)
        clear own10 grow10 nil10 at10 RA HN O8 O9 O10 R8 R10 D10 hs hs10 hel te bF8 bF10 Q0 Q1 Q2 Q3 Q4 Q5 Q6 hfar okM wfM
        go_wp2
        go_roundw
        case rel => exact ⟨k + 1, M.eraseIdx i, R ++ [jg M i], by omega, by go_num, by rw [HT.out], Hs10.out, HO10.out, HR10.out, HD10.out, B10⟩
        case measure => simp [intOf]; omega
    · have e : k = n := by omega
      subst e
      go_wp2
      exact bodyPost_ret (v := .tuple #[u2, u3]) (by simp [results, Try.results48, go_sem]) rfl ⟨u2, u3, K, R, rfl, by rw [hlen]; exact HS.out, HL.out, HR.out, HD.out, hw⟩

end Go.Proofs.Ytnbeaeekfahijaa

/- Hodgson of the program; marks in a row with room. -/
namespace Go.Proofs.Ytnbeaeekfahijaa
open Go.RowKit Go.Sort

set_option maxHeartbeats 1000000 in
theorem markC_any (B n c : Nat) (k0 : Int) (ls : List Jb) (w : World) (h : JobB w B c n ls) (hnc : n ≤ c) (hn : n ≤ 1048576) (h0 : 0 ≤ k0) (h1 : k0 ≤ 1073741824) :
    Calls Try.prog 36 #[.slice (some ⟨B, 0, none⟩) n c, .int .i64 k0] w fun e w' => e = .returned (.int .i64 (k0 + 7 * n)) ∧ JobB w' B c n (jmarks k0 n) ∧ Only B w w' := by
  go_enter Try.func36, Try.ntmps36
  go_wp2
  go_loopw [1, 5] (fun m i wr => ∃ k : Nat, k ≤ n ∧ i = .int .i64 k ∧ m = .int .i64 (k0 + 7 * k) ∧ JobB wr B c k (jmarks k0 n) ∧ Only B w wr) (fun _ i _ => n - (intOf i).toNat)
  case atStart =>
    obtain ⟨cur, hcur, hcs, _⟩ := h
    exact ⟨0, by omega, rfl, by go_num, ⟨cur, hcur, hcs, fun i hi => by omega⟩, Only.refl _ _⟩
  case round =>
    obtain ⟨k, hk, rfl, rfl, ⟨cur, hcur, hcs, hck⟩, hw⟩ := hrel
    by_cases hlt : k < n
    · have HG := jmarks_g k0 n k hlt
      have g0 := cell_of_blk (k * 7) hcur (by omega)
      have f0 := free_of_blk (k * 7) hcur
      have g1 := cell_of_blk (k * 7 + 1) hcur (by omega)
      have f1 := free_of_blk (k * 7 + 1) hcur
      have g2 := cell_of_blk (k * 7 + 2) hcur (by omega)
      have f2 := free_of_blk (k * 7 + 2) hcur
      have g3 := cell_of_blk (k * 7 + 3) hcur (by omega)
      have f3 := free_of_blk (k * 7 + 3) hcur
      have g4 := cell_of_blk (k * 7 + 4) hcur (by omega)
      have f4 := free_of_blk (k * 7 + 4) hcur
      have g5 := cell_of_blk (k * 7 + 5) hcur (by omega)
      have f5 := free_of_blk (k * 7 + 5) hcur
      have g6 := cell_of_blk (k * 7 + 6) hcur (by omega)
      have f6 := free_of_blk (k * 7 + 6) hcur
      go_wp2
      go_roundw
      case rel => exact ⟨k + 1, by omega, by go_num, by go_num, JobB.step hcur hcs (Nat.lt_of_lt_of_le hlt hnc) hck (by rw [HG]; unfold jmark; congr 1 <;> omega), ((((((hw.setCell _ _).setCell _ _).setCell _ _).setCell _ _).setCell _ _).setCell _ _).setCell _ _⟩
      case measure => simp [intOf]; omega
    · have e : k = n := by omega
      subst e
      go_wp2
      go_ret
      exact ⟨rfl, ⟨cur, hcur, hcs, hck⟩, hw⟩

set_option maxHeartbeats 1000000 in
theorem heldC_any (B n c : Nat) (k0 : Int) (w : World) (h : JobB w B c n (jmarks k0 n)) (hnc : n ≤ c) (hn : n ≤ 1048576) (h0 : 0 ≤ k0) (h1 : k0 ≤ 1073741824) :
    Calls Try.prog 37 #[.slice (some ⟨B, 0, none⟩) n c, .int .i64 k0] w fun e w' => e = .returned (.int .i64 (k0 + 7 * n)) ∧ w' = w := by
  obtain ⟨cur, hcur, hcs, hck⟩ := h
  go_enter Try.func37, Try.ntmps37
  go_wp2
  go_loop [1, 5] (fun m i => ∃ k : Nat, k ≤ n ∧ i = .int .i64 k ∧ m = .int .i64 (k0 + 7 * k)) (fun _ i => n - (intOf i).toNat)
  case atStart => exact ⟨0, by omega, rfl, by go_num⟩
  case round =>
    obtain ⟨k, hk, rfl, rfl⟩ := hrel
    by_cases hlt : k < n
    · skip
      have g0 : w.cell? ⟨B, k * 7, none⟩ = some (.int .i64 (k0 + 7 * k)) := by have := hck k hlt 0 (by omega); rw [jmarks_g k0 n k hlt] at this; simp only [jc, jmark, Nat.add_zero] at this; rw [← this]; simp [World.cell?, hcur]
      have g1 : w.cell? ⟨B, k * 7 + 1, none⟩ = some (.int .i64 (k0 + 7 * k + 1)) := by have := hck k hlt 1 (by omega); rw [jmarks_g k0 n k hlt] at this; simp only [jc, jmark] at this; rw [← this]; simp [World.cell?, hcur]
      have g2 : w.cell? ⟨B, k * 7 + 2, none⟩ = some (.int .i64 (k0 + 7 * k + 2)) := by have := hck k hlt 2 (by omega); rw [jmarks_g k0 n k hlt] at this; simp only [jc, jmark] at this; rw [← this]; simp [World.cell?, hcur]
      have g3 : w.cell? ⟨B, k * 7 + 3, none⟩ = some (.int .i64 (k0 + 7 * k + 3)) := by have := hck k hlt 3 (by omega); rw [jmarks_g k0 n k hlt] at this; simp only [jc, jmark] at this; rw [← this]; simp [World.cell?, hcur]
      have g4 : w.cell? ⟨B, k * 7 + 4, none⟩ = some (.int .i64 (k0 + 7 * k + 4)) := by have := hck k hlt 4 (by omega); rw [jmarks_g k0 n k hlt] at this; simp only [jc, jmark] at this; rw [← this]; simp [World.cell?, hcur]
      have g5 : w.cell? ⟨B, k * 7 + 5, none⟩ = some (.int .i64 (k0 + 7 * k + 5)) := by have := hck k hlt 5 (by omega); rw [jmarks_g k0 n k hlt] at this; simp only [jc, jmark] at this; rw [← this]; simp [World.cell?, hcur]
      have g6 : w.cell? ⟨B, k * 7 + 6, none⟩ = some (.int .i64 (k0 + 7 * k + 6)) := by have := hck k hlt 6 (by omega); rw [jmarks_g k0 n k hlt] at this; simp only [jc, jmark] at this; rw [← this]; simp [World.cell?, hcur]
      clear hck
      go_wp2
      go_round
      case rel => exact ⟨k + 1, by omega, by go_num, by go_num⟩
      case measure => simp [intOf]; omega
    · have e : k = n := by omega
      subst e
      go_wp2
      go_ret
      exact ⟨rfl, rfl⟩

theorem OwnJ.toB {w : World} {base g cap : Nat} {ys : List Jb} (h : OwnJ w base g cap ys) : JobB w g cap ys.length ys := by
  have hcell : ∀ i, i < ys.length → ∀ c, c < 7 → w.cell? ⟨g, i * 7 + c, none⟩ = some (.int .i64 (jc (jg ys i) c)) := fun i hi c hc => (h.cell hi hc).1
  rcases h.own.2 with ⟨e, _⟩ | ⟨g', cap', cur, e, hg, hgg, h1, h2, h3, h4⟩
  · cases e
  · injection e with e1 _ e3
    injection e1 with e1
    injection e1 with e1 _ _
    subst e1 e3
    refine ⟨cur, hgg, h3, fun i hi c hc => ?_⟩
    have := hcell i hi c hc
    simpa [World.cell?, hgg] using this

theorem JobB.cells {w : World} {B n : Nat} {ys : List Jb} (h : JobB w B n n ys) (hl : ys.length = n) : ∀ j u, (jcells ys)[j]? = some u → w.cell? ((⟨B, 0, none⟩ : Addr).add j) = some u := by
  intro j u hj
  obtain ⟨cur, h1, h2, h3⟩ := h
  obtain ⟨k1, rfl⟩ := jcells_get hj
  have hadd : (⟨B, 0, none⟩ : Addr).add j = ⟨B, j, none⟩ := by unfold Addr.add; split <;> simp_all
  rw [hadd]
  have := h3 (j / 7) (by omega) (j % 7) (by omega)
  rw [show j / 7 * 7 + j % 7 = j by omega] at this
  simp [World.cell?, h1, this]

/-- a list of jobs of the call's own: none, or a row -/
def LJ (w : World) (base : Nat) (v : Option Addr) (n c : Nat) (ys : List Jb) : Prop := n = ys.length ∧ ((v = none ∧ c = 0 ∧ ys = []) ∨ ∃ g, v = some ⟨g, 0, none⟩ ∧ OwnJ w base g c ys)
theorem LJ.of {w : World} {base : Nat} {v : Value} {ys : List Jb} (h : w.ownsRow base 31 7 v ys.length (jcells ys)) : ∃ a c, v = .slice a ys.length c ∧ LJ w base a ys.length c ys := by
  by_cases hv : v = .slice none 0 0
  · subst hv
    have h0 : ys.length = 0 := by
      rcases h.2 with ⟨_, h0⟩ | ⟨g, cap, cur, e, _⟩
      · exact h0
      · cases e
    have hy := List.length_eq_zero_iff.1 h0
    subst hy
    exact ⟨none, 0, rfl, rfl, Or.inl ⟨rfl, rfl, rfl⟩⟩
  · obtain ⟨g, cap, e, O⟩ := ownJ_of h rfl rfl hv
    exact ⟨_, cap, e, rfl, Or.inr ⟨g, rfl, O⟩⟩
theorem LJ.toS {w : World} {base : Nat} {v : Option Addr} {n c : Nat} {ys : List Jb} (h : LJ w base v n c ys) (wf : ∀ i, i < ys.length → jwf (jg ys i)) : JobS w v n c ys := by
  obtain ⟨rfl, ⟨rfl, rfl, rfl⟩ | ⟨g, rfl, O⟩⟩ := h
  · exact JobS.nil_ w
  · exact O.toS wf
theorem LJ.below {w w' : World} {base : Nat} {v : Option Addr} {n c : Nat} {ys : List Jb} (h : LJ w base v n c ys) (hb : Below w.heap.size w w') : LJ w' base v n c ys := by
  obtain ⟨e, h⟩ := h
  refine ⟨e, h.imp id ?_⟩
  rintro ⟨g, e, O⟩
  exact ⟨g, e, O.below hb⟩
theorem LJ.low {w : World} {base base' : Nat} {v : Option Addr} {n c : Nat} {ys : List Jb} (h : LJ w base v n c ys) (hb : base' ≤ base) : LJ w base' v n c ys := by
  obtain ⟨e, h⟩ := h
  refine ⟨e, h.imp id ?_⟩
  rintro ⟨g, e, O⟩
  exact ⟨g, e, O.low hb⟩

theorem wf_sub {ls ys : List Jb} (h : ∀ x ∈ ys, x ∈ ls) (wf : ∀ i, i < ls.length → jwf (jg ls i)) : ∀ i, i < ys.length → jwf (jg ys i) := by
  intro i hi
  obtain ⟨q, hq, e⟩ := List.getElem_of_mem (h _ (show jg ys i ∈ ys by rw [jg_get hi]; exact List.getElem_mem hi))
  rw [← e, ← jg_get hq]; exact wf q hq

set_option maxRecDepth 8000 in
set_option maxHeartbeats 4000000 in
theorem implHodgson_yes (a : Option Addr) (n cap : Nat) (ls : List Jb) (w : World) (h : JobS w a n cap ls) (hq : jsB ls = true) :
    Calls Try.prog 25 #[.slice a n cap] w fun e w' => ∃ v c ys, e = .returned (.slice v ys.length c) ∧ LJ w' w.heap.size v ys.length c ys ∧ IsHod ls ys ∧ Below w.heap.size w w' := by
  obtain ⟨i1, hji, hj0, hj1, hj2⟩ := info_parts infoJ
  have hlen := h.len
  go_enter Try.func25, Try.ntmps25
  go_wp2_with fail
  refine (implJackson_yes a n cap ls _ h hq).mono ?_
  rintro e w1 ⟨B, E, rfl, hB, hJ, hEl, hE, hb1⟩
  have hn40 : n ≤ 40 := by have := (jsB_t hq).n; omega
  have hEp := (hE.perm hq).1
  have hj := (jsB_t hq).perm hEp
  have wfE : ∀ i, i < E.length → jwf (jg E i) := wf_sub (fun x hx => hEp.subset hx) (fun i hi => h.wf i (by omega))
  have hS : JobS w1 (some ⟨B, 0, none⟩) n n E := hJ.toS hEl (by omega) (fun i hi => wfE i (by omega))
  have hfin : ∀ K R R', HSt E E.length K R → IsBy ltDue R R' → IsHod ls (K ++ R') := fun K R R' h1 h2 => Or.inr ⟨hq, E, K, R, R', hE, h1, h2, rfl⟩
  go_wp2_with fail
  refine (parted_any _ n n E _ hS hj).mono ?_
  rintro e w2 ⟨l, r, K, R, rfl, hst, OL, OR, hD, hb2⟩
  have hjR := (hst.jsK hj (Nat.le_refl _)).2.1
  have hkl := hst.len (Nat.le_refl _)
  have hE40 := hj.n
  have hRE : ∀ x ∈ R, x ∈ E := fun x hx => by
    have := (hst.perm (Nat.le_refl _)).subset (List.mem_append_right _ hx)
    rwa [List.take_length] at this
  obtain ⟨ar, cr, rfl, LR⟩ := LJ.of OR
  have SR := LR.toS (wf_sub hRE wfE)
  have hb12 := hb1.then hb2 hb1.size
  go_wp2_with fail
  refine (implJackson_yes ar R.length cr R _ SR (jsB_mk hjR)).mono ?_
  rintro e w3 ⟨B3, R', rfl, hB3, hJ3, hRl, hR', hb3⟩
  have OL3 := ownR_below OL hb3
  have z1 := hb1.size
  have z2 := hb2.size
  have z3 := hb3.size
  have hcl := hJ3.cells hRl
  have hjl : (jcells R').length = R.length * 7 := by rw [jcells_len, hRl]
  have hKR : K.length + R.length ≤ 40 := by omega
  clear hkl
  go_wp2_with (at_builtin; refine wpList_append_own_at _ rfl (.tmp 11) (.tmp 13) 24 rfl w1.heap.size 31 i1 (.agg #[.int .i64 0, .int .i64 0, .int .i64 0, .int .i64 0, .int .i64 0, .int .i64 0, .int .i64 0]) 7 56 Try.underlying24 hji hj0 hj1 hj2 rfl (by decide) _ _ _ rfl OL3 ⟨B3, 0, none⟩ R.length R.length (jcells R') rfl hjl hcl (jcells_one _) (by unfold maxLen; omega) (by omega) (by omega) ?_)
  intro v4 w4 own4 grow4 nil4 at4
  have hkr : K.length + R.length = (K ++ R').length := by simp [hRl]
  obtain ⟨ys, hys⟩ : ∃ ys, ys = K ++ R' := ⟨_, rfl⟩
  have own5 : w4.ownsRow w1.heap.size 31 7 v4 ys.length (jcells ys) := by rw [hys, ← hkr, jcells_app]; exact own4
  have hH : IsHod ls ys := by rw [hys]; exact hfin K R R' hst hR'
  obtain ⟨v, c, rfl, L5⟩ := LJ.of own5
  have B4 : Below w.heap.size w w4 := (hb12.trans (hb3.mono (by omega))).grown grow4 (by omega) (fun g hg => by have := (ownR_lt OL hg).1; omega)
  have HL5 : Hid _ := L5.low z1
  have HL6 : Hid (LJ w4 w.heap.size v ys.length c ys) := HL5.out
  clear own4 own5 grow4 nil4 at4 hkr L5 hys HL5 hfin
  go_wp2
  go_ret
  exact ⟨v, c, ys, rfl, HL6.out, hH, B4⟩

set_option maxRecDepth 8000 in
set_option maxHeartbeats 4000000 in
theorem implHodgson_no (a : Option Addr) (n cap : Nat) (ls : List Jb) (w : World) (h : JobS w a n cap ls) (hq : jsB ls = false) :
    Calls Try.prog 25 #[.slice a n cap] w fun e w' => ∃ v c ys, e = .returned (.slice v ys.length c) ∧ LJ w' w.heap.size v ys.length c ys ∧ IsHod ls ys ∧ Below w.heap.size w w' := by
  obtain ⟨i1, hji, hj0, hj1, hj2⟩ := info_parts infoJ
  have hlen := h.len
  go_enter Try.func25, Try.ntmps25
  go_wp2_with fail
  refine (implJackson_no a n cap ls _ h hq).mono ?_
  rintro e w1 ⟨rfl, hb1⟩
  obtain ⟨E, hE0⟩ : ∃ E : List Jb, E = [] := ⟨_, rfl⟩
  have hj : JsOk E := by subst hE0; exact jsB_t js_nil
  have wfE : ∀ i, i < E.length → jwf (jg E i) := by subst hE0; intro i hi; simp at hi
  have hS : JobS w1 none 0 0 E := by subst hE0; exact JobS.nil_ w1
  have hfin : ∀ K R R', HSt E E.length K R → IsBy ltDue R R' → IsHod ls (K ++ R') := fun K R R' h1 h2 => by
    subst hE0
    obtain ⟨rfl, rfl⟩ := h1
    have := (h2.perm js_nil).1.length_eq
    exact Or.inl ⟨hq, List.length_eq_zero_iff.1 (by simpa using this)⟩
  clear hE0
  go_wp2_with fail
  refine (parted_any _ 0 0 E _ hS hj).mono ?_
  rintro e w2 ⟨l, r, K, R, rfl, hst, OL, OR, hD, hb2⟩
  have hjR := (hst.jsK hj (Nat.le_refl _)).2.1
  have hkl := hst.len (Nat.le_refl _)
  have hE40 := hj.n
  have hRE : ∀ x ∈ R, x ∈ E := fun x hx => by
    have := (hst.perm (Nat.le_refl _)).subset (List.mem_append_right _ hx)
    rwa [List.take_length] at this
  obtain ⟨ar, cr, rfl, LR⟩ := LJ.of OR
  have SR := LR.toS (wf_sub hRE wfE)
  have hb12 := hb1.then hb2 hb1.size
  go_wp2_with fail
  refine (implJackson_yes ar R.length cr R _ SR (jsB_mk hjR)).mono ?_
  rintro e w3 ⟨B3, R', rfl, hB3, hJ3, hRl, hR', hb3⟩
  have OL3 := ownR_below OL hb3
  have z1 := hb1.size
  have z2 := hb2.size
  have z3 := hb3.size
  have hcl := hJ3.cells hRl
  have hjl : (jcells R').length = R.length * 7 := by rw [jcells_len, hRl]
  have hKR : K.length + R.length ≤ 40 := by omega
  clear hkl
  go_wp2_with (at_builtin; refine wpList_append_own_at _ rfl (.tmp 11) (.tmp 13) 24 rfl w1.heap.size 31 i1 (.agg #[.int .i64 0, .int .i64 0, .int .i64 0, .int .i64 0, .int .i64 0, .int .i64 0, .int .i64 0]) 7 56 Try.underlying24 hji hj0 hj1 hj2 rfl (by decide) _ _ _ rfl OL3 ⟨B3, 0, none⟩ R.length R.length (jcells R') rfl hjl hcl (jcells_one _) (by unfold maxLen; omega) (by omega) (by omega) ?_)
  intro v4 w4 own4 grow4 nil4 at4
  have hkr : K.length + R.length = (K ++ R').length := by simp [hRl]
  obtain ⟨ys, hys⟩ : ∃ ys, ys = K ++ R' := ⟨_, rfl⟩
  have own5 : w4.ownsRow w1.heap.size 31 7 v4 ys.length (jcells ys) := by rw [hys, ← hkr, jcells_app]; exact own4
  have hH : IsHod ls ys := by rw [hys]; exact hfin K R R' hst hR'
  obtain ⟨v, c, rfl, L5⟩ := LJ.of own5
  have B4 : Below w.heap.size w w4 := (hb12.trans (hb3.mono (by omega))).grown grow4 (by omega) (fun g hg => by have := (ownR_lt OL hg).1; omega)
  have HL5 : Hid _ := L5.low z1
  have HL6 : Hid (LJ w4 w.heap.size v ys.length c ys) := HL5.out
  clear own4 own5 grow4 nil4 at4 hkr L5 hys HL5 hfin
  go_wp2
  go_ret
  exact ⟨v, c, ys, rfl, HL6.out, hH, B4⟩

end Go.Proofs.Ytnbeaeekfahijaa

/- Hodgson of the model. -/
namespace Go.Proofs.Ytnbeaeekfahijaa
open Go.RowKit Go.Sort

theorem far_next {M : List Jb} {m f : Nat} (h : ∀ p, p < m → ltLong (jg M f) (jg M p) = false) (hlt : ltLong (jg M f) (jg M m) = true) : ∀ p, p < m + 1 → ltLong (jg M m) (jg M p) = false := fun p hp => by
  by_cases e : p = m
  · subst e; exact swo_long.irrefl _
  · rw [Bool.eq_false_iff]; intro h1
    have := swo_long.trans _ _ _ hlt h1
    rw [h p (by omega)] at this; cases this
theorem far_stay {M : List Jb} {m f : Nat} (h : ∀ p, p < m → ltLong (jg M f) (jg M p) = false) (hlt : ltLong (jg M f) (jg M m) = false) : ∀ p, p < m + 1 → ltLong (jg M f) (jg M p) = false := fun p hp => by
  by_cases e : p = m
  · subst e; exact hlt
  · exact h p (by omega)

theorem OwnJ.cells {w : World} {base g cap : Nat} {ys : List Jb} (h : OwnJ w base g cap ys) : ∀ j u, (jcells ys)[j]? = some u → w.cell? ((⟨g, 0, none⟩ : Addr).add j) = some u := fun j u hju => World.ownsRow.cells h.own (g := g) rfl j u hju
theorem OwnJ.cellsTake {w : World} {base g cap : Nat} {ys : List Jb} (h : OwnJ w base g cap ys) (k : Nat) : ∀ j u, (jcells (ys.take k))[j]? = some u → w.cell? ((⟨g, 0, none⟩ : Addr).add j) = some u := fun j u hju => by
  refine h.cells j u ?_
  have e : jcells ys = jcells (ys.take k) ++ jcells (ys.drop k) := by rw [← jcells_app, List.take_append_drop]
  rw [e, List.getElem?_append_left (List.getElem?_eq_some_iff.1 hju).1]
  exact hju

set_option maxRecDepth 8000 in
set_option maxHeartbeats 8000000 in
theorem specHodgson_any (a : Option Addr) (n cap : Nat) (ls : List Jb) (w : World) (h : JobS w a n cap ls) :
    Calls Try.prog 28 #[.slice a n cap] w fun e w' => ∃ g c ys, e = .returned (.slice (some ⟨g, 0, none⟩) ys.length c) ∧ OwnJ w' w.heap.size g c ys ∧ IsHod ls ys ∧ Below w.heap.size w w' := by
  obtain ⟨i1, hji, hj0, hj1, hj2⟩ := info_parts infoJ
  have hlen := h.len
  rcases hq : jsB ls with _ | _
  · go_enter Try.func28, Try.ntmps28
    go_wp2_with (go_at_call 18; refine (specJobsOk_any _ _ _ _ _ h).mono ?_; rw [hq]; rintro e w1 ⟨rfl, hb1⟩)
    go_ret
    exact ⟨w1.heap.size, 0, [], rfl, (own_nil w1).lower hb1.size, Or.inl ⟨hq, rfl⟩, hb1.alloc hb1.size _⟩
  · have hn40 : n ≤ 40 := by have := (jsB_t hq).n; omega
    go_enter Try.func28, Try.ntmps28
    go_wp2_with fail
    refine (specJobsOk_any _ _ _ _ _ h).mono ?_
    rw [hq]
    rintro e w1 ⟨rfl, hb1⟩
    go_wp2_with fail
    refine (l5Jackson_any a n cap ls _ (h.below hb1) hn40).mono ?_
    rintro e w2 ⟨gE, cE, E, rfl, OE, hEl, hEp, hEs, hb2⟩
    have hE : IsBy ltDue ls E := Or.inr ⟨hq, hEp, hEs⟩
    have hj := (jsB_t hq).perm hEp
    have wfE : ∀ i, i < E.length → jwf (jg E i) := wf_sub (fun x hx => hEp.subset hx) (fun i hi => h.wf i (by omega))
    have z1 := hb1.size
    have hb12 := hb1.then hb2 z1
    have z2 := hb2.size
    have gEl := OE.lt
    -- kept and aside, empty
    have bA : Below w2.heap.size w2 (w2.alloc (.cells #[] 31)) := box_below
    have bB : Below (w2.alloc (.cells #[] 31)).heap.size (w2.alloc (.cells #[] 31)) ((w2.alloc (.cells #[] 31)).alloc (.cells #[] 31)) := box_below
    have HK0 : Hid (OwnJ ((w2.alloc (.cells #[] 31)).alloc (.cells #[] 31)) w2.heap.size w2.heap.size 0 []) := (own_nil w2).below bB
    have HR0 : Hid (OwnJ ((w2.alloc (.cells #[] 31)).alloc (.cells #[] 31)) w2.heap.size (w2.heap.size + 1) 0 []) := by
      have := (own_nil (w2.alloc (.cells #[] 31))).lower (base' := w2.heap.size) (by simp)
      rwa [show (w2.alloc (.cells #[] 31)).heap.size = w2.heap.size + 1 by simp] at this
    have bAB := bA.then bB bA.size
    clear bA bB
    go_wp2
    go_loopw [4, 5, 6, 7] (fun u v s i wr => ∃ (k gK cK gR cR : Nat) (K R : List Jb), k ≤ n ∧ i = .int .i64 k ∧ u = .slice (some ⟨gK, 0, none⟩) K.length cK ∧ v = .slice (some ⟨gR, 0, none⟩) R.length cR ∧ s = .int .i64 (tot K) ∧ Hid (HSt E k K R) ∧ Hid (OwnJ wr w2.heap.size gK cK K) ∧ Hid (OwnJ wr w2.heap.size gR cR R) ∧ gK ≠ gR ∧ Below w2.heap.size w2 wr) (fun _ _ _ i _ => n - (intOf i).toNat)
    case atStart => exact ⟨0, _, 0, _, 0, [], [], by omega, rfl, rfl, rfl, rfl, ⟨rfl, rfl⟩, HK0.out, HR0.out, by omega, bAB⟩
    case round =>
      obtain ⟨k, gK, cK, gR, cR, K, R, hk, rfl, rfl, rfl, rfl, HS, HK, HR, hKR, hw⟩ := hrel
      by_cases hlt : k < n
      · have hlt' : (k : Int) < (n : Int) := by omega
        have hz := hw.size
        have hkl := HS.out.len (by omega)
        have hjM := (HS.out.jsK hj (by omega)).2.2 (by omega)
        have tb := tot_bd (ls := K) (fun x hx => (js_all (jsB_mk (HS.out.jsK hj (by omega)).1)) x hx)
        have jb := jok_bd (hj.ok k (by omega)).1
        have eM : tot (K ++ [jg E k]) = tot K + (jg E k).long := by rw [tot_app]; show tot K + ((jg E k).long + 0) = _; omega
        have hMl : (K ++ [jg E k]).length = K.length + 1 := by simp
        have OEr := OE.keep (hw.block gE gEl) hz
        have C0 := OEr.cell (i := k) (f := 0) (by omega) (by omega)
        have C1 := OEr.cell (i := k) (f := 1) (by omega) (by omega)
        have C2 := OEr.cell (i := k) (f := 2) (by omega) (by omega)
        have C3 := OEr.cell (i := k) (f := 3) (by omega) (by omega)
        have C4 := OEr.cell (i := k) (f := 4) (by omega) (by omega)
        have C5 := OEr.cell (i := k) (f := 5) (by omega) (by omega)
        have C6 := OEr.cell (i := k) (f := 6) (by omega) (by omega)
        simp only [jc, Nat.add_zero] at C0 C1 C2 C3 C4 C5 C6
        have hcE : n ≤ cE := by have := OE.le; omega
        have hmE : cE ≤ maxLen := OE.mx
        unfold maxLen at hmE
        have OA := (HK.out.below (box_below (cs := #[.int .i64 (jg E k).id, .int .i64 (jg E k).cores, .int .i64 (jg E k).long, .int .i64 (jg E k).due, .int .i64 (jg E k).wt, .int .i64 (jg E k).rank, .int .i64 (jg E k).at_]) (T := 31))).own
        have HN : Hid _ := new7_cells' wr (jg E k) 31
        have lK := HK.out.lt
        have lR := HR.out.lt
        have bK := HK.out.base
        have bR := HR.out.base
        have hK40 : K.length ≤ 40 := by omega
        have hR40 : R.length ≤ 40 := by omega
        go_wp2_with (at_builtin; refine wpList_append_own_at _ rfl (.tmp 24) (.tmp 29) 24 rfl w2.heap.size 31 i1 (.agg #[.int .i64 0, .int .i64 0, .int .i64 0, .int .i64 0, .int .i64 0, .int .i64 0, .int .i64 0]) 7 56 Try.underlying24 hji hj0 hj1 hj2 rfl (by decide) _ _ _ rfl OA ⟨wr.heap.size, 0, none⟩ 1 1 [.int .i64 (jg E k).id, .int .i64 (jg E k).cores, .int .i64 (jg E k).long, .int .i64 (jg E k).due, .int .i64 (jg E k).wt, .int .i64 (jg E k).rank, .int .i64 (jg E k).at_] rfl rfl HN.out (jl_one (jg E k)) (by unfold maxLen; omega) (by omega) (by simp; omega) ?_)
        intro v3 w3 own3 grow3 nil3 at3
        obtain ⟨g3, c3, rfl, O3⟩ := ownJ_of' (ys := K ++ [jg E k]) own3 (by simp) (by rw [jcells_app]; rfl) nil3
        have B3 : Below w2.heap.size w2 w3 := (hw.alloc hz _).grown grow3 (by simp; omega) (fun g hg => by have e' : gK = g := Option.some.inj hg; omega)
        have HR3 : Hid (OwnJ w3 w2.heap.size gR cR R) := (HR.out.below (box_below (cs := #[.int .i64 (jg E k).id, .int .i64 (jg E k).cores, .int .i64 (jg E k).long, .int .i64 (jg E k).due, .int .i64 (jg E k).wt, .int .i64 (jg E k).rank, .int .i64 (jg E k).at_]) (T := 31))).keep (grow3.block gR (by simp; omega) (fun e => by have e' : gR = gK := Option.some.inj e; omega)) grow3.size
        have hg3 : g3 ≠ gR := by
          rcases at3 with e | e
          · have e' : g3 = gK := Option.some.inj e; omega
          · simp [Value.ownBlock] at e; omega
        have OEr := OE.keep (B3.block gE gEl) B3.size
        have D2 := OEr.cell (i := k) (f := 2) (by omega) (by omega)
        have D3 := OEr.cell (i := k) (f := 3) (by omega) (by omega)
        simp only [jc] at D2 D3
        have HO3 : Hid _ := O3
        have tk0 : 0 ≤ tot K := tb.1
        have tk1 : tot K ≤ 400000 := by have := tb.2; omega
        have tl0 : 1 ≤ (jg E k).long := jb.1
        have tl1 : (jg E k).long ≤ 10000 := jb.2.1
        clear own3 grow3 nil3 at3 OA HN O3 OEr C0 C1 C2 C3 C4 C5 C6 tb jb HK HR
        by_cases hc : tot (K ++ [jg E k]) ≤ (jg E k).due
        · have hs : Hid (HSt E (k + 1) (K ++ [jg E k]) R) := ⟨K, R, HS.out, Or.inl ⟨hc, rfl, rfl⟩⟩
          rw [eM] at hc
          have HM : Hid (tot (K ++ [jg E k]) = tot K + (jg E k).long) := eM
          have hkl' : Hid (K.length + R.length = k) := hkl
          clear eM hkl
          go_wp2
          go_roundw
          case rel => exact ⟨k + 1, g3, c3, gR, cR, K ++ [jg E k], R, by omega, by go_num, by rw [hMl], rfl, by rw [HM.out], hs, HO3.out, HR3.out, hg3, B3⟩
          case measure => simp [intOf]; omega
        · have hs : Hid (∀ i, IsFar (K ++ [jg E k]) i → HSt E (k + 1) ((K ++ [jg E k]).eraseIdx i) (R ++ [jg (K ++ [jg E k]) i])) := fun i hi => ⟨K, R, HS.out, Or.inr ⟨hc, i, hi, rfl, rfl⟩⟩
          have okM : ∀ i, i < (K ++ [jg E k]).length → jok (jg (K ++ [jg E k]) i) = true := fun i hi => (hjM.ok i hi).1
          have hM40 := hjM.n
          obtain ⟨M, hMd⟩ : ∃ M, K ++ [jg E k] = M := ⟨_, rfl⟩
          rw [hMd] at hs okM hjM hM40 HO3 hMl eM hc
          clear hMd HS
          have hc' : ¬ (tot K + (jg E k).long ≤ (jg E k).due) := by omega
          rw [← hMl]
          have HMl : Hid (M.length = K.length + 1) := hMl
          have hM1 : 1 ≤ M.length := by omega
          have HTM : Hid (tot M = tot K + (jg E k).long) := eM
          have l3 := HO3.out.lt
          have b3 := HO3.out.base
          have hc3 : M.length ≤ c3 := HO3.out.le
          have hmc3 : c3 ≤ maxLen := HO3.out.mx
          unfold maxLen at hmc3
          clear hMl hkl eM hc
          go_wp2
          go_loopw [8, 9] (fun r p wi => ∃ (m f : Nat), m ≤ M.length ∧ f < M.length ∧ p = .int .i64 m ∧ r = .int .i64 f ∧ Hid (∀ p, p < m → ltLong (jg M f) (jg M p) = false) ∧ Below w3.heap.size w3 wi) (fun _ p _ => M.length - (intOf p).toNat)
          case atStart => exact ⟨0, 0, by omega, by omega, rfl, rfl, (fun p hp => by omega), Below.refl _ _⟩
          case round =>
            obtain ⟨m, f, hmM, hfM, rfl, rfl, HF, hwi⟩ := hrel
            rename World => wi
            have Oi := HO3.out.below hwi
            by_cases hmt : m < M.length
            · have hmt' : (m : Int) < (M.length : Int) := by omega
              have hft' : (f : Int) < (M.length : Int) := by omega
              have I0 := (Oi.cell (i := m) (f := 0) hmt (by omega)).1
              have I2 := (Oi.cell (i := m) (f := 2) hmt (by omega)).1
              have E0 := (Oi.cell (i := f) (f := 0) hfM (by omega)).1
              have E2 := (Oi.cell (i := f) (f := 2) hfM (by omega)).1
              simp only [jc, Nat.add_zero] at I0 I2 E0 E2
              have HL : ltLong (jg M f) (jg M m) = decide ((jg M f).long < (jg M m).long ∨ ((jg M f).long = (jg M m).long ∧ (jg M f).id < (jg M m).id)) := rfl
              clear Oi
              by_cases c1 : (jg M f).long < (jg M m).long
              · have HM' : Hid (∀ p, p < m + 1 → ltLong (jg M m) (jg M p) = false) := far_next HF.out (by rw [HL]; simp [c1])
                clear HL I0 E0
                go_wp2
                go_quiet (fail)
                go_wp2
                go_roundw
                case rel => exact ⟨m + 1, m, by omega, by omega, by go_num, rfl, HM', hwi.drewNI _⟩
                case measure => simp [intOf]; omega
              · have d1 : decide ((jg M f).long < (jg M m).long) = false := decide_eq_false c1
                by_cases c2 : (jg M m).long = (jg M f).long
                · have d2 : ((jg M m).long == (jg M f).long) = true := by simpa using c2
                  by_cases c3' : (jg M f).id < (jg M m).id
                  · have HM' : Hid (∀ p, p < m + 1 → ltLong (jg M m) (jg M p) = false) := far_next HF.out (by rw [HL]; simp [c2, c3'])
                    clear HL c1 c2
                    go_wp2
                    go_quiet (fail)
                    go_wp2
                    go_roundw
                    case rel => exact ⟨m + 1, m, by omega, by omega, by go_num, rfl, HM', hwi.drewNI _⟩
                    case measure => simp [intOf]; omega
                  · have HM' : Hid (∀ p, p < m + 1 → ltLong (jg M f) (jg M p) = false) := far_stay HF.out (by rw [HL]; simp; omega)
                    have d3 : decide ((jg M f).id < (jg M m).id) = false := decide_eq_false c3'
                    clear HL c1 c2 c3'
                    go_wp2
                    go_quiet (fail)
                    go_wp2
                    go_roundw
                    case rel => exact ⟨m + 1, f, by omega, by omega, by go_num, rfl, HM', hwi.drewNI _⟩
                    case measure => simp [intOf]; omega
                · have d2 : ((jg M m).long == (jg M f).long) = false := by simpa using c2
                  have HM' : Hid (∀ p, p < m + 1 → ltLong (jg M f) (jg M p) = false) := far_stay HF.out (by rw [HL]; simp; omega)
                  clear HL c1 c2 I0 E0
                  go_wp2
                  go_quiet (fail)
                  go_wp2
                  go_roundw
                  case rel => exact ⟨m + 1, f, by omega, by omega, by go_num, rfl, HM', hwi.drewNI _⟩
                  case measure => simp [intOf]; omega
            · have e : m = M.length := by omega
              subst e
              have hfar : IsFar M f := ⟨hfM, HF.out⟩
              have Oi := HO3.out.below hwi
              have Ri := HR3.out.below hwi
              have Bi := B3.then hwi B3.size
              have Hs' : Hid (HSt E (k + 1) (M.eraseIdx f) (R ++ [jg M f])) := hs.out f hfar
              have hft' : (f : Int) < (M.length : Int) := by omega
              have f0 : (0 : Int) ≤ (f : Int) := by omega
              have I0 := (Oi.cell (i := f) (f := 0) hfM (by omega)).1
              have I1 := (Oi.cell (i := f) (f := 1) hfM (by omega)).1
              have I2 := (Oi.cell (i := f) (f := 2) hfM (by omega)).1
              have I3 := (Oi.cell (i := f) (f := 3) hfM (by omega)).1
              have I4 := (Oi.cell (i := f) (f := 4) hfM (by omega)).1
              have I5 := (Oi.cell (i := f) (f := 5) hfM (by omega)).1
              have I6 := (Oi.cell (i := f) (f := 6) hfM (by omega)).1
              simp only [jc, Nat.add_zero] at I0 I1 I2 I3 I4 I5 I6
              have ml0 : 1 ≤ (jg M f).long := (jok_bd (okM f hfM)).1
              have ml1 : (jg M f).long ≤ 10000 := (jok_bd (okM f hfM)).2.1
              have RA := (Ri.below (box_below (cs := #[.int .i64 (jg M f).id, .int .i64 (jg M f).cores, .int .i64 (jg M f).long, .int .i64 (jg M f).due, .int .i64 (jg M f).wt, .int .i64 (jg M f).rank, .int .i64 (jg M f).at_]) (T := 31))).own
              have HN : Hid _ := new7_cells' wi (jg M f) 31
              have lRi := Ri.lt
              have l3i := Oi.lt
              have bRi := Ri.base
              have zi := Bi.size
              have te := tot_erase hfM
              have HT : Hid (tot (M.eraseIdx f) = tot K + (jg E k).long - (jg M f).long) := (by have := HTM.out; omega : tot (M.eraseIdx f) = tot K + (jg E k).long - (jg M f).long)
              clear te HF hfar hs okM
              go_wp2_with (at_builtin; refine wpList_append_own_at _ rfl (.tmp 96) (.tmp 101) 24 rfl w2.heap.size 31 i1 (.agg #[.int .i64 0, .int .i64 0, .int .i64 0, .int .i64 0, .int .i64 0, .int .i64 0, .int .i64 0]) 7 56 Try.underlying24 hji hj0 hj1 hj2 rfl (by decide) _ _ _ rfl RA ⟨wi.heap.size, 0, none⟩ 1 1 [.int .i64 (jg M f).id, .int .i64 (jg M f).cores, .int .i64 (jg M f).long, .int .i64 (jg M f).due, .int .i64 (jg M f).wt, .int .i64 (jg M f).rank, .int .i64 (jg M f).at_] rfl rfl HN.out (jl_one (jg M f)) (by unfold maxLen; omega) (by omega) (by simp; omega) ?_)
              intro v5 w5 own5 grow5 nil5 at5
              obtain ⟨g5, c5, rfl, O5⟩ := ownJ_of' (ys := R ++ [jg M f]) own5 (by simp) (by rw [jcells_app]; rfl) nil5
              have B5 : Below w2.heap.size w2 w5 := (Bi.alloc zi _).grown grow5 (by simp; omega) (fun g hg => by have e' : gR = g := Option.some.inj hg; omega)
              have OM5 : OwnJ w5 w2.heap.size g3 c3 M := (Oi.below (box_below (cs := #[.int .i64 (jg M f).id, .int .i64 (jg M f).cores, .int .i64 (jg M f).long, .int .i64 (jg M f).due, .int .i64 (jg M f).wt, .int .i64 (jg M f).rank, .int .i64 (jg M f).at_]) (T := 31))).keep (grow5.block g3 (by simp; omega) (fun e => by have e' : g3 = gR := Option.some.inj e; omega)) grow5.size
              have l5 := O5.lt
              have HO5 : Hid _ := O5
              have hnil := JobS.nil_ w5
              clear own5 grow5 nil5 at5 RA HN O5 I0 I1 I2 I3 I4 I5 I6 hnil Oi Ri
              have z5 := B5.size
              have l35 := OM5.lt
              have OE5 := World.ownsRow_made (base := w5.heap.size) (e := 31) (size := 7) w5.drew #[] 0 (Nat.le_refl _) (Nat.zero_le _) rfl
              have BD : Below w5.heap.size w5 (w5.drew.alloc (.cells #[] 31)) := (Below.refl _ _).drew.alloc (Nat.le_refl _) _
              have HC1 : Hid _ := (OM5.below BD).cellsTake f
              have hj1' : (jcells (M.take f)).length = f * 7 := by rw [jcells_len]; simp; omega
              have hj2' : (jcells (M.drop (f + 1))).length = (M.length - (f + 1)) * 7 := by rw [jcells_len]; simp
              have n2 : (f : Int) + 1 ≤ (M.length : Int) := by omega
              have n3 : (M.length : Int) ≤ (c3 : Int) := by omega
              have n5 : ((f : Int) + 1).toNat = f + 1 := by omega
              have n6 : (f : Int) ≤ (c3 : Int) := by omega
              have n8 : (0 : Int) ≤ (f : Int) + 1 := by omega
              have wk : IntKind.i64.wrap ((f : Int) + 1) = (f : Int) + 1 := by rw [IntKind.wrap_i64]; omega
              obtain ⟨ad, HA, HC2⟩ : ∃ ad : Addr, (if c3 = f + 1 then some (⟨g3, 0, none⟩ : Addr) else some ⟨g3, (f + 1) * 7, none⟩) = some ad ∧ Hid (∀ W, Below w5.heap.size w5 W → ∀ j u, (jcells (M.drop (f + 1)))[j]? = some u → W.cell? (ad.add j) = some u) := by
                by_cases hum : c3 = f + 1
                · refine ⟨⟨g3, 0, none⟩, if_pos hum, fun W hW j u hju => ?_⟩
                  rw [List.drop_eq_nil_of_le (by omega)] at hju
                  simp [jcells] at hju
                · refine ⟨⟨g3, (f + 1) * 7, none⟩, if_neg hum, fun W hW j u hju => ?_⟩
                  have := (OM5.below hW).rest (f + 1) j u hju
                  rw [Nat.zero_add] at this
                  exact this
              have hel : (M.eraseIdx f).length = M.length - 1 := List.length_eraseIdx_of_lt hfM
              have hee : jcells (M.take f) ++ jcells (M.drop (f + 1)) = jcells (M.eraseIdx f) := by rw [← jcells_app, List.eraseIdx_eq_take_drop_succ]
              have htl : (M.take f).length = f := by simp; omega
              have HEL : Hid _ := hel
              have HEE : Hid _ := hee
              have HTL : Hid _ := htl
              clear hel hee htl OM5
              go_wp2
              go_region_law (first
                | (refine step_append_own rfl (.tmp 103) (.tmp 106) 24 rfl w5.heap.size 31 i1 (.agg #[.int .i64 0, .int .i64 0, .int .i64 0, .int .i64 0, .int .i64 0, .int .i64 0, .int .i64 0]) 7 56 Try.underlying24 hji hj0 hj1 hj2 rfl (by decide) _ _ _ rfl OE5 ⟨g3, 0, none⟩ f c3 (jcells (M.take f)) rfl hj1' HC1.out (jcells_one _) (by unfold maxLen; omega) (by omega) (by simp) ?_
                   intro v6 w6 own6 grow6 nil6 at6
                   rw [Nat.zero_add, List.nil_append] at own6
                   obtain ⟨g6, c6, rfl, O6⟩ := ownJ_of' (ys := M.take f) own6 (by have := HTL.out; omega) rfl (fun e => nomatch (nil6.1 e).1)
                   have B6 : Below w5.heap.size w5 w6 := BD.grown grow6 BD.size (fun r e => Nat.le_of_eq (show w5.heap.size = r from Option.some.inj e))
                   have HC6 := HC2.out w6 B6)
                | (refine step_append_own rfl (.tmp 107) (.tmp 111) 24 rfl w5.heap.size 31 i1 (.agg #[.int .i64 0, .int .i64 0, .int .i64 0, .int .i64 0, .int .i64 0, .int .i64 0, .int .i64 0]) 7 56 Try.underlying24 hji hj0 hj1 hj2 rfl (by decide) _ _ _ rfl own6 ad (M.length - (f + 1)) (c3 - (f + 1)) (jcells (M.drop (f + 1))) rfl hj2' HC6 (jcells_one _) (by unfold maxLen; omega) (by omega) B6.size ?_
                   intro v7 w7 own7 grow7 nil7 at7
                   obtain ⟨g7, c7, rfl, O7⟩ := ownJ_of' (ys := M.eraseIdx f) own7 (by have := HEL.out; omega) HEE.out (fun e => nomatch (nil7.1 e).1)
                   have B7 : Below w5.heap.size w5 w7 := B6.grown grow7 B6.size (fun r e => by have e' : g6 = r := Option.some.inj e; have := O6.base; omega)))
              all_goals
                have b7 := O7.base
                have HO7 : Hid _ := O7.lower z5
                have HO57 : Hid _ := HO5.out.below B7
                have HB7 : Hid _ := B5.then B7 z5
                clear own6 own7 grow6 grow7 nil6 nil7 at6 at7 O6 O7 B6 B7 HC6 OE5
                go_wp2
                go_roundw
                case rel => exact ⟨k + 1, g7, c7, g5, c5, M.eraseIdx f, R ++ [jg M f], by omega, by go_num, by rw [HEL.out]; exact congrArg (fun x => Value.slice _ x _) (by omega), by rw [List.length_append]; rfl, by rw [HT.out], Hs'.out, HO7.out, HO57.out, by omega, HB7.out⟩
                case measure => simp [intOf]; omega
      · have e : k = n := by omega
        subst e
        have hst := HS.out
        rw [← hEl] at hst
        have hjR := (hst.jsK hj (Nat.le_refl _)).2.1
        have hkl := hst.len (Nat.le_refl _)
        have hE40 := hj.n
        have hRE : ∀ x ∈ R, x ∈ E := fun x hx => by
          have := (hst.perm (Nat.le_refl _)).subset (List.mem_append_right _ hx)
          rwa [List.take_length] at this
        have SR := HR.out.toS (wf_sub hRE wfE)
        have hKR40 : K.length + R.length ≤ 40 := by omega
        have hR40 : R.length ≤ 40 := by omega
        have zr := hw.size
        clear hkl
        go_wp2_with fail
        refine (l5Jackson_any _ R.length cR R _ SR hR40).mono ?_
        rintro e w4 ⟨g4, c4, R', rfl, O4, hRl, hRp, hRs, hb4⟩
        have OA := (HK.out.below hb4).own
        have hcl := O4.cells
        have hjl : (jcells R').length = R.length * 7 := by rw [jcells_len, hRl]
        have z4 := hb4.size
        have bK := HK.out.base
        have hH0 : IsHod ls (K ++ R') := Or.inr ⟨hq, E, K, R, R', hE, hst, Or.inr ⟨jsB_mk hjR, hRp, hRs⟩, rfl⟩
        have hmc4 : c4 ≤ maxLen := O4.mx
        go_wp2_with (at_builtin; refine wpList_append_own_at _ rfl (.tmp 113) (.tmp 115) 24 rfl w2.heap.size 31 i1 (.agg #[.int .i64 0, .int .i64 0, .int .i64 0, .int .i64 0, .int .i64 0, .int .i64 0, .int .i64 0]) 7 56 Try.underlying24 hji hj0 hj1 hj2 rfl (by decide) _ _ _ rfl OA ⟨g4, 0, none⟩ R.length c4 (jcells R') rfl hjl hcl (jcells_one _) (by unfold maxLen; omega) (by omega) (by omega) ?_)
        intro v5 w5 own5 grow5 nil5 at5
        have hkr : K.length + R.length = (K ++ R').length := by simp [hRl]
        obtain ⟨ys, hys⟩ : ∃ ys, ys = K ++ R' := ⟨_, rfl⟩
        obtain ⟨g5, c5, rfl, O5⟩ := ownJ_of (ys := ys) own5 (by rw [hys]; exact hkr) (by rw [hys, jcells_app]) nil5
        have B5 : Below w2.heap.size w2 w5 := (hw.then hb4 zr).grown grow5 (by omega) (fun g hg => by have e' : gK = g := Option.some.inj hg; omega)
        have HO5 : Hid _ := (O5.lower z2).lower z1
        have hH : IsHod ls ys := by rw [hys]; exact hH0
        have BF := hb12.then B5 hb12.size
        clear own5 grow5 nil5 at5 hkr hys hH0 O5
        go_wp2
        go_ret
        exact ⟨g5, c5, ys, rfl, HO5.out, hH, BF⟩

end Go.Proofs.Ytnbeaeekfahijaa

/- Hodgson of both, whatever list. -/
namespace Go.Proofs.Ytnbeaeekfahijaa
open Go.RowKit Go.Sort

theorem implHodgson_any (a : Option Addr) (n cap : Nat) (ls : List Jb) (w : World) (h : JobS w a n cap ls) :
    Calls Try.prog 25 #[.slice a n cap] w fun e w' => ∃ v c ys, e = .returned (.slice v ys.length c) ∧ LJ w' w.heap.size v ys.length c ys ∧ IsHod ls ys ∧ Below w.heap.size w w' := by
  rcases hq : jsB ls with _ | _
  · exact implHodgson_no a n cap ls w h hq
  · exact implHodgson_yes a n cap ls w h hq

theorem IsHod.len {ls ys : List Jb} (h : IsHod ls ys) : ys.length ≤ 40 := by
  rcases hq : jsB ls with _ | _
  · rcases h with ⟨_, rfl⟩ | ⟨h0, _⟩
    · simp
    · rw [hq] at h0; cases h0
  · rw [(h.perm hq).length_eq]; exact (jsB_t hq).n

end Go.Proofs.Ytnbeaeekfahijaa
