/- slices.Delete of one job out of a row of the call's own. -/
import Derived.Test.YtnbeaeekfahijaaHodM
import Derived.Test.YtnbeaeekfahijaaSelS2
import Derived.Deep.DeepAppendRoom
import Derived.Deep.RegionLaw
import Derived.Lib.SliceRun
namespace Go.Proofs.Ytnbeaeekfahijaa
open Go.RowKit Go.Sort

theorem step_append_spare {P : Program} {ops : Array Oper} {o : Oper} {a : Act} {w : World} {K : Act → World → Prop} {Q : Exit → Act → World → Prop} {E : Prop}
    (hg : o.guard = none) (s x : Operand) (t : TypeId) (hop : o.op = Op.call { callee := Callee.builtin Builtin.append, args := #[s, x], argTypes := #[t, t] })
    (base : Nat) (e : TypeId) (i : TypeInfo) (size : Nat) (h1 : P.underlying t = some (.slice e)) (h2 : P.info? e = some i) (h4 : i.size = size)
    (g n cap : Nat) (xs : List Value) (hs : a.eval s = .slice (some ⟨g, 0, none⟩) n cap) (hown : w.ownsRow base e size (.slice (some ⟨g, 0, none⟩) n cap) n xs)
    (ad : Addr) (m c : Nat) (news : List Value) (hx : a.eval x = .slice (some ad) m c) (hn : news.length = m * size) (hc : ∀ j u, news[j]? = some u → w.cell? (ad.add j) = some u) (h1c : ∀ u ∈ news, u.oneCell' = true)
    (hroom : n + m ≤ cap)
    (hK : ∀ w', w'.ownsRow base e size (.slice (some ⟨g, 0, none⟩) (n + m) cap) (n + m) (xs ++ news) → w.grownBy w' (some g) → K (a.put o.dst (.slice (some ⟨g, 0, none⟩) (n + m) cap)) w') :
    if Region.wanted o (yielded ops a.tmps) = true then Oper.wp P o a w K Q else E := by
  have hw : Region.wanted o (yielded ops a.tmps) = true := by simp [Region.wanted, hg]
  rw [if_pos hw]
  obtain ⟨w', hrun, r1, r2⟩ := run_append_own_spare (P := P) w base t o.type e i size h1 h2 h4 g n cap xs hown ad m c news hn hc h1c hroom
  unfold Oper.wp
  simp [execOp, hop, resolve, invoke, builtin, hs, hx, hrun, Result.andThen]
  exact hK w' r1 r2

/-- 'clear' of one job -/
theorem run_clear_job (w : World) (ty : TypeId) (b o c : Nat) (hc : ∀ j, j < 7 → (w.cell? ⟨b, o + j, none⟩).isSome = true) (hf : ∀ j, j < 7 → w.frozen? ⟨b, o + j, none⟩ = false) :
    (Builtin.clear_ #[24] ty #[.slice (some ⟨b, o, none⟩) 1 c]).run Try.prog w = .ok (.tuple #[]) (w.setCells b o (List.replicate 7 (.int .i64 0))) := by
  have hst := run_storeCells_cells (P := Try.prog) b o (List.replicate 7 (.int .i64 0)) 0 w (by simpa using hc) (by simpa using hf) (by intro v hv; rw [List.eq_of_mem_replicate hv]; rfl)
  simp only [Nat.add_zero] at hst
  have hz : (Builtin.zeroCells (Value.agg #[.int .i64 0, .int .i64 0, .int .i64 0, .int .i64 0, .int .i64 0, .int .i64 0, .int .i64 0]).cells 1).toList = List.replicate 7 (.int .i64 0) := by kernel_rfl
  have e : List.replicate 7 (Value.int .i64 0) = [.int .i64 0, .int .i64 0, .int .i64 0, .int .i64 0, .int .i64 0, .int .i64 0, .int .i64 0] := rfl
  rw [e] at hst hz ⊢
  simp [Builtin.clear_, run_underlying Try.underlying24, hz, hst]

theorem OwnJ.beyond {w : World} {base g cap : Nat} {ys : List Jb} (h : OwnJ w base g cap ys) {o : Nat} (ho : ys.length * 7 ≤ o) (v : Value) : OwnJ (w.setCell ⟨g, o, none⟩ v) base g cap ys := by
  refine ⟨?_, h.le, h.mx, h.base, by simpa [World.setCell] using h.lt⟩
  refine ⟨h.own.1, ?_⟩
  rcases h.own.2 with ⟨e, _⟩ | ⟨g', cap', cur, e, hg, hgg, h1, h2, h3, h4⟩
  · cases e
  · injection e with e1 _ e3
    injection e1 with e1
    injection e1 with e1 _ _
    subst e1 e3
    refine .inr ⟨g, cap, _, rfl, hg, blk_set hgg _, h1, h2, by simpa using h3, ?_⟩
    rw [← h4, Array.toList_setIfInBounds, List.take_set_of_le ho]

/-- each cell of the row's room lies there -/
theorem OwnJ.room {w : World} {base g cap : Nat} {ys : List Jb} (h : OwnJ w base g cap ys) {o : Nat} (ho : o < cap * 7) : (w.cell? ⟨g, o, none⟩).isSome = true ∧ w.frozen? ⟨g, o, none⟩ = false := by
  rcases h.own.2 with ⟨e, _⟩ | ⟨g', cap', cur, e, hg, hgg, h1, h2, h3, h4⟩
  · cases e
  · injection e with e1 _ e3
    injection e1 with e1
    injection e1 with e1 _ _
    subst e1 e3
    exact ⟨by simp [World.cell?, hgg, show o < cur.size by omega], free_of_blk _ hgg⟩

theorem setCells_beyond {base g cap : Nat} {ys : List Jb} : ∀ (vs : List Value) (o : Nat) (w : World), OwnJ w base g cap ys → ys.length * 7 ≤ o → OwnJ (w.setCells g o vs) base g cap ys ∧ w.grownBy (w.setCells g o vs) (some g)
  | [], _, w, h, _ => ⟨h, ⟨rfl, rfl, rfl, Nat.le_refl _, fun _ _ _ => rfl⟩⟩
  | v :: r, o, w, h, ho => by
    obtain ⟨h1, h2⟩ := setCells_beyond r (o + 1) (w.setCell ⟨g, o, none⟩ v) (h.beyond ho v) (by omega)
    refine ⟨h1, ⟨h2.os, h2.tape, h2.output, Nat.le_trans (by simp [World.setCell]) h2.size, fun k hk hne => ?_⟩⟩
    have hkg : k ≠ g := fun e => hne (by rw [e])
    exact (h2.block k (by simpa [World.setCell] using hk) hne).trans (Below.heap_setCell _ _ _ _ hkg)

set_option maxRecDepth 8000 in
set_option maxHeartbeats 4000000 in
theorem delete_any (base g cap i : Nat) (K : List Jb) (w : World) (h : OwnJ w base g cap K) (hi : i < K.length) :
    Calls Try.prog 70 #[.slice (some ⟨g, 0, none⟩) K.length cap, .int .i64 i, .int .i64 (i + 1)] w fun e w' => e = .returned (.slice (some ⟨g, 0, none⟩) (K.length - 1) cap) ∧ OwnJ w' base g cap (K.eraseIdx i) ∧ w.grownBy w' (some g) := by
  obtain ⟨i1, hj, hj0, hj1, hj2⟩ := info_parts infoJ
  have hle := h.le
  have hmx := h.mx
  unfold maxLen at hmx
  have n1 : (i : Int) < (K.length : Int) := by omega
  have n2 : (i : Int) + 1 ≤ (K.length : Int) := by omega
  have n3 : (K.length : Int) ≤ (cap : Int) := by omega
  have n5 : ((i : Int) + 1).toNat = i + 1 := by omega
  have n6 : (i : Int) ≤ (cap : Int) := by omega
  have n7 : (0 : Int) ≤ (i : Int) := by omega
  have n8 : (0 : Int) ≤ (i : Int) + 1 := by omega
  have hne : ((i : Int) == (i : Int) + 1) = false := by rw [beq_eq_false_iff_ne]; omega
  have hd : w.drew.ownsRow base 31 7 (.slice (some ⟨g, 0, none⟩) i cap) i (jcells (K.take i)) := (h.below (Below.refl _ _).drew).pre (by omega)
  obtain ⟨ad, HA, HC⟩ : ∃ ad : Addr, (if cap = i + 1 then some (⟨g, 0, none⟩ : Addr) else some ⟨g, (i + 1) * 7, none⟩) = some ad ∧ Hid (∀ j u, (jcells (K.drop (i + 1)))[j]? = some u → w.drew.cell? (ad.add j) = some u) := by
    by_cases hum : cap = i + 1
    · refine ⟨⟨g, 0, none⟩, if_pos hum, fun j u hju => ?_⟩
      rw [List.drop_eq_nil_of_le (by omega)] at hju
      simp [jcells] at hju
    · refine ⟨⟨g, (i + 1) * 7, none⟩, if_neg hum, fun j u hju => ?_⟩
      have := h.rest (i + 1) j u hju
      rw [Nat.zero_add] at this
      exact this
  have hjl : (jcells (K.drop (i + 1))).length = (K.length - (i + 1)) * 7 := by rw [jcells_len]; simp
  have he : (K.take i ++ K.drop (i + 1)).length = i + (K.length - (i + 1)) := by simp; omega
  have hk : i + (K.length - (i + 1)) = K.length - 1 := by omega
  go_enter Try.func70, Try.ntmps70
  go_wp2
  go_region_law (refine step_append_spare rfl (.tmp 22) (.tmp 25) 24 rfl base 31 i1 7 Try.underlying24 hj hj1 g i cap (jcells (K.take i)) (by simp [Act.eval, Act.put]) hd ad (K.length - (i + 1)) (cap - (i + 1)) (jcells (K.drop (i + 1))) (by simp [Act.eval, Act.put]) hjl HC.out (jcells_one _) (by omega) ?_; intro w1 own1 grow1)
  all_goals
    have hel : (K.eraseIdx i).length = K.length - 1 := List.length_eraseIdx_of_lt hi
    have hee : K.eraseIdx i = K.take i ++ K.drop (i + 1) := List.eraseIdx_eq_take_drop_succ _ _
    rw [hk] at own1
    have hl1 := own1.lt g rfl
    have O1 : OwnJ w1 base g cap (K.eraseIdx i) := ⟨by rw [hel, hee, jcells_app]; exact own1, by omega, h.mx, h.base, hl1.2⟩
    have hcl := fun ty => run_clear_job w1 ty g ((K.length - 1) * 7) (cap - (K.length - 1)) (fun j hj' => (O1.room (by omega)).1) (fun j hj' => (O1.room (by omega)).2)
    obtain ⟨O2, G2⟩ := setCells_beyond (List.replicate 7 (.int .i64 0)) ((K.length - 1) * 7) w1 O1 (by rw [hel]; exact Nat.le_refl _)
    have G3 : w.grownBy (w1.setCells g ((K.length - 1) * 7) (List.replicate 7 (.int .i64 0))) (some g) := World.grownBy.trans (show w.grownBy w1 (some g) from ⟨grow1.os, grow1.tape, grow1.output, grow1.size, grow1.block⟩) G2
    generalize w1.setCells g ((K.length - 1) * 7) (List.replicate 7 (.int .i64 0)) = w2 at hcl O2 G3
    clear G2 O1 own1 grow1 hl1 hel hee hd HC hjl he
    have m1 : ((K.length - 1 : Nat) : Int) ≤ (K.length : Int) := by omega
    have m2 : ¬ cap = K.length - 1 := by omega
    have m3 : K.length - (K.length - 1) = 1 := by omega
    go_wp2
    go_ret
    exact ⟨rfl, O2, G3⟩

end Go.Proofs.Ytnbeaeekfahijaa
