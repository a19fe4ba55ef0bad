/- Queue of the model. -/
import Derived.Test.YtaoimijeaacaiaaJobQ
import Derived.Test.YtaoimijeaacaiaaStepApp
import Derived.Deep.RegionHeld3
import Derived.Deep.RegionHeldLaw
import Derived.Deep.RegionLaw
import Derived.Maps.AppendAt
import Derived.Lib.SmallJoins
namespace Go.Proofs.Ytaoimijeaacaiaa
open Go.RowKit Go.Sort

/-- a row of the call's own: jobs, in a block from base on -/
structure OwnJ (w : World) (base g cap : Nat) (ys : List Jb) : Prop where
  own : w.ownsRow base 28 7 (.slice (some ⟨g, 0, none⟩) ys.length cap) ys.length (jcells ys)
  le : ys.length ≤ cap
  mx : cap ≤ maxLen
  base : base ≤ g
  lt : g < w.heap.size

theorem ownJ_of {w : World} {base : Nat} {v : Value} {m : Nat} {xs : List Value} {ys : List Jb} (h : w.ownsRow base 28 7 v m xs) (hm : m = ys.length) (hx : xs = jcells ys) (hv : v ≠ .slice none 0 0) :
    ∃ g cap, v = .slice (some ⟨g, 0, none⟩) ys.length cap ∧ OwnJ w base g cap ys := by
  subst hm hx
  have hl := h.lt
  rcases h.2 with ⟨rfl, h0⟩ | ⟨g, cap, cur, rfl, hb, hg, h1, h2, h3⟩
  · exact absurd rfl hv
  · exact ⟨g, cap, rfl, h, h1, h2, hb, (hl g rfl).2⟩

theorem ownJ_of' {w : World} {base : Nat} {v : Value} {m : Nat} {xs : List Value} {ys : List Jb} (h : w.ownsRow base 28 7 v m xs) (hm : m = ys.length) (hx : xs = jcells ys) (hv : v ≠ .slice none 0 0) :
    ∃ g cap, v = .slice (some ⟨g, 0, none⟩) m cap ∧ OwnJ w base g cap ys := by
  obtain ⟨g, cap, e, h1⟩ := ownJ_of h hm hx hv
  exact ⟨g, cap, by rw [e, hm], h1⟩

theorem OwnJ.below {w w' : World} {base g cap : Nat} {ys : List Jb} (h : OwnJ w base g cap ys) (hb : Below w.heap.size w w') : OwnJ w' base g cap ys := by
  refine ⟨⟨h.own.1, ?_⟩, h.le, h.mx, h.base, Nat.lt_of_lt_of_le h.lt hb.size⟩
  rcases h.own.2 with ⟨e, _⟩ | ⟨g', cap', cur, e, hg, hgg, r⟩
  · cases e
  · have hl := h.own.lt g rfl
    refine .inr ⟨g', cap', cur, e, hg, ?_, r⟩
    injection e with e1 _ _
    injection e1 with e1
    injection e1 with e1 _ _
    subst e1
    exact (hb.block g hl.2).trans hgg

theorem OwnJ.at_ {w : World} {base g cap : Nat} {ys : List Jb} (h : OwnJ w base g cap ys) : JobAt w g 0 ys := by
  intro i hi c hc
  have := World.ownsRow.cells h.own (g := g) rfl (i * 7 + c) _ (jcells_at ys i c hi hc)
  have hadd : (⟨g, 0, none⟩ : Addr).add (i * 7 + c) = ⟨g, i * 7 + c, none⟩ := by unfold Addr.add; split <;> simp_all
  rw [hadd] at this
  rw [Nat.zero_add]; exact this

theorem OwnJ.toS {w : World} {base g cap : Nat} {ys : List Jb} (h : OwnJ w base g cap ys) (wf : ∀ i, i < ys.length → jwf (jg ys i)) : JobS w (some ⟨g, 0, none⟩) ys.length cap ys :=
  ⟨rfl, h.le, h.mx, (fun e => by cases e), wf, fun _ => ⟨g, 0, rfl, h.lt, h.at_⟩⟩

theorem jcells_app (a b : List Jb) : jcells (a ++ b) = jcells a ++ jcells b := by simp [jcells]

/-- its first k jobs -/
theorem OwnJ.pre {w : World} {base g cap : Nat} {ys : List Jb} (h : OwnJ w base g cap ys) {k : Nat} (hk : k ≤ ys.length) :
    w.ownsRow base 28 7 (.slice (some ⟨g, 0, none⟩) k cap) k (jcells (ys.take k)) := by
  refine ⟨by rw [jcells_len]; simp; omega, ?_⟩
  rcases h.own.2 with ⟨e, _⟩ | ⟨g', cap', cur, e, hg, hgg, h1, h2, h3, h4⟩
  · cases e
  · injection e with e1 _ e3
    injection e1 with e1
    injection e1 with e1 _ _
    subst e1 e3
    refine .inr ⟨g, cap, cur, rfl, hg, hgg, by omega, h2, h3, ?_⟩
    have e : jcells ys = jcells (ys.take k) ++ jcells (ys.drop k) := by
      rw [← jcells_app, List.take_append_drop]
    have el : (jcells (ys.take k)).length = k * 7 := by rw [jcells_len]; simp; omega
    have : (cur.toList.take (ys.length * 7)).take (k * 7) = (jcells ys).take (k * 7) := by rw [h4]
    rw [List.take_take, show min (k * 7) (ys.length * 7) = k * 7 by omega] at this
    rw [this, e, ← el, List.take_left]

/-- the cells of the jobs from k on -/
theorem OwnJ.rest {w : World} {base g cap : Nat} {ys : List Jb} (h : OwnJ w base g cap ys) (k : Nat) : ∀ j u, (jcells (ys.drop k))[j]? = some u → w.cell? ((⟨g, 0 + k * 7, none⟩ : Addr).add j) = some u := by
  intro j u hj
  obtain ⟨h1, rfl⟩ := jcells_get hj
  have hlen : (ys.drop k).length = ys.length - k := by simp
  have := h.at_ (k + j / 7) (by omega) (j % 7) (by omega)
  have hadd : (⟨g, 0 + k * 7, none⟩ : Addr).add j = ⟨g, 0 + (k + j / 7) * 7 + j % 7, none⟩ := by
    unfold Addr.add; split
    · rename_i e; subst e; simp
    · simp only [Addr.mk.injEq, and_true, true_and]; omega
  rw [hadd, this]
  have e : jg (ys.drop k) (j / 7) = jg ys (k + j / 7) := by simp [jg]
  rw [e]

/-- one job, just boxed: its cells -/
theorem new7_cells (W : World) (j : Jb) (T : TypeId) : ∀ i u, (jl j)[i]? = some u → ((W.alloc (.cells #[.int .i64 j.id, .int .i64 j.cores, .int .i64 j.long, .int .i64 j.due, .int .i64 j.wt, .int .i64 j.rank, .int .i64 j.at_] T)).drew).cell? ((⟨W.heap.size, 0, none⟩ : Addr).add i) = some u := by
  intro i u hi
  have hadd : (⟨W.heap.size, 0, none⟩ : Addr).add i = ⟨W.heap.size, i, none⟩ := by unfold Addr.add; split <;> simp_all
  rw [hadd]
  show (W.alloc (.cells #[.int .i64 j.id, .int .i64 j.cores, .int .i64 j.long, .int .i64 j.due, .int .i64 j.wt, .int .i64 j.rank, .int .i64 j.at_] T)).cell? _ = _
  rw [Joins.cell_alloc_mark_at _ _ _ _ _ _ rfl]
  show (List.toArray (jl j))[i]? = _
  rw [List.getElem?_toArray]
  exact hi

theorem lenBound {ys ls : List Jb} {k n : Nat} (h : ys.Perm (ls.take k)) (hl : ls.length = n) (hk : k < n) : ys.length < ls.length := by
  rw [h.length_eq]; simp; omega

set_option maxRecDepth 8000 in
set_option maxHeartbeats 2000000 in
theorem specQueue_any (a : Option Addr) (n cap : Nat) (ls : List Jb) (w : World) (h : JobS w a n cap ls) :
    Calls Try.prog 21 #[.slice a n cap] w fun e w' => ∃ v m cap' ys, e = .returned (.slice v m cap') ∧ JobS w' v m cap' ys ∧ IsQ ls ys ∧ Below w.heap.size w w' := by
  have hm := h.mx
  have hle := h.le
  have hlen := h.len
  unfold maxLen at hm
  obtain ⟨i1, hj, hj0, hj1, hj2⟩ := info_parts infoJ
  have hmo : Try.prog.follows .mixedOrders = true := by kernel_rfl
  have bx : Below w.heap.size w (w.alloc (.cells #[] 28)) := box_below
  have own0 : OwnJ (w.alloc (.cells #[] 28)) w.heap.size w.heap.size 0 [] := ⟨World.ownsRow_made w #[] 0 (Nat.le_refl _) (Nat.zero_le _) rfl, Nat.le_refl _, Nat.zero_le _, Nat.le_refl _, by simp⟩
  rcases hq : jsB ls with _ | _
  · go_enter Try.func21, Try.ntmps21
    go_wp2_with (go_at_call 26; refine (specJobsOk_any _ _ _ _ _ (h.below bx)).mono ?_; rw [hq]; rintro e w1 ⟨rfl, hb1⟩)
    go_ret
    exact ⟨_, _, _, [], rfl, (own0.below hb1).toS (fun i hi => by simp at hi), Or.inl ⟨hq, rfl⟩, bx.then hb1 bx.size⟩
  · have hok := jsB_t hq
    have hn40 := hok.n
    go_enter Try.func21, Try.ntmps21
    go_wp2_with (go_at_call 26; refine (specJobsOk_any _ _ _ _ _ (h.below bx)).mono ?_; rw [hq]; rintro e w1 ⟨rfl, hb1⟩)
    have own1 := own0.below hb1
    have bw1 := bx.then hb1 bx.size
    clear own0 hb1 bx
    go_loopw [3, 4] (fun u i wr => ∃ (k g uc : Nat) (ys : List Jb), k ≤ n ∧ i = .int .i64 k ∧ u = .slice (some ⟨g, 0, none⟩) ys.length uc ∧ Hid (OwnJ wr w.heap.size g uc ys) ∧ ys.length ≤ 40 ∧ Hid (ys.Perm (ls.take k)) ∧ Hid (ys.Pairwise notLater) ∧ Below w.heap.size w wr) (fun _ i _ => n - (intOf i).toNat)
    case atStart => exact ⟨0, _, 0, [], by omega, rfl, rfl, own1, by simp, by simp [Hid], List.Pairwise.nil, bw1⟩
    case round =>
      obtain ⟨k, g, uc, ys, hk, rfl, rfl, HO, hy40, HP, HS, hw⟩ := hrel
      rename World => wo
      by_cases hlt : k < n
      · obtain ⟨b, off, rfl, hbw, hat⟩ := h.at_ (by omega)
        have hlt' : (k : Int) < (n : Int) := by omega
        go_wp2
        go_loopw [5] (fun p wr => ∃ m : Nat, m ≤ ys.length ∧ p = .int .i64 m ∧ (∀ x, x < m → jlt (jg ls k) (jg ys x) = false) ∧ Below wo.heap.size wo wr) (fun p _ => ys.length - (intOf p).toNat)
        case atStart => exact ⟨0, by omega, rfl, fun x hx => by omega, Below.refl _ _⟩
        case round =>
          obtain ⟨m, hmy, rfl, hno, hwi⟩ := hrel
          rename World => wi
          have hww := hw.then hwi hw.size
          have hbi : b < wi.heap.size := Nat.lt_of_lt_of_le hbw hww.size
          have hOi := HO.out.below hwi
          have hgi := hOi.lt
          have Hj := (hat.below hww hbw).job (i := k) (by omega)
          have P0 := fun nn os => cell_grown (w := wi) (by exact hbi) Hj.1 nn os
          have P1 := fun nn os => cell_grown (w := wi) (by exact hbi) Hj.2.1 nn os
          have P2 := fun nn os => cell_grown (w := wi) (by exact hbi) Hj.2.2.1 nn os
          have P3 := fun nn os => cell_grown (w := wi) (by exact hbi) Hj.2.2.2.1 nn os
          have P4 := fun nn os => cell_grown (w := wi) (by exact hbi) Hj.2.2.2.2.1 nn os
          have P5 := fun nn os => cell_grown (w := wi) (by exact hbi) Hj.2.2.2.2.2.1 nn os
          have P6 := fun nn os => cell_grown (w := wi) (by exact hbi) Hj.2.2.2.2.2.2 nn os
          have HX : Hid (m < ys.length → jlt (jg ls k) (jg ys m) = true) ∨ (m < ys.length ∧ jlt (jg ls k) (jg ys m) = false) := by
            by_cases h1 : m < ys.length
            · by_cases h2 : jlt (jg ls k) (jg ys m) = true
              · exact Or.inl (fun _ => h2)
              · exact Or.inr ⟨h1, by simpa using h2⟩
            · exact Or.inl (fun h => absurd h h1)
          rcases HX with HX | ⟨hmt, hf⟩
          · by_cases hmt : m < ys.length
            · have ht := HX.out hmt
              have hmt' : (m : Int) < (ys.length : Int) := by omega
              have Hm := hOi.at_.job (i := m) hmt
              rw [Nat.zero_add] at Hm
              have Q0 := fun nn os => cell_grown (w := wi) (by exact hgi) Hm.1 nn os
              have Q1 := fun nn os => cell_grown (w := wi) (by exact hgi) Hm.2.1 nn os
              have Q2 := fun nn os => cell_grown (w := wi) (by exact hgi) Hm.2.2.1 nn os
              have Q3 := fun nn os => cell_grown (w := wi) (by exact hgi) Hm.2.2.2.1 nn os
              have Q4 := fun nn os => cell_grown (w := wi) (by exact hgi) Hm.2.2.2.2.1 nn os
              have Q5 := fun nn os => cell_grown (w := wi) (by exact hgi) Hm.2.2.2.2.2.1 nn os
              have Q6 := fun nn os => cell_grown (w := wi) (by exact hgi) Hm.2.2.2.2.2.2 nn os
              simp only [jlt] at ht
              have CA : ∀ W, Calls Try.prog 23 #[.agg #[.int .i64 (jg ls k).id, .int .i64 (jg ls k).cores, .int .i64 (jg ls k).long, .int .i64 (jg ls k).due, .int .i64 (jg ls k).wt, .int .i64 (jg ls k).rank, .int .i64 (jg ls k).at_], .agg #[.int .i64 (jg ys m).id, .int .i64 (jg ys m).cores, .int .i64 (jg ys m).long, .int .i64 (jg ys m).due, .int .i64 (jg ys m).wt, .int .i64 (jg ys m).rank, .int .i64 (jg ys m).at_]] W fun e w' => e = .returned (.bool true) ∧ ∃ q os', w' = grow (W.drewN q) os' := fun W => by rw [← ht]; exact specAhead_grow _ _ _ _ _ _ _ _ _ _ _ _ _ _ W
              clear Hm Hj ht
              go_wp2
              go_quiet_grown ((go_at_call 23; exact Calls.grown_of (CA _)))
              have B3 : Below wo.heap.size wo (grow (wi.drewN nq) osq) := hwi.then (below_grow _ _ _) hwi.size
              obtain ⟨w3, hw3⟩ : ∃ w3, w3 = grow (wi.drewN nq) osq := ⟨_, rfl⟩
              rw [← hw3] at B3 ⊢
              clear hw3
              have hw3 := hw.then B3 hw.size
              have O3 := HO.out.below B3
              have hb3 : w.heap.size ≤ w3.heap.size := hw3.size
              have OE := World.ownsRow_made (base := w.heap.size) (e := 28) (size := 7) w3 #[] 0 hb3 (Nat.zero_le _) rfl
              obtain ⟨ad, HA, HC⟩ : ∃ ad : Addr, (if uc = m then some (⟨g, 0, none⟩ : Addr) else some ⟨g, m * 7, none⟩) = some ad ∧ ∀ j u, (jcells (ys.drop m))[j]? = some u → (w3.alloc (.cells #[] 28)).cell? (ad.add j) = some u := by
                have hlt3 := O3.lt
                by_cases hum : uc = m
                · refine ⟨⟨g, 0, none⟩, if_pos hum, fun j u hju => ?_⟩
                  have hy : ys.drop m = [] := List.drop_eq_nil_of_le (by have := O3.le; omega)
                  rw [hy] at hju
                  simp [jcells] at hju
                · refine ⟨⟨g, m * 7, none⟩, if_neg hum, fun j u hju => ?_⟩
                  have := O3.rest m j u hju
                  rw [Nat.zero_add] at this
                  rw [World.cell?_alloc_lt _ _ _ (World.block_lt_of_cell? w3 _ this)]
                  exact this
              have hjl : (jcells (ys.drop m)).length = (ys.length - m) * 7 := by rw [jcells_len]; simp
              go_wp2_with (at_builtin; refine wpList_append_own_at _ rfl (.tmp 36) (.tmp 39) 24 rfl w.heap.size 28 i1 (.agg #[.int .i64 0, .int .i64 0, .int .i64 0, .int .i64 0, .int .i64 0, .int .i64 0, .int .i64 0]) 7 56 Try.underlying24 hj hj0 hj1 hj2 rfl (by decide) _ _ _ rfl OE ad (ys.length - m) (uc - m) (jcells (ys.drop m)) ?ea hjl HC (jcells_one _) (by unfold maxLen; omega) (by omega) (by simp; omega) ?_)
              case ea => rfl
              intro v4 w4 own4 grow4 nil4 at4
              have hv4 : v4 ≠ .slice none 0 0 := nil4
              obtain ⟨rg, rc, rfl, R4⟩ := ownJ_of' (ys := ys.drop m) own4 (by simp) (by simp) hv4
              have hrg : w3.heap.size ≤ rg := by
                rcases at4 with e | e
                · simp [Value.ownBlock] at e; omega
                · simp [Value.ownBlock] at e; omega
              have B4 : Below w3.heap.size w3 w4 := box_below0.grown grow4 (by simp) (fun r e => by simp [Value.ownBlock] at e; omega)
              have O4 := O3.below B4
              have hg3 := O3.lt
              have hww4 := hw3.then B4 hw3.size
              clear own4 grow4 nil4 at4 hv4 HA HC OE
              have HS4 : w4.cell? ⟨b, off + k * 7, none⟩ = some (.int .i64 (jg ls k).id) ∧ w4.cell? ⟨b, off + k * 7 + 1, none⟩ = some (.int .i64 (jg ls k).cores) ∧ w4.cell? ⟨b, off + k * 7 + 2, none⟩ = some (.int .i64 (jg ls k).long) ∧ w4.cell? ⟨b, off + k * 7 + 3, none⟩ = some (.int .i64 (jg ls k).due) ∧ w4.cell? ⟨b, off + k * 7 + 4, none⟩ = some (.int .i64 (jg ls k).wt) ∧ w4.cell? ⟨b, off + k * 7 + 5, none⟩ = some (.int .i64 (jg ls k).rank) ∧ w4.cell? ⟨b, off + k * 7 + 6, none⟩ = some (.int .i64 (jg ls k).at_) := (hat.below hww4 hbw).job (i := k) (by omega)
              have OP : ∀ W, Below w4.heap.size w4 W → W.ownsRow w.heap.size 28 7 (.slice (some ⟨g, 0, none⟩) m uc) m (jcells (ys.take m)) := fun W hW => (O4.below hW).pre hmy
              have hbg : b ≠ g := by have := O3.base; omega
              have hrgg : rg ≠ g := by omega
              have hzw4 : w.heap.size ≤ w4.heap.size := hww4.size
              have hgb : w.heap.size ≤ g := O3.base
              have hmc : (m : Int) ≤ (uc : Int) := by have := O4.le; omega
              have hm0 : (0 : Int) ≤ (m : Int) := by omega
              have hyt : (ys.take m ++ [jg ls k]).length = m + 1 := by simp; omega
              have hyi : (insAt ys m (jg ls k)).length = ys.length + 1 := by unfold insAt; simp; omega
              have KA : Hid (∀ o, ((w4.alloc o).drew).cell? ⟨b, off + k * 7, none⟩ = some (.int .i64 (jg ls k).id) ∧ ((w4.alloc o).drew).cell? ⟨b, off + k * 7 + 1, none⟩ = some (.int .i64 (jg ls k).cores) ∧ ((w4.alloc o).drew).cell? ⟨b, off + k * 7 + 2, none⟩ = some (.int .i64 (jg ls k).long) ∧ ((w4.alloc o).drew).cell? ⟨b, off + k * 7 + 3, none⟩ = some (.int .i64 (jg ls k).due) ∧ ((w4.alloc o).drew).cell? ⟨b, off + k * 7 + 4, none⟩ = some (.int .i64 (jg ls k).wt) ∧ ((w4.alloc o).drew).cell? ⟨b, off + k * 7 + 5, none⟩ = some (.int .i64 (jg ls k).rank) ∧ ((w4.alloc o).drew).cell? ⟨b, off + k * 7 + 6, none⟩ = some (.int .i64 (jg ls k).at_)) := fun o => by
                have hc : ∀ j, ((w4.alloc o).drew).cell? ⟨b, j, none⟩ = w4.cell? ⟨b, j, none⟩ := fun j => by show (w4.alloc o).cell? _ = _; exact World.cell?_alloc_lt _ _ _ (by have := hww4.size; simp; omega)
                rw [hc, hc, hc, hc, hc, hc, hc]; exact HS4
              have Kb : ∀ W W' : World, ∀ gg, W.grownBy W' (some gg) → b ≠ gg → b < W.heap.size → W.cell? ⟨b, off + k * 7, none⟩ = some (.int .i64 (jg ls k).id) ∧ W.cell? ⟨b, off + k * 7 + 1, none⟩ = some (.int .i64 (jg ls k).cores) ∧ W.cell? ⟨b, off + k * 7 + 2, none⟩ = some (.int .i64 (jg ls k).long) ∧ W.cell? ⟨b, off + k * 7 + 3, none⟩ = some (.int .i64 (jg ls k).due) ∧ W.cell? ⟨b, off + k * 7 + 4, none⟩ = some (.int .i64 (jg ls k).wt) ∧ W.cell? ⟨b, off + k * 7 + 5, none⟩ = some (.int .i64 (jg ls k).rank) ∧ W.cell? ⟨b, off + k * 7 + 6, none⟩ = some (.int .i64 (jg ls k).at_) → W'.cell? ⟨b, off + k * 7, none⟩ = some (.int .i64 (jg ls k).id) ∧ W'.cell? ⟨b, off + k * 7 + 1, none⟩ = some (.int .i64 (jg ls k).cores) ∧ W'.cell? ⟨b, off + k * 7 + 2, none⟩ = some (.int .i64 (jg ls k).long) ∧ W'.cell? ⟨b, off + k * 7 + 3, none⟩ = some (.int .i64 (jg ls k).due) ∧ W'.cell? ⟨b, off + k * 7 + 4, none⟩ = some (.int .i64 (jg ls k).wt) ∧ W'.cell? ⟨b, off + k * 7 + 5, none⟩ = some (.int .i64 (jg ls k).rank) ∧ W'.cell? ⟨b, off + k * 7 + 6, none⟩ = some (.int .i64 (jg ls k).at_) := fun W W' gg hg hne hlt hS => by
                have hc : ∀ o, W'.cell? ⟨b, o, none⟩ = W.cell? ⟨b, o, none⟩ := fun o => World.cell?_of_block (a := ⟨b, o, none⟩) (hg.block b hlt (by simpa using hne))
                rw [hc, hc, hc, hc, hc, hc, hc]; exact hS
              have gk : ∀ (W5 : World) (o : Obj), ((w4.alloc o).drew).grownBy W5 (Value.slice (some ⟨g, 0, none⟩) m uc).ownBlock → w4.grownBy W5 (some g) := fun W5 o hg =>
                ⟨hg.os, hg.tape, hg.output, Nat.le_trans (by simp) hg.size, fun r hr hne => (hg.block r (by simp; omega) (by simpa [Value.ownBlock] using hne)).trans (Below.heap_alloc _ _ _ hr)⟩
              have rk : ∀ (W5 : World), w4.grownBy W5 (some g) → ∀ j u, (jcells (ys.drop m))[j]? = some u → W5.cell? ((⟨rg, 0, none⟩ : Addr).add j) = some u := fun W5 hg j u hju => by
                have h1 := World.ownsRow.cells R4.own (g := rg) rfl j u hju
                have hadd : (⟨rg, 0, none⟩ : Addr).add j = ⟨rg, j, none⟩ := by unfold Addr.add; split <;> simp_all
                rw [hadd] at h1 ⊢
                exact (World.cell?_of_block (a := ⟨rg, j, none⟩) (hg.block rg R4.lt (by simpa using hrgg))).trans h1
              have bw5 : ∀ W, Below w4.heap.size w4 W → w4.heap.size ≤ W.heap.size := fun W hW => hW.size
              have HOP : Hid (∀ W, Below w4.heap.size w4 W → W.ownsRow w.heap.size 28 7 (.slice (some ⟨g, 0, none⟩) m uc) m (jcells (ys.take m))) := OP
              have HKb : Hid _ := Kb
              have Hgk : Hid _ := gk
              have Hrk : Hid _ := rk
              clear OP Kb gk rk bw5
              go_wp2
              go_region_held_law (fun w' => w'.cell? ⟨b, off + k * 7, none⟩ = some (.int .i64 (jg ls k).id) ∧ w'.cell? ⟨b, off + k * 7 + 1, none⟩ = some (.int .i64 (jg ls k).cores) ∧ w'.cell? ⟨b, off + k * 7 + 2, none⟩ = some (.int .i64 (jg ls k).long) ∧ w'.cell? ⟨b, off + k * 7 + 3, none⟩ = some (.int .i64 (jg ls k).due) ∧ w'.cell? ⟨b, off + k * 7 + 4, none⟩ = some (.int .i64 (jg ls k).wt) ∧ w'.cell? ⟨b, off + k * 7 + 5, none⟩ = some (.int .i64 (jg ls k).rank) ∧ w'.cell? ⟨b, off + k * 7 + 6, none⟩ = some (.int .i64 (jg ls k).at_)) (first | exact KS6 | exact KS5 | exact HS4 | exact KA.out _ | go_keep) (first
                | (refine step_append_own rfl (.tmp 43) (.tmp 48) 24 rfl w.heap.size 28 i1 (.agg #[.int .i64 0, .int .i64 0, .int .i64 0, .int .i64 0, .int .i64 0, .int .i64 0, .int .i64 0]) 7 56 Try.underlying24 hj hj0 hj1 hj2 rfl (by decide) (.slice (some ⟨g, 0, none⟩) m uc) m (jcells (ys.take m)) rfl (HOP.out _ (by first | exact ((Below.refl _ _).alloc (Nat.le_refl _) _).drew | exact (Below.refl _ _).drew.alloc (Nat.le_refl _) _)) ⟨w4.heap.size, 0, none⟩ 1 1 [.int .i64 (jg ls k).id, .int .i64 (jg ls k).cores, .int .i64 (jg ls k).long, .int .i64 (jg ls k).due, .int .i64 (jg ls k).wt, .int .i64 (jg ls k).rank, .int .i64 (jg ls k).at_] rfl rfl (new7_cells _ _ _) (jl_one (jg ls k)) (by unfold maxLen; omega) (by omega) (by simp; omega) ?_
                   intro v5 w5 own5 grow5 nil5 at5
                   obtain ⟨g5, c5, rfl, O5⟩ := ownJ_of' (ys := ys.take m ++ [jg ls k]) own5 hyt.symm (by rw [jcells_app]; rfl) (fun e => by have := (nil5.1 e).2; omega)
                   have B5 : Below w.heap.size w w5 := (by first | exact ((hww4.alloc (by omega) _).drew.grown grow5 (by simp; omega) (fun r e => by simp [Value.ownBlock] at e; omega)) | exact ((hww4.drew.alloc (by simp; omega) _).grown grow5 (by simp; omega) (fun r e => by simp [Value.ownBlock] at e; omega)))
                   have G5 := Hgk.out _ _ grow5
                   have KS5 := HKb.out w4 w5 g G5 hbg (by have := hww4.size; omega) HS4
                   have R5 := Hrk.out _ G5
                   clear nil5 at5)
                | (refine step_append_own rfl (.tmp 49) (.tmp 50) 24 rfl w.heap.size 28 i1 (.agg #[.int .i64 0, .int .i64 0, .int .i64 0, .int .i64 0, .int .i64 0, .int .i64 0, .int .i64 0]) 7 56 Try.underlying24 hj hj0 hj1 hj2 rfl (by decide) _ _ _ rfl own5 ⟨rg, 0, none⟩ (ys.length - m) rc (jcells (ys.drop m)) rfl hjl R5 (jcells_one _) (by unfold maxLen; omega) (by omega) B5.size ?_
                   intro v6 w6 own6 grow6 nil6 at6
                   obtain ⟨g6, c6, rfl, O6⟩ := ownJ_of' (ys := insAt ys m (jg ls k)) own6 (by have := hyi; omega) (by unfold insAt; rw [jcells_app, jcells_app]; rfl) (fun e => nomatch (nil6.1 e).1)
                   have B6 : Below w.heap.size w w6 := B5.grown grow6 B5.size (fun r e => by have e' : g5 = r := Option.some.inj e; have := O5.base; omega)
                   have KS6 := HKb.out w5 w6 g5 grow6 (by have := O5.base; omega) (by have := B5.size; omega) KS5
                   clear own6 nil6 at6))
              have HPi : Hid ((insAt ys m (jg ls k)).Perm (ls.take (k + 1))) := by
                unfold Hid
                rw [List.take_succ_eq_append_getElem (by omega), ← jg_get (by omega)]
                exact insAt_perm ys m (jg ls k) HP.out
              have HSi : Hid ((insAt ys m (jg ls k)).Pairwise notLater) := insAt_sorted HS.out hmy hno HX.out
              clear HKb Hgk Hrk HOP KA
              go_wp2
              go_roundw
              case rel => exact ⟨k + 1, g6, c6, insAt ys m (jg ls k), by omega, by go_num, by rw [hyi]; exact congrArg (fun x => Value.slice _ x _) (by omega), O6, by rw [hyi]; exact Nat.le_trans (Nat.succ_le_of_lt (lenBound HP.out hlen hlt)) hn40, HPi, HSi, B6⟩
              case measure => simp [intOf]; omega
            · have hd : decide ((m : Int) < (ys.length : Int)) = false := by simp; omega
              clear Hj
              go_wp2
              go_quiet (fail)
              have B3 : Below wo.heap.size wo (wi.drewN nq) := hwi.drewN _
              obtain ⟨w3, hw3⟩ : ∃ w3, w3 = wi.drewN nq := ⟨_, rfl⟩
              rw [← hw3] at B3 ⊢
              clear hw3
              have hw3 := hw.then B3 hw.size
              have O3 := HO.out.below B3
              have hb3 : w.heap.size ≤ w3.heap.size := hw3.size
              have OE := World.ownsRow_made (base := w.heap.size) (e := 28) (size := 7) w3 #[] 0 hb3 (Nat.zero_le _) rfl
              obtain ⟨ad, HA, HC⟩ : ∃ ad : Addr, (if uc = m then some (⟨g, 0, none⟩ : Addr) else some ⟨g, m * 7, none⟩) = some ad ∧ ∀ j u, (jcells (ys.drop m))[j]? = some u → (w3.alloc (.cells #[] 28)).cell? (ad.add j) = some u := by
                have hlt3 := O3.lt
                by_cases hum : uc = m
                · refine ⟨⟨g, 0, none⟩, if_pos hum, fun j u hju => ?_⟩
                  have hy : ys.drop m = [] := List.drop_eq_nil_of_le (by have := O3.le; omega)
                  rw [hy] at hju
                  simp [jcells] at hju
                · refine ⟨⟨g, m * 7, none⟩, if_neg hum, fun j u hju => ?_⟩
                  have := O3.rest m j u hju
                  rw [Nat.zero_add] at this
                  rw [World.cell?_alloc_lt _ _ _ (World.block_lt_of_cell? w3 _ this)]
                  exact this
              have hjl : (jcells (ys.drop m)).length = (ys.length - m) * 7 := by rw [jcells_len]; simp
              go_wp2_with (at_builtin; refine wpList_append_own_at _ rfl (.tmp 36) (.tmp 39) 24 rfl w.heap.size 28 i1 (.agg #[.int .i64 0, .int .i64 0, .int .i64 0, .int .i64 0, .int .i64 0, .int .i64 0, .int .i64 0]) 7 56 Try.underlying24 hj hj0 hj1 hj2 rfl (by decide) _ _ _ rfl OE ad (ys.length - m) (uc - m) (jcells (ys.drop m)) ?eb hjl HC (jcells_one _) (by unfold maxLen; omega) (by omega) (by simp; omega) ?_)
              case eb => rfl
              intro v4 w4 own4 grow4 nil4 at4
              have hv4 : v4 ≠ .slice none 0 0 := nil4
              obtain ⟨rg, rc, rfl, R4⟩ := ownJ_of' (ys := ys.drop m) own4 (by simp) (by simp) hv4
              have hrg : w3.heap.size ≤ rg := by
                rcases at4 with e | e
                · simp [Value.ownBlock] at e; omega
                · simp [Value.ownBlock] at e; omega
              have B4 : Below w3.heap.size w3 w4 := box_below0.grown grow4 (by simp) (fun r e => by simp [Value.ownBlock] at e; omega)
              have O4 := O3.below B4
              have hg3 := O3.lt
              have hww4 := hw3.then B4 hw3.size
              clear own4 grow4 nil4 at4 hv4 HA HC OE
              have HS4 : w4.cell? ⟨b, off + k * 7, none⟩ = some (.int .i64 (jg ls k).id) ∧ w4.cell? ⟨b, off + k * 7 + 1, none⟩ = some (.int .i64 (jg ls k).cores) ∧ w4.cell? ⟨b, off + k * 7 + 2, none⟩ = some (.int .i64 (jg ls k).long) ∧ w4.cell? ⟨b, off + k * 7 + 3, none⟩ = some (.int .i64 (jg ls k).due) ∧ w4.cell? ⟨b, off + k * 7 + 4, none⟩ = some (.int .i64 (jg ls k).wt) ∧ w4.cell? ⟨b, off + k * 7 + 5, none⟩ = some (.int .i64 (jg ls k).rank) ∧ w4.cell? ⟨b, off + k * 7 + 6, none⟩ = some (.int .i64 (jg ls k).at_) := (hat.below hww4 hbw).job (i := k) (by omega)
              have OP : ∀ W, Below w4.heap.size w4 W → W.ownsRow w.heap.size 28 7 (.slice (some ⟨g, 0, none⟩) m uc) m (jcells (ys.take m)) := fun W hW => (O4.below hW).pre hmy
              have hbg : b ≠ g := by have := O3.base; omega
              have hrgg : rg ≠ g := by omega
              have hzw4 : w.heap.size ≤ w4.heap.size := hww4.size
              have hgb : w.heap.size ≤ g := O3.base
              have hmc : (m : Int) ≤ (uc : Int) := by have := O4.le; omega
              have hm0 : (0 : Int) ≤ (m : Int) := by omega
              have hyt : (ys.take m ++ [jg ls k]).length = m + 1 := by simp; omega
              have hyi : (insAt ys m (jg ls k)).length = ys.length + 1 := by unfold insAt; simp; omega
              have KA : Hid (∀ o, ((w4.alloc o).drew).cell? ⟨b, off + k * 7, none⟩ = some (.int .i64 (jg ls k).id) ∧ ((w4.alloc o).drew).cell? ⟨b, off + k * 7 + 1, none⟩ = some (.int .i64 (jg ls k).cores) ∧ ((w4.alloc o).drew).cell? ⟨b, off + k * 7 + 2, none⟩ = some (.int .i64 (jg ls k).long) ∧ ((w4.alloc o).drew).cell? ⟨b, off + k * 7 + 3, none⟩ = some (.int .i64 (jg ls k).due) ∧ ((w4.alloc o).drew).cell? ⟨b, off + k * 7 + 4, none⟩ = some (.int .i64 (jg ls k).wt) ∧ ((w4.alloc o).drew).cell? ⟨b, off + k * 7 + 5, none⟩ = some (.int .i64 (jg ls k).rank) ∧ ((w4.alloc o).drew).cell? ⟨b, off + k * 7 + 6, none⟩ = some (.int .i64 (jg ls k).at_)) := fun o => by
                have hc : ∀ j, ((w4.alloc o).drew).cell? ⟨b, j, none⟩ = w4.cell? ⟨b, j, none⟩ := fun j => by show (w4.alloc o).cell? _ = _; exact World.cell?_alloc_lt _ _ _ (by have := hww4.size; simp; omega)
                rw [hc, hc, hc, hc, hc, hc, hc]; exact HS4
              have Kb : ∀ W W' : World, ∀ gg, W.grownBy W' (some gg) → b ≠ gg → b < W.heap.size → W.cell? ⟨b, off + k * 7, none⟩ = some (.int .i64 (jg ls k).id) ∧ W.cell? ⟨b, off + k * 7 + 1, none⟩ = some (.int .i64 (jg ls k).cores) ∧ W.cell? ⟨b, off + k * 7 + 2, none⟩ = some (.int .i64 (jg ls k).long) ∧ W.cell? ⟨b, off + k * 7 + 3, none⟩ = some (.int .i64 (jg ls k).due) ∧ W.cell? ⟨b, off + k * 7 + 4, none⟩ = some (.int .i64 (jg ls k).wt) ∧ W.cell? ⟨b, off + k * 7 + 5, none⟩ = some (.int .i64 (jg ls k).rank) ∧ W.cell? ⟨b, off + k * 7 + 6, none⟩ = some (.int .i64 (jg ls k).at_) → W'.cell? ⟨b, off + k * 7, none⟩ = some (.int .i64 (jg ls k).id) ∧ W'.cell? ⟨b, off + k * 7 + 1, none⟩ = some (.int .i64 (jg ls k).cores) ∧ W'.cell? ⟨b, off + k * 7 + 2, none⟩ = some (.int .i64 (jg ls k).long) ∧ W'.cell? ⟨b, off + k * 7 + 3, none⟩ = some (.int .i64 (jg ls k).due) ∧ W'.cell? ⟨b, off + k * 7 + 4, none⟩ = some (.int .i64 (jg ls k).wt) ∧ W'.cell? ⟨b, off + k * 7 + 5, none⟩ = some (.int .i64 (jg ls k).rank) ∧ W'.cell? ⟨b, off + k * 7 + 6, none⟩ = some (.int .i64 (jg ls k).at_) := fun W W' gg hg hne hlt hS => by
                have hc : ∀ o, W'.cell? ⟨b, o, none⟩ = W.cell? ⟨b, o, none⟩ := fun o => World.cell?_of_block (a := ⟨b, o, none⟩) (hg.block b hlt (by simpa using hne))
                rw [hc, hc, hc, hc, hc, hc, hc]; exact hS
              have gk : ∀ (W5 : World) (o : Obj), ((w4.alloc o).drew).grownBy W5 (Value.slice (some ⟨g, 0, none⟩) m uc).ownBlock → w4.grownBy W5 (some g) := fun W5 o hg =>
                ⟨hg.os, hg.tape, hg.output, Nat.le_trans (by simp) hg.size, fun r hr hne => (hg.block r (by simp; omega) (by simpa [Value.ownBlock] using hne)).trans (Below.heap_alloc _ _ _ hr)⟩
              have rk : ∀ (W5 : World), w4.grownBy W5 (some g) → ∀ j u, (jcells (ys.drop m))[j]? = some u → W5.cell? ((⟨rg, 0, none⟩ : Addr).add j) = some u := fun W5 hg j u hju => by
                have h1 := World.ownsRow.cells R4.own (g := rg) rfl j u hju
                have hadd : (⟨rg, 0, none⟩ : Addr).add j = ⟨rg, j, none⟩ := by unfold Addr.add; split <;> simp_all
                rw [hadd] at h1 ⊢
                exact (World.cell?_of_block (a := ⟨rg, j, none⟩) (hg.block rg R4.lt (by simpa using hrgg))).trans h1
              have bw5 : ∀ W, Below w4.heap.size w4 W → w4.heap.size ≤ W.heap.size := fun W hW => hW.size
              have HOP : Hid (∀ W, Below w4.heap.size w4 W → W.ownsRow w.heap.size 28 7 (.slice (some ⟨g, 0, none⟩) m uc) m (jcells (ys.take m))) := OP
              have HKb : Hid _ := Kb
              have Hgk : Hid _ := gk
              have Hrk : Hid _ := rk
              clear OP Kb gk rk bw5
              go_wp2
              go_region_held_law (fun w' => w'.cell? ⟨b, off + k * 7, none⟩ = some (.int .i64 (jg ls k).id) ∧ w'.cell? ⟨b, off + k * 7 + 1, none⟩ = some (.int .i64 (jg ls k).cores) ∧ w'.cell? ⟨b, off + k * 7 + 2, none⟩ = some (.int .i64 (jg ls k).long) ∧ w'.cell? ⟨b, off + k * 7 + 3, none⟩ = some (.int .i64 (jg ls k).due) ∧ w'.cell? ⟨b, off + k * 7 + 4, none⟩ = some (.int .i64 (jg ls k).wt) ∧ w'.cell? ⟨b, off + k * 7 + 5, none⟩ = some (.int .i64 (jg ls k).rank) ∧ w'.cell? ⟨b, off + k * 7 + 6, none⟩ = some (.int .i64 (jg ls k).at_)) (first | exact KS6 | exact KS5 | exact HS4 | exact KA.out _ | go_keep) (first
                | (refine step_append_own rfl (.tmp 43) (.tmp 48) 24 rfl w.heap.size 28 i1 (.agg #[.int .i64 0, .int .i64 0, .int .i64 0, .int .i64 0, .int .i64 0, .int .i64 0, .int .i64 0]) 7 56 Try.underlying24 hj hj0 hj1 hj2 rfl (by decide) (.slice (some ⟨g, 0, none⟩) m uc) m (jcells (ys.take m)) rfl (HOP.out _ (by first | exact ((Below.refl _ _).alloc (Nat.le_refl _) _).drew | exact (Below.refl _ _).drew.alloc (Nat.le_refl _) _)) ⟨w4.heap.size, 0, none⟩ 1 1 [.int .i64 (jg ls k).id, .int .i64 (jg ls k).cores, .int .i64 (jg ls k).long, .int .i64 (jg ls k).due, .int .i64 (jg ls k).wt, .int .i64 (jg ls k).rank, .int .i64 (jg ls k).at_] rfl rfl (new7_cells _ _ _) (jl_one (jg ls k)) (by unfold maxLen; omega) (by omega) (by simp; omega) ?_
                   intro v5 w5 own5 grow5 nil5 at5
                   obtain ⟨g5, c5, rfl, O5⟩ := ownJ_of' (ys := ys.take m ++ [jg ls k]) own5 hyt.symm (by rw [jcells_app]; rfl) (fun e => by have := (nil5.1 e).2; omega)
                   have B5 : Below w.heap.size w w5 := (by first | exact ((hww4.alloc (by omega) _).drew.grown grow5 (by simp; omega) (fun r e => by simp [Value.ownBlock] at e; omega)) | exact ((hww4.drew.alloc (by simp; omega) _).grown grow5 (by simp; omega) (fun r e => by simp [Value.ownBlock] at e; omega)))
                   have G5 := Hgk.out _ _ grow5
                   have KS5 := HKb.out w4 w5 g G5 hbg (by have := hww4.size; omega) HS4
                   have R5 := Hrk.out _ G5
                   clear nil5 at5)
                | (refine step_append_own rfl (.tmp 49) (.tmp 50) 24 rfl w.heap.size 28 i1 (.agg #[.int .i64 0, .int .i64 0, .int .i64 0, .int .i64 0, .int .i64 0, .int .i64 0, .int .i64 0]) 7 56 Try.underlying24 hj hj0 hj1 hj2 rfl (by decide) _ _ _ rfl own5 ⟨rg, 0, none⟩ (ys.length - m) rc (jcells (ys.drop m)) rfl hjl R5 (jcells_one _) (by unfold maxLen; omega) (by omega) B5.size ?_
                   intro v6 w6 own6 grow6 nil6 at6
                   obtain ⟨g6, c6, rfl, O6⟩ := ownJ_of' (ys := insAt ys m (jg ls k)) own6 (by have := hyi; omega) (by unfold insAt; rw [jcells_app, jcells_app]; rfl) (fun e => nomatch (nil6.1 e).1)
                   have B6 : Below w.heap.size w w6 := B5.grown grow6 B5.size (fun r e => by have e' : g5 = r := Option.some.inj e; have := O5.base; omega)
                   have KS6 := HKb.out w5 w6 g5 grow6 (by have := O5.base; omega) (by have := B5.size; omega) KS5
                   clear own6 nil6 at6))
              have HPi : Hid ((insAt ys m (jg ls k)).Perm (ls.take (k + 1))) := by
                unfold Hid
                rw [List.take_succ_eq_append_getElem (by omega), ← jg_get (by omega)]
                exact insAt_perm ys m (jg ls k) HP.out
              have HSi : Hid ((insAt ys m (jg ls k)).Pairwise notLater) := insAt_sorted HS.out hmy hno HX.out
              clear HKb Hgk Hrk HOP KA
              go_wp2
              go_roundw
              case rel => exact ⟨k + 1, g6, c6, insAt ys m (jg ls k), by omega, by go_num, by rw [hyi]; exact congrArg (fun x => Value.slice _ x _) (by omega), O6, by rw [hyi]; exact Nat.le_trans (Nat.succ_le_of_lt (lenBound HP.out hlen hlt)) hn40, HPi, HSi, B6⟩
              case measure => simp [intOf]; omega
          · have hmt' : (m : Int) < (ys.length : Int) := by omega
            have Hm := hOi.at_.job (i := m) hmt
            rw [Nat.zero_add] at Hm
            have Q0 := fun nn os => cell_grown (w := wi) (by exact hgi) Hm.1 nn os
            have Q1 := fun nn os => cell_grown (w := wi) (by exact hgi) Hm.2.1 nn os
            have Q2 := fun nn os => cell_grown (w := wi) (by exact hgi) Hm.2.2.1 nn os
            have Q3 := fun nn os => cell_grown (w := wi) (by exact hgi) Hm.2.2.2.1 nn os
            have Q4 := fun nn os => cell_grown (w := wi) (by exact hgi) Hm.2.2.2.2.1 nn os
            have Q5 := fun nn os => cell_grown (w := wi) (by exact hgi) Hm.2.2.2.2.2.1 nn os
            have Q6 := fun nn os => cell_grown (w := wi) (by exact hgi) Hm.2.2.2.2.2.2 nn os
            have HF : Hid (jlt (jg ls k) (jg ys m) = false) := hf
            simp only [jlt] at hf
            have CA : ∀ W, Calls Try.prog 23 #[.agg #[.int .i64 (jg ls k).id, .int .i64 (jg ls k).cores, .int .i64 (jg ls k).long, .int .i64 (jg ls k).due, .int .i64 (jg ls k).wt, .int .i64 (jg ls k).rank, .int .i64 (jg ls k).at_], .agg #[.int .i64 (jg ys m).id, .int .i64 (jg ys m).cores, .int .i64 (jg ys m).long, .int .i64 (jg ys m).due, .int .i64 (jg ys m).wt, .int .i64 (jg ys m).rank, .int .i64 (jg ys m).at_]] W fun e w' => e = .returned (.bool false) ∧ ∃ q os', w' = grow (W.drewN q) os' := fun W => by rw [← hf]; exact specAhead_grow _ _ _ _ _ _ _ _ _ _ _ _ _ _ W
            clear Hm Hj hf
            go_wp2
            go_quiet_grown ((go_at_call 23; exact Calls.grown_of (CA _)))
            go_wp2
            go_roundw
            case rel => exact ⟨m + 1, by omega, by go_num, fun x hx => by (by_cases e : x = m; (subst e; exact HF.out); exact hno x (by omega)), hwi.then (below_grow _ _ _) hwi.size⟩
            case measure => simp [intOf]; omega
      · have e : k = n := by omega
        subst e
        go_wp2
        go_ret
        have hpn : ys.Perm ls := by have := HP.out; rwa [List.take_of_length_le (by omega)] at this
        refine ⟨_, _, _, ys, rfl, HO.out.toS (fun i hi => ?_), Or.inr ⟨hq, hpn, sorted_pw.2 HS.out⟩, hw⟩
        have hmem : jg ys i ∈ ls := hpn.subset (by rw [jg_get hi]; exact List.getElem_mem hi)
        obtain ⟨j, hjl, e⟩ := List.getElem_of_mem hmem
        rw [← e, ← jg_get hjl]
        exact h.wf j (by omega)

end Go.Proofs.Ytaoimijeaacaiaa
