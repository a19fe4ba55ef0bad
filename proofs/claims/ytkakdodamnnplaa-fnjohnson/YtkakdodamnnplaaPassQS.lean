/- Johnson of the model. -/
import Derived.Test.YtkakdodamnnplaaPassOk
import Derived.Test.YtkakdodamnnplaaPassRow
import Derived.Test.YtkakdodamnnplaaStepApp
import Derived.Deep.RegionHeld3
import Derived.Deep.RegionHeldLaw
import Derived.Deep.RegionLaw
import Derived.Maps.AppendAt
import Derived.Lib.SmallJoins
import Derived.Shelf.SlSortCmp.QuietGrown
namespace Go.Proofs.Ytkakdodamnnplaa
open Go.RowKit Go.Sort

set_option maxHeartbeats 1000000 in
theorem l7Ahead_grow (x y : Pz) (w : World) :
    Calls Try.prog 33 #[.agg #[.int .i64 x.id, .int .i64 x.a, .int .i64 x.b], .agg #[.int .i64 y.id, .int .i64 y.a, .int .i64 y.b]] w fun e w' => e = .returned (.bool (ltJ x y)) ∧ ∃ q os', w' = grow (w.drewN q) os' := by
  have hw : ∀ A B, ∃ q os', (w.alloc A).alloc B = grow (w.drewN q) os' := fun A B => by rw [alloc_eq_grow, alloc_eq_grow, grow_grow]; exact ⟨0, _, rfl⟩
  by_cases h1 : x.a < x.b
  · have d1 : decide (x.a < x.b) = true := by simpa using h1
    by_cases h2 : y.a < y.b
    · by_cases h3 : x.a = y.a
      · have e : ltJ x y = decide (x.id < y.id) := by rw [Bool.eq_iff_iff, ltJ_iff, decide_eq_true_iff]; omega
        have h3' : (x.a != y.a) = false := by simpa using h3
        rw [e]; clear e h3 d1
        go_enter Try.func33, Try.ntmps33
        go_wp2
        go_ret
        exact ⟨rfl, hw _ _⟩
      · have e : ltJ x y = decide (x.a < y.a) := by rw [Bool.eq_iff_iff, ltJ_iff, decide_eq_true_iff]; omega
        have h3' : (x.a != y.a) = true := by simpa using h3
        rw [e]; clear e h3 d1
        go_enter Try.func33, Try.ntmps33
        go_wp2
        go_ret
        exact ⟨rfl, hw _ _⟩
    · have e : ltJ x y = true := by rw [ltJ_iff]; omega
      rw [e]; clear e d1
      go_enter Try.func33, Try.ntmps33
      go_wp2
      go_ret
      exact ⟨rfl, hw _ _⟩
  · by_cases h2 : y.a < y.b
    · have e : ltJ x y = false := by rw [Bool.eq_false_iff, Ne, ltJ_iff]; omega
      rw [e]; clear e
      go_enter Try.func33, Try.ntmps33
      go_wp2
      go_ret
      exact ⟨rfl, hw _ _⟩
    · by_cases h3 : x.b = y.b
      · have e : ltJ x y = decide (x.id < y.id) := by rw [Bool.eq_iff_iff, ltJ_iff, decide_eq_true_iff]; omega
        have h3' : (x.b != y.b) = false := by simpa using h3
        rw [e]; clear e h3
        go_enter Try.func33, Try.ntmps33
        go_wp2
        go_ret
        exact ⟨rfl, hw _ _⟩
      · have e : ltJ x y = decide (y.b < x.b) := by rw [Bool.eq_iff_iff, ltJ_iff, decide_eq_true_iff]; omega
        have h3' : (x.b != y.b) = true := by simpa using h3
        rw [e]; clear e h3
        go_enter Try.func33, Try.ntmps33
        go_wp2
        go_ret
        exact ⟨rfl, hw _ _⟩

theorem lenBoundP {ys ls : List Pz} {k n : Nat} (h : ys.Perm (ls.take k)) (hl : ls.length = n) (hk : k < n) : ys.length < ls.length := by
  rw [h.length_eq]; simp; omega

set_option maxRecDepth 8000 in
set_option maxHeartbeats 2000000 in
theorem specJohnson_any (a : Option Addr) (n cap : Nat) (ls : List Pz) (w : World) (h : PassS w a n cap ls) :
    Calls Try.prog 13 #[.slice a n cap] w fun e w' => ∃ v m cap' ys, e = .returned (.slice v m cap') ∧ PassS w' v m cap' ys ∧ IsJ ls ys ∧ Below w.heap.size w w' := by
  have hm := h.mx
  have hle := h.le
  have hlen := h.len
  unfold maxLen at hm
  obtain ⟨i1, hj, hj0, hj1, hj2⟩ := info_parts infoPass
  have hmo : Try.prog.follows .mixedOrders = true := by kernel_rfl
  have bx : Below w.heap.size w (w.alloc (.cells #[] 31)) := box_below
  have own0 : OwnPass (w.alloc (.cells #[] 31)) w.heap.size w.heap.size 0 [] := ⟨World.ownsRow_made w #[] 0 (Nat.le_refl _) (Nat.zero_le _) rfl, Nat.le_refl _, Nat.zero_le _, Nat.le_refl _, by simp⟩
  rcases hq : psB ls with _ | _
  · go_enter Try.func13, Try.ntmps13
    go_wp2_with (go_at_call 19; refine (specPassesOk_any _ _ _ _ _ (h.below bx)).mono ?_; rw [hq]; rintro e w1 ⟨rfl, hb1⟩)
    go_ret
    exact ⟨_, _, _, [], rfl, (own0.below hb1).toS (fun i hi => by simp at hi), Or.inl ⟨hq, rfl⟩, bx.then hb1 bx.size⟩
  · have hok := psB_t hq
    have hn40 := hok.n
    go_enter Try.func13, Try.ntmps13
    go_wp2_with (go_at_call 19; refine (specPassesOk_any _ _ _ _ _ (h.below bx)).mono ?_; rw [hq]; rintro e w1 ⟨rfl, hb1⟩)
    have own1 := own0.below hb1
    have bw1 := bx.then hb1 bx.size
    clear own0 hb1 bx
    go_loopw [3, 4] (fun u i wr => ∃ (k g uc : Nat) (ys : List Pz), k ≤ n ∧ i = .int .i64 k ∧ u = .slice (some ⟨g, 0, none⟩) ys.length uc ∧ Hid (OwnPass wr w.heap.size g uc ys) ∧ ys.length ≤ 40 ∧ Hid (ys.Perm (ls.take k)) ∧ Hid (ys.Pairwise notLaterP) ∧ Below w.heap.size w wr) (fun _ i _ => n - (intOf i).toNat)
    case atStart => exact ⟨0, _, 0, [], by omega, rfl, rfl, own1, by simp, by simp [Hid], List.Pairwise.nil, bw1⟩
    case round =>
      obtain ⟨k, g, uc, ys, hk, rfl, rfl, HO, hy40, HP, HS, hw⟩ := hrel
      rename World => wo
      by_cases hlt : k < n
      · obtain ⟨b, off, rfl, hbw, hat⟩ := h.at_ (by omega)
        have hlt' : (k : Int) < (n : Int) := by omega
        go_wp2
        go_loopw [5] (fun p wr => ∃ m : Nat, m ≤ ys.length ∧ p = .int .i64 m ∧ (∀ x, x < m → ltJ (pzg ls k) (pzg ys x) = false) ∧ Below wo.heap.size wo wr) (fun p _ => ys.length - (intOf p).toNat)
        case atStart => exact ⟨0, by omega, rfl, fun x hx => by omega, Below.refl _ _⟩
        case round =>
          obtain ⟨m, hmy, rfl, hno, hwi⟩ := hrel
          rename World => wi
          have hww := hw.then hwi hw.size
          have hbi : b < wi.heap.size := Nat.lt_of_lt_of_le hbw hww.size
          have hOi := HO.out.below hwi
          have hgi := hOi.lt
          have Hj := (hat.below hww hbw).row (i := k) (by omega)
          have P0 := fun nn os => cell_grown (w := wi) (by exact hbi) Hj.1 nn os
          have P1 := fun nn os => cell_grown (w := wi) (by exact hbi) Hj.2.1 nn os
          have P2 := fun nn os => cell_grown (w := wi) (by exact hbi) Hj.2.2 nn os
          have HX : Hid (m < ys.length → ltJ (pzg ls k) (pzg ys m) = true) ∨ (m < ys.length ∧ ltJ (pzg ls k) (pzg ys m) = false) := by
            by_cases h1 : m < ys.length
            · by_cases h2 : ltJ (pzg ls k) (pzg ys m) = true
              · exact Or.inl (fun _ => h2)
              · exact Or.inr ⟨h1, by simpa using h2⟩
            · exact Or.inl (fun h => absurd h h1)
          rcases HX with HX | ⟨hmt, hf⟩
          · by_cases hmt : m < ys.length
            · have ht := HX.out hmt
              have hmt' : (m : Int) < (ys.length : Int) := by omega
              have Hm := hOi.at_.row (i := m) hmt
              rw [Nat.zero_add] at Hm
              have Q0 := fun nn os => cell_grown (w := wi) (by exact hgi) Hm.1 nn os
              have Q1 := fun nn os => cell_grown (w := wi) (by exact hgi) Hm.2.1 nn os
              have Q2 := fun nn os => cell_grown (w := wi) (by exact hgi) Hm.2.2 nn os
              have CA : ∀ W, Calls Try.prog 33 #[.agg #[.int .i64 (pzg ls k).id, .int .i64 (pzg ls k).a, .int .i64 (pzg ls k).b], .agg #[.int .i64 (pzg ys m).id, .int .i64 (pzg ys m).a, .int .i64 (pzg ys m).b]] W fun e w' => e = .returned (.bool true) ∧ ∃ q os', w' = grow (W.drewN q) os' := fun W => by rw [← ht]; exact l7Ahead_grow _ _ W
              clear Hm Hj ht
              go_wp2
              go_quiet_grown ((go_at_call 33; exact Calls.grown_of (CA _)))
              have B3 : Below wo.heap.size wo (grow (wi.drewN nq) osq) := hwi.then (below_grow _ _ _) hwi.size
              obtain ⟨w3, hw3⟩ : ∃ w3, w3 = grow (wi.drewN nq) osq := ⟨_, rfl⟩
              rw [← hw3] at B3 ⊢
              clear hw3
              have hw3 := hw.then B3 hw.size
              have O3 := HO.out.below B3
              have hb3 : w.heap.size ≤ w3.heap.size := hw3.size
              have OE := World.ownsRow_made (base := w.heap.size) (e := 31) (size := 3) w3 #[] 0 hb3 (Nat.zero_le _) rfl
              obtain ⟨ad, HA, HC⟩ : ∃ ad : Addr, (if uc = m then some (⟨g, 0, none⟩ : Addr) else some ⟨g, m * 3, none⟩) = some ad ∧ ∀ j u, (pzcells (ys.drop m))[j]? = some u → (w3.alloc (.cells #[] 31)).cell? (ad.add j) = some u := by
                have hlt3 := O3.lt
                by_cases hum : uc = m
                · refine ⟨⟨g, 0, none⟩, if_pos hum, fun j u hju => ?_⟩
                  have hy : ys.drop m = [] := List.drop_eq_nil_of_le (by have := O3.le; omega)
                  rw [hy] at hju
                  simp [pzcells] at hju
                · refine ⟨⟨g, m * 3, none⟩, if_neg hum, fun j u hju => ?_⟩
                  have := O3.rest m j u hju
                  rw [Nat.zero_add] at this
                  rw [World.cell?_alloc_lt _ _ _ (World.block_lt_of_cell? w3 _ this)]
                  exact this
              have hjl : (pzcells (ys.drop m)).length = (ys.length - m) * 3 := by rw [pzcells_len]; simp
              go_wp2_with (at_builtin; refine wpList_append_own_at _ rfl (.tmp 36) (.tmp 39) 24 rfl w.heap.size 31 i1 (.agg #[.int .i64 0, .int .i64 0, .int .i64 0]) 3 24 Try.underlying24 hj hj0 hj1 hj2 rfl (by decide) _ _ _ rfl OE ad (ys.length - m) (uc - m) (pzcells (ys.drop m)) ?ea hjl HC (pzcells_one _) (by unfold maxLen; omega) (by omega) (by simp; omega) ?_)
              case ea => rfl
              intro v4 w4 own4 grow4 nil4 at4
              have hv4 : v4 ≠ .slice none 0 0 := nil4
              obtain ⟨rg, rc, rfl, R4⟩ := ownPass_of' (ys := ys.drop m) own4 (by simp) (by simp) hv4
              have hrg : w3.heap.size ≤ rg := by
                rcases at4 with e | e
                · simp [Value.ownBlock] at e; omega
                · simp [Value.ownBlock] at e; omega
              have B4 : Below w3.heap.size w3 w4 := box_below0.grown grow4 (by simp) (fun r e => by simp [Value.ownBlock] at e; omega)
              have O4 := O3.below B4
              have hg3 := O3.lt
              have hww4 := hw3.then B4 hw3.size
              clear own4 grow4 nil4 at4 hv4 HA HC OE
              have HS4 : w4.cell? ⟨b, off + k * 3, none⟩ = some (.int .i64 (pzg ls k).id) ∧ w4.cell? ⟨b, off + k * 3 + 1, none⟩ = some (.int .i64 (pzg ls k).a) ∧ w4.cell? ⟨b, off + k * 3 + 2, none⟩ = some (.int .i64 (pzg ls k).b) := (hat.below hww4 hbw).row (i := k) (by omega)
              have OP : ∀ W, Below w4.heap.size w4 W → W.ownsRow w.heap.size 31 3 (.slice (some ⟨g, 0, none⟩) m uc) m (pzcells (ys.take m)) := fun W hW => (O4.below hW).pre hmy
              have hbg : b ≠ g := by have := O3.base; omega
              have hrgg : rg ≠ g := by omega
              have hzw4 : w.heap.size ≤ w4.heap.size := hww4.size
              have hgb : w.heap.size ≤ g := O3.base
              have hmc : (m : Int) ≤ (uc : Int) := by have := O4.le; omega
              have hm0 : (0 : Int) ≤ (m : Int) := by omega
              have hyt : (ys.take m ++ [pzg ls k]).length = m + 1 := by simp; omega
              have hyi : (insAtP ys m (pzg ls k)).length = ys.length + 1 := by unfold insAtP; simp; omega
              have KA : Hid (∀ o, ((w4.alloc o).drew).cell? ⟨b, off + k * 3, none⟩ = some (.int .i64 (pzg ls k).id) ∧ ((w4.alloc o).drew).cell? ⟨b, off + k * 3 + 1, none⟩ = some (.int .i64 (pzg ls k).a) ∧ ((w4.alloc o).drew).cell? ⟨b, off + k * 3 + 2, none⟩ = some (.int .i64 (pzg ls k).b)) := fun o => by
                have hc : ∀ j, ((w4.alloc o).drew).cell? ⟨b, j, none⟩ = w4.cell? ⟨b, j, none⟩ := fun j => by show (w4.alloc o).cell? _ = _; exact World.cell?_alloc_lt _ _ _ (by have := hww4.size; simp; omega)
                rw [hc, hc, hc]; exact HS4
              have Kb : ∀ W W' : World, ∀ gg, W.grownBy W' (some gg) → b ≠ gg → b < W.heap.size → W.cell? ⟨b, off + k * 3, none⟩ = some (.int .i64 (pzg ls k).id) ∧ W.cell? ⟨b, off + k * 3 + 1, none⟩ = some (.int .i64 (pzg ls k).a) ∧ W.cell? ⟨b, off + k * 3 + 2, none⟩ = some (.int .i64 (pzg ls k).b) → W'.cell? ⟨b, off + k * 3, none⟩ = some (.int .i64 (pzg ls k).id) ∧ W'.cell? ⟨b, off + k * 3 + 1, none⟩ = some (.int .i64 (pzg ls k).a) ∧ W'.cell? ⟨b, off + k * 3 + 2, none⟩ = some (.int .i64 (pzg ls k).b) := fun W W' gg hg hne hlt hS => by
                have hc : ∀ o, W'.cell? ⟨b, o, none⟩ = W.cell? ⟨b, o, none⟩ := fun o => World.cell?_of_block (a := ⟨b, o, none⟩) (hg.block b hlt (by simpa using hne))
                rw [hc, hc, hc]; exact hS
              have gk : ∀ (W5 : World) (o : Obj), ((w4.alloc o).drew).grownBy W5 (Value.slice (some ⟨g, 0, none⟩) m uc).ownBlock → w4.grownBy W5 (some g) := fun W5 o hg =>
                ⟨hg.os, hg.tape, hg.output, Nat.le_trans (by simp) hg.size, fun r hr hne => (hg.block r (by simp; omega) (by simpa [Value.ownBlock] using hne)).trans (Below.heap_alloc _ _ _ hr)⟩
              have rk : ∀ (W5 : World), w4.grownBy W5 (some g) → ∀ j u, (pzcells (ys.drop m))[j]? = some u → W5.cell? ((⟨rg, 0, none⟩ : Addr).add j) = some u := fun W5 hg j u hju => by
                have h1 := World.ownsRow.cells R4.own (g := rg) rfl j u hju
                have hadd : (⟨rg, 0, none⟩ : Addr).add j = ⟨rg, j, none⟩ := by unfold Addr.add; split <;> simp_all
                rw [hadd] at h1 ⊢
                exact (World.cell?_of_block (a := ⟨rg, j, none⟩) (hg.block rg R4.lt (by simpa using hrgg))).trans h1
              have bw5 : ∀ W, Below w4.heap.size w4 W → w4.heap.size ≤ W.heap.size := fun W hW => hW.size
              have HOP : Hid (∀ W, Below w4.heap.size w4 W → W.ownsRow w.heap.size 31 3 (.slice (some ⟨g, 0, none⟩) m uc) m (pzcells (ys.take m))) := OP
              have HKb : Hid _ := Kb
              have Hgk : Hid _ := gk
              have Hrk : Hid _ := rk
              clear OP Kb gk rk bw5
              go_wp2
              go_region_held_law (fun w' => w'.cell? ⟨b, off + k * 3, none⟩ = some (.int .i64 (pzg ls k).id) ∧ w'.cell? ⟨b, off + k * 3 + 1, none⟩ = some (.int .i64 (pzg ls k).a) ∧ w'.cell? ⟨b, off + k * 3 + 2, none⟩ = some (.int .i64 (pzg ls k).b)) (first | exact KS6 | exact KS5 | exact HS4 | exact KA.out _ | go_keep) (first
                | (refine step_append_own rfl (.tmp 43) (.tmp 48) 24 rfl w.heap.size 31 i1 (.agg #[.int .i64 0, .int .i64 0, .int .i64 0]) 3 24 Try.underlying24 hj hj0 hj1 hj2 rfl (by decide) (.slice (some ⟨g, 0, none⟩) m uc) m (pzcells (ys.take m)) rfl (HOP.out _ (by first | exact ((Below.refl _ _).alloc (Nat.le_refl _) _).drew | exact (Below.refl _ _).drew.alloc (Nat.le_refl _) _)) ⟨w4.heap.size, 0, none⟩ 1 1 [.int .i64 (pzg ls k).id, .int .i64 (pzg ls k).a, .int .i64 (pzg ls k).b] rfl rfl (newPass_cells _ _ _) (pzl_one (pzg ls k)) (by unfold maxLen; omega) (by omega) (by simp; omega) ?_
                   intro v5 w5 own5 grow5 nil5 at5
                   obtain ⟨g5, c5, rfl, O5⟩ := ownPass_of' (ys := ys.take m ++ [pzg ls k]) own5 hyt.symm (by rw [pzcells_app]; rfl) (fun e => by have := (nil5.1 e).2; omega)
                   have B5 : Below w.heap.size w w5 := (by first | exact ((hww4.alloc (by omega) _).drew.grown grow5 (by simp; omega) (fun r e => by simp [Value.ownBlock] at e; omega)) | exact ((hww4.drew.alloc (by simp; omega) _).grown grow5 (by simp; omega) (fun r e => by simp [Value.ownBlock] at e; omega)))
                   have G5 := Hgk.out _ _ grow5
                   have KS5 := HKb.out w4 w5 g G5 hbg (by have := hww4.size; omega) HS4
                   have R5 := Hrk.out _ G5
                   clear nil5 at5)
                | (refine step_append_own rfl (.tmp 49) (.tmp 50) 24 rfl w.heap.size 31 i1 (.agg #[.int .i64 0, .int .i64 0, .int .i64 0]) 3 24 Try.underlying24 hj hj0 hj1 hj2 rfl (by decide) _ _ _ rfl own5 ⟨rg, 0, none⟩ (ys.length - m) rc (pzcells (ys.drop m)) rfl hjl R5 (pzcells_one _) (by unfold maxLen; omega) (by omega) B5.size ?_
                   intro v6 w6 own6 grow6 nil6 at6
                   obtain ⟨g6, c6, rfl, O6⟩ := ownPass_of' (ys := insAtP ys m (pzg ls k)) own6 (by have := hyi; omega) (by unfold insAtP; rw [pzcells_app, pzcells_app]; rfl) (fun e => nomatch (nil6.1 e).1)
                   have B6 : Below w.heap.size w w6 := B5.grown grow6 B5.size (fun r e => by have e' : g5 = r := Option.some.inj e; have := O5.base; omega)
                   have KS6 := HKb.out w5 w6 g5 grow6 (by have := O5.base; omega) (by have := B5.size; omega) KS5
                   clear own6 nil6 at6))
              have HPi : Hid ((insAtP ys m (pzg ls k)).Perm (ls.take (k + 1))) := by
                unfold Hid
                rw [List.take_succ_eq_append_getElem (by omega), ← pzg_get (by omega)]
                exact insAtPP_perm ys m (pzg ls k) HP.out
              have HSi : Hid ((insAtP ys m (pzg ls k)).Pairwise notLaterP) := insAtPP_sorted HS.out hmy hno HX.out
              clear HKb Hgk Hrk HOP KA
              go_wp2
              go_roundw
              case rel => exact ⟨k + 1, g6, c6, insAtP ys m (pzg ls k), by omega, by go_num, by rw [hyi]; exact congrArg (fun x => Value.slice _ x _) (by omega), O6, by rw [hyi]; exact Nat.le_trans (Nat.succ_le_of_lt (lenBoundP HP.out hlen hlt)) hn40, HPi, HSi, B6⟩
              case measure => simp [intOf]; omega
            · have hd : decide ((m : Int) < (ys.length : Int)) = false := by simp; omega
              clear Hj
              go_wp2
              go_quiet (fail)
              have B3 : Below wo.heap.size wo (wi.drewN nq) := hwi.drewN _
              obtain ⟨w3, hw3⟩ : ∃ w3, w3 = wi.drewN nq := ⟨_, rfl⟩
              rw [← hw3] at B3 ⊢
              clear hw3
              have hw3 := hw.then B3 hw.size
              have O3 := HO.out.below B3
              have hb3 : w.heap.size ≤ w3.heap.size := hw3.size
              have OE := World.ownsRow_made (base := w.heap.size) (e := 31) (size := 3) w3 #[] 0 hb3 (Nat.zero_le _) rfl
              obtain ⟨ad, HA, HC⟩ : ∃ ad : Addr, (if uc = m then some (⟨g, 0, none⟩ : Addr) else some ⟨g, m * 3, none⟩) = some ad ∧ ∀ j u, (pzcells (ys.drop m))[j]? = some u → (w3.alloc (.cells #[] 31)).cell? (ad.add j) = some u := by
                have hlt3 := O3.lt
                by_cases hum : uc = m
                · refine ⟨⟨g, 0, none⟩, if_pos hum, fun j u hju => ?_⟩
                  have hy : ys.drop m = [] := List.drop_eq_nil_of_le (by have := O3.le; omega)
                  rw [hy] at hju
                  simp [pzcells] at hju
                · refine ⟨⟨g, m * 3, none⟩, if_neg hum, fun j u hju => ?_⟩
                  have := O3.rest m j u hju
                  rw [Nat.zero_add] at this
                  rw [World.cell?_alloc_lt _ _ _ (World.block_lt_of_cell? w3 _ this)]
                  exact this
              have hjl : (pzcells (ys.drop m)).length = (ys.length - m) * 3 := by rw [pzcells_len]; simp
              go_wp2_with (at_builtin; refine wpList_append_own_at _ rfl (.tmp 36) (.tmp 39) 24 rfl w.heap.size 31 i1 (.agg #[.int .i64 0, .int .i64 0, .int .i64 0]) 3 24 Try.underlying24 hj hj0 hj1 hj2 rfl (by decide) _ _ _ rfl OE ad (ys.length - m) (uc - m) (pzcells (ys.drop m)) ?eb hjl HC (pzcells_one _) (by unfold maxLen; omega) (by omega) (by simp; omega) ?_)
              case eb => rfl
              intro v4 w4 own4 grow4 nil4 at4
              have hv4 : v4 ≠ .slice none 0 0 := nil4
              obtain ⟨rg, rc, rfl, R4⟩ := ownPass_of' (ys := ys.drop m) own4 (by simp) (by simp) hv4
              have hrg : w3.heap.size ≤ rg := by
                rcases at4 with e | e
                · simp [Value.ownBlock] at e; omega
                · simp [Value.ownBlock] at e; omega
              have B4 : Below w3.heap.size w3 w4 := box_below0.grown grow4 (by simp) (fun r e => by simp [Value.ownBlock] at e; omega)
              have O4 := O3.below B4
              have hg3 := O3.lt
              have hww4 := hw3.then B4 hw3.size
              clear own4 grow4 nil4 at4 hv4 HA HC OE
              have HS4 : w4.cell? ⟨b, off + k * 3, none⟩ = some (.int .i64 (pzg ls k).id) ∧ w4.cell? ⟨b, off + k * 3 + 1, none⟩ = some (.int .i64 (pzg ls k).a) ∧ w4.cell? ⟨b, off + k * 3 + 2, none⟩ = some (.int .i64 (pzg ls k).b) := (hat.below hww4 hbw).row (i := k) (by omega)
              have OP : ∀ W, Below w4.heap.size w4 W → W.ownsRow w.heap.size 31 3 (.slice (some ⟨g, 0, none⟩) m uc) m (pzcells (ys.take m)) := fun W hW => (O4.below hW).pre hmy
              have hbg : b ≠ g := by have := O3.base; omega
              have hrgg : rg ≠ g := by omega
              have hzw4 : w.heap.size ≤ w4.heap.size := hww4.size
              have hgb : w.heap.size ≤ g := O3.base
              have hmc : (m : Int) ≤ (uc : Int) := by have := O4.le; omega
              have hm0 : (0 : Int) ≤ (m : Int) := by omega
              have hyt : (ys.take m ++ [pzg ls k]).length = m + 1 := by simp; omega
              have hyi : (insAtP ys m (pzg ls k)).length = ys.length + 1 := by unfold insAtP; simp; omega
              have KA : Hid (∀ o, ((w4.alloc o).drew).cell? ⟨b, off + k * 3, none⟩ = some (.int .i64 (pzg ls k).id) ∧ ((w4.alloc o).drew).cell? ⟨b, off + k * 3 + 1, none⟩ = some (.int .i64 (pzg ls k).a) ∧ ((w4.alloc o).drew).cell? ⟨b, off + k * 3 + 2, none⟩ = some (.int .i64 (pzg ls k).b)) := fun o => by
                have hc : ∀ j, ((w4.alloc o).drew).cell? ⟨b, j, none⟩ = w4.cell? ⟨b, j, none⟩ := fun j => by show (w4.alloc o).cell? _ = _; exact World.cell?_alloc_lt _ _ _ (by have := hww4.size; simp; omega)
                rw [hc, hc, hc]; exact HS4
              have Kb : ∀ W W' : World, ∀ gg, W.grownBy W' (some gg) → b ≠ gg → b < W.heap.size → W.cell? ⟨b, off + k * 3, none⟩ = some (.int .i64 (pzg ls k).id) ∧ W.cell? ⟨b, off + k * 3 + 1, none⟩ = some (.int .i64 (pzg ls k).a) ∧ W.cell? ⟨b, off + k * 3 + 2, none⟩ = some (.int .i64 (pzg ls k).b) → W'.cell? ⟨b, off + k * 3, none⟩ = some (.int .i64 (pzg ls k).id) ∧ W'.cell? ⟨b, off + k * 3 + 1, none⟩ = some (.int .i64 (pzg ls k).a) ∧ W'.cell? ⟨b, off + k * 3 + 2, none⟩ = some (.int .i64 (pzg ls k).b) := fun W W' gg hg hne hlt hS => by
                have hc : ∀ o, W'.cell? ⟨b, o, none⟩ = W.cell? ⟨b, o, none⟩ := fun o => World.cell?_of_block (a := ⟨b, o, none⟩) (hg.block b hlt (by simpa using hne))
                rw [hc, hc, hc]; exact hS
              have gk : ∀ (W5 : World) (o : Obj), ((w4.alloc o).drew).grownBy W5 (Value.slice (some ⟨g, 0, none⟩) m uc).ownBlock → w4.grownBy W5 (some g) := fun W5 o hg =>
                ⟨hg.os, hg.tape, hg.output, Nat.le_trans (by simp) hg.size, fun r hr hne => (hg.block r (by simp; omega) (by simpa [Value.ownBlock] using hne)).trans (Below.heap_alloc _ _ _ hr)⟩
              have rk : ∀ (W5 : World), w4.grownBy W5 (some g) → ∀ j u, (pzcells (ys.drop m))[j]? = some u → W5.cell? ((⟨rg, 0, none⟩ : Addr).add j) = some u := fun W5 hg j u hju => by
                have h1 := World.ownsRow.cells R4.own (g := rg) rfl j u hju
                have hadd : (⟨rg, 0, none⟩ : Addr).add j = ⟨rg, j, none⟩ := by unfold Addr.add; split <;> simp_all
                rw [hadd] at h1 ⊢
                exact (World.cell?_of_block (a := ⟨rg, j, none⟩) (hg.block rg R4.lt (by simpa using hrgg))).trans h1
              have bw5 : ∀ W, Below w4.heap.size w4 W → w4.heap.size ≤ W.heap.size := fun W hW => hW.size
              have HOP : Hid (∀ W, Below w4.heap.size w4 W → W.ownsRow w.heap.size 31 3 (.slice (some ⟨g, 0, none⟩) m uc) m (pzcells (ys.take m))) := OP
              have HKb : Hid _ := Kb
              have Hgk : Hid _ := gk
              have Hrk : Hid _ := rk
              clear OP Kb gk rk bw5
              go_wp2
              go_region_held_law (fun w' => w'.cell? ⟨b, off + k * 3, none⟩ = some (.int .i64 (pzg ls k).id) ∧ w'.cell? ⟨b, off + k * 3 + 1, none⟩ = some (.int .i64 (pzg ls k).a) ∧ w'.cell? ⟨b, off + k * 3 + 2, none⟩ = some (.int .i64 (pzg ls k).b)) (first | exact KS6 | exact KS5 | exact HS4 | exact KA.out _ | go_keep) (first
                | (refine step_append_own rfl (.tmp 43) (.tmp 48) 24 rfl w.heap.size 31 i1 (.agg #[.int .i64 0, .int .i64 0, .int .i64 0]) 3 24 Try.underlying24 hj hj0 hj1 hj2 rfl (by decide) (.slice (some ⟨g, 0, none⟩) m uc) m (pzcells (ys.take m)) rfl (HOP.out _ (by first | exact ((Below.refl _ _).alloc (Nat.le_refl _) _).drew | exact (Below.refl _ _).drew.alloc (Nat.le_refl _) _)) ⟨w4.heap.size, 0, none⟩ 1 1 [.int .i64 (pzg ls k).id, .int .i64 (pzg ls k).a, .int .i64 (pzg ls k).b] rfl rfl (newPass_cells _ _ _) (pzl_one (pzg ls k)) (by unfold maxLen; omega) (by omega) (by simp; omega) ?_
                   intro v5 w5 own5 grow5 nil5 at5
                   obtain ⟨g5, c5, rfl, O5⟩ := ownPass_of' (ys := ys.take m ++ [pzg ls k]) own5 hyt.symm (by rw [pzcells_app]; rfl) (fun e => by have := (nil5.1 e).2; omega)
                   have B5 : Below w.heap.size w w5 := (by first | exact ((hww4.alloc (by omega) _).drew.grown grow5 (by simp; omega) (fun r e => by simp [Value.ownBlock] at e; omega)) | exact ((hww4.drew.alloc (by simp; omega) _).grown grow5 (by simp; omega) (fun r e => by simp [Value.ownBlock] at e; omega)))
                   have G5 := Hgk.out _ _ grow5
                   have KS5 := HKb.out w4 w5 g G5 hbg (by have := hww4.size; omega) HS4
                   have R5 := Hrk.out _ G5
                   clear nil5 at5)
                | (refine step_append_own rfl (.tmp 49) (.tmp 50) 24 rfl w.heap.size 31 i1 (.agg #[.int .i64 0, .int .i64 0, .int .i64 0]) 3 24 Try.underlying24 hj hj0 hj1 hj2 rfl (by decide) _ _ _ rfl own5 ⟨rg, 0, none⟩ (ys.length - m) rc (pzcells (ys.drop m)) rfl hjl R5 (pzcells_one _) (by unfold maxLen; omega) (by omega) B5.size ?_
                   intro v6 w6 own6 grow6 nil6 at6
                   obtain ⟨g6, c6, rfl, O6⟩ := ownPass_of' (ys := insAtP ys m (pzg ls k)) own6 (by have := hyi; omega) (by unfold insAtP; rw [pzcells_app, pzcells_app]; rfl) (fun e => nomatch (nil6.1 e).1)
                   have B6 : Below w.heap.size w w6 := B5.grown grow6 B5.size (fun r e => by have e' : g5 = r := Option.some.inj e; have := O5.base; omega)
                   have KS6 := HKb.out w5 w6 g5 grow6 (by have := O5.base; omega) (by have := B5.size; omega) KS5
                   clear own6 nil6 at6))
              have HPi : Hid ((insAtP ys m (pzg ls k)).Perm (ls.take (k + 1))) := by
                unfold Hid
                rw [List.take_succ_eq_append_getElem (by omega), ← pzg_get (by omega)]
                exact insAtPP_perm ys m (pzg ls k) HP.out
              have HSi : Hid ((insAtP ys m (pzg ls k)).Pairwise notLaterP) := insAtPP_sorted HS.out hmy hno HX.out
              clear HKb Hgk Hrk HOP KA
              go_wp2
              go_roundw
              case rel => exact ⟨k + 1, g6, c6, insAtP ys m (pzg ls k), by omega, by go_num, by rw [hyi]; exact congrArg (fun x => Value.slice _ x _) (by omega), O6, by rw [hyi]; exact Nat.le_trans (Nat.succ_le_of_lt (lenBoundP HP.out hlen hlt)) hn40, HPi, HSi, B6⟩
              case measure => simp [intOf]; omega
          · have hmt' : (m : Int) < (ys.length : Int) := by omega
            have Hm := hOi.at_.row (i := m) hmt
            rw [Nat.zero_add] at Hm
            have Q0 := fun nn os => cell_grown (w := wi) (by exact hgi) Hm.1 nn os
            have Q1 := fun nn os => cell_grown (w := wi) (by exact hgi) Hm.2.1 nn os
            have Q2 := fun nn os => cell_grown (w := wi) (by exact hgi) Hm.2.2 nn os
            have HF : Hid (ltJ (pzg ls k) (pzg ys m) = false) := hf
            have CA : ∀ W, Calls Try.prog 33 #[.agg #[.int .i64 (pzg ls k).id, .int .i64 (pzg ls k).a, .int .i64 (pzg ls k).b], .agg #[.int .i64 (pzg ys m).id, .int .i64 (pzg ys m).a, .int .i64 (pzg ys m).b]] W fun e w' => e = .returned (.bool false) ∧ ∃ q os', w' = grow (W.drewN q) os' := fun W => by rw [← hf]; exact l7Ahead_grow _ _ W
            clear Hm Hj hf
            go_wp2
            go_quiet_grown ((go_at_call 33; exact Calls.grown_of (CA _)))
            go_wp2
            go_roundw
            case rel => exact ⟨m + 1, by omega, by go_num, fun x hx => by (by_cases e : x = m; (subst e; exact HF.out); exact hno x (by omega)), hwi.then (below_grow _ _ _) hwi.size⟩
            case measure => simp [intOf]; omega
      · have e : k = n := by omega
        subst e
        go_wp2
        go_ret
        have hpn : ys.Perm ls := by have := HP.out; rwa [List.take_of_length_le (by omega)] at this
        refine ⟨_, _, _, ys, rfl, HO.out.toS (fun i hi => ?_), Or.inr ⟨hq, hpn, HS.out⟩, hw⟩
        have hmem : pzg ys i ∈ ls := hpn.subset (by rw [pzg_get hi]; exact List.getElem_mem hi)
        obtain ⟨j, hjl, e⟩ := List.getElem_of_mem hmem
        rw [← e, ← pzg_get hjl]
        exact h.wf j (by omega)

end Go.Proofs.Ytkakdodamnnplaa
