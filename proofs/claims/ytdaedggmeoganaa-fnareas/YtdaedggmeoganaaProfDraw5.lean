/- Two profiles drawn; profiles compared by the laws. -/
import Derived.Test.YtdaedggmeoganaaProfDraw4
import Derived.Test.YtdaedggmeoganaaLevC
namespace Go.Proofs.Ytdaedggmeoganaa
open Go.RowKit

set_option maxHeartbeats 1000000 in
theorem likeProfile_same (T : Int) (a a' : Option Addr) (n cap cap' : Nat) (ls : List Lev) (w : World) (h : LevS w a n cap ls) (h' : LevS w a' n cap' ls) :
    Calls Try.prog 23 #[.agg #[.int .i64 T, .slice a n cap], .agg #[.int .i64 T, .slice a' n cap']] w fun e w' => e = .returned (.bool true) ∧ Below w.heap.size w w' := by
  have hm := h.mx
  have hle := h.le
  unfold maxLen at hm
  obtain ⟨W, hW⟩ : ∃ W, W = (w.alloc (.cells #[.int .i64 T, .slice a n cap] 26)).alloc (.cells #[.int .i64 T, .slice a' n cap'] 26) := ⟨_, rfl⟩
  have BW : Below w.heap.size w W := by rw [hW]; exact box_below.alloc (by simp) _
  have hW2 : W.heap.size = w.heap.size + 2 := by rw [hW]; simp
  have bA : W.heap[w.heap.size]? = some (.cells #[.int .i64 T, .slice a n cap] 26 (0, 0)) := by rw [hW]; exact (Below.heap_alloc _ _ _ (by simp)).trans (heap_alloc_new _ _)
  have bB : W.heap[w.heap.size + 1]? = some (.cells #[.int .i64 T, .slice a' n cap'] 26 (0, 0)) := by
    rw [hW]
    have := heap_alloc_new (w.alloc (.cells #[.int .i64 T, .slice a n cap] 26)) (.cells #[.int .i64 T, .slice a' n cap'] 26)
    rwa [show (w.alloc (.cells #[.int .i64 T, .slice a n cap] 26)).heap.size = w.heap.size + 1 by simp] at this
  obtain ⟨p0, p1, _, _⟩ := boxed bA
  obtain ⟨q0, q1, _, _⟩ := boxed bB
  go_enter Try.func23, Try.ntmps23
  go_wp2_with fail
  go_loopw [5] (fun i wr => ∃ k : Nat, k ≤ n ∧ i = .int .i64 k ∧ Below W.heap.size W wr) (fun i _ => n - (intOf i).toNat)
  case atStart => exact ⟨0, by omega, rfl, by rw [← hW]; exact Below.refl _ _⟩
  case round =>
    obtain ⟨k, hk, rfl, hw⟩ := hrel
    obtain ⟨s0, s1, _, _⟩ := boxed ((hw.block _ (lt_of_block bA)).trans bA)
    obtain ⟨u0, u1, _, _⟩ := boxed ((hw.block _ (lt_of_block bB)).trans bB)
    have hw0 := BW.trans (hw.mono (by omega))
    clear p0 p1 q0 q1 hW
    by_cases hlt : k < n
    · obtain ⟨b, off, rfl, hbw, hat⟩ := h.at_ (by omega)
      obtain ⟨b', off', rfl, hbw', hat'⟩ := h'.at_ (by omega)
      obtain ⟨hc0, hc1⟩ := hat.below hw0 hbw k (by rw [h.len]; exact hlt)
      obtain ⟨hd0, hd1⟩ := hat'.below hw0 hbw' k (by rw [h.len]; exact hlt)
      have hlt' : (k : Int) < (n : Int) := by omega
      go_wp2
      go_quiet (fail)
      go_wp2
      go_roundw
      case rel => exact ⟨k + 1, by omega, by go_num, ⟨hw.os, hw.tape, hw.output, hw.size, hw.block⟩⟩
      case measure => simp [intOf]; omega
    · have e : k = n := by omega
      subst e
      go_wp2
      go_ret
      exact ⟨rfl, hw0⟩

/-- two boxes stored -/
theorem fin2 {W : World} {Ra Rb : Nat} {T : TypeId} {u0 u1 x0 x1 : Value} (ha : W.heap[Ra]? = some (.cells #[u0, u1] T (0, 0))) (hb : W.heap[Rb]? = some (.cells #[x0, x1] T (0, 0))) (hne : Ra ≠ Rb) (p0 p1 q0 q1 : Value) :
    ((((W.setCell ⟨Ra, 0, none⟩ p0).setCell ⟨Ra, 1, none⟩ p1).setCell ⟨Rb, 0, none⟩ q0).setCell ⟨Rb, 1, none⟩ q1).heap[Ra]? = some (.cells #[p0, p1] T (0, 0)) ∧
    ((((W.setCell ⟨Ra, 0, none⟩ p0).setCell ⟨Ra, 1, none⟩ p1).setCell ⟨Rb, 0, none⟩ q0).setCell ⟨Rb, 1, none⟩ q1).heap[Rb]? = some (.cells #[q0, q1] T (0, 0)) ∧
    (∀ k, k ≠ Ra → k ≠ Rb → ((((W.setCell ⟨Ra, 0, none⟩ p0).setCell ⟨Ra, 1, none⟩ p1).setCell ⟨Rb, 0, none⟩ q0).setCell ⟨Rb, 1, none⟩ q1).heap[k]? = W.heap[k]?) ∧
    ((((W.setCell ⟨Ra, 0, none⟩ p0).setCell ⟨Ra, 1, none⟩ p1).setCell ⟨Rb, 0, none⟩ q0).setCell ⟨Rb, 1, none⟩ q1).heap.size = W.heap.size := by
  obtain ⟨h1, h2⟩ := Proofs.Ytdaedggmeoganaa.set2 ha p0 p1
  obtain ⟨g1, g2⟩ := Proofs.Ytdaedggmeoganaa.set2 ((h2 Rb (Ne.symm hne)).trans hb) q0 q1
  exact ⟨(g2 Ra hne).trans h1, g1, fun k k1 k2 => (g2 k k2).trans (h2 k k1), by simp [World.setCell]⟩

set_option maxRecDepth 8000 in
set_option maxHeartbeats 4000000 in
theorem drawLower_any (a : Option Addr) (n cap : Nat) (zs : List Int) (w : World) (h : IsBytes w a n cap zs) (hn : n ≤ 4096) :
    Calls Try.prog 20 #[.slice a n cap] w fun e w' => ∃ (T : Int) (v : Option Addr) (m c' : Nat) (ls : List Lev) (T2 : Int) (v2 : Option Addr) (m2 c2 : Nat) (l2 : List Lev), e = .returned (.tuple #[.agg #[.int .i64 T, .slice v m c'], .agg #[.int .i64 T2, .slice v2 m2 c2]]) ∧ LevS w' v m c' ls ∧ LevS w' v2 m2 c2 l2 ∧ (-1 ≤ T ∧ T ≤ 1001) ∧ (-1 ≤ T2 ∧ T2 ≤ 1001) ∧ Below w.heap.size w w' := by
  have hbx0 : Below w.heap.size w (w.alloc (.cells #[.int .i64 0, .slice none 0 0] 26)) := box_below0
  have hbx : Below w.heap.size w ((w.alloc (.cells #[.int .i64 0, .slice none 0 0] 26)).alloc (.cells #[.int .i64 0, .slice none 0 0] 26)) := hbx0.alloc (by simp) _
  go_enter Try.func20, Try.ntmps20
  go_wp2_with fail
  refine (l1New_any a n cap zs _ (h.below hbx) hn).mono ?_
  rintro e w1 ⟨cb, rfl, hcb, c1, U1⟩
  have hcb2 : w.heap.size + 2 ≤ cb := by simpa using hcb
  have bR1 : w1.heap[w.heap.size]? = some (.cells #[.int .i64 0, .slice none 0 0] 26 (0, 0)) := (U1.block _ (by simp; omega)).trans ((Below.heap_alloc _ _ _ (by simp)).trans (heap_alloc_new _ _))
  have bS1 : w1.heap[w.heap.size + 1]? = some (.cells #[.int .i64 0, .slice none 0 0] 26 (0, 0)) := by
    have := heap_alloc_new (w.alloc (.cells #[.int .i64 0, .slice none 0 0] 26)) (.cells #[.int .i64 0, .slice none 0 0] 26)
    rw [show (w.alloc (.cells #[.int .i64 0, .slice none 0 0] 26)).heap.size = w.heap.size + 1 by simp] at this
    exact (U1.block _ (by simp)).trans this
  have V1 := hbx.then U1 hbx.size
  have l1 := c1.lt
  go_wp2_with fail
  refine (l2DrawAny_any cb a n cap zs _ c1).mono ?_
  rintro e w2 ⟨T, v, m, c', ls, rfl, hL, hv, hT, hm, c2, b2⟩
  have z1 := b2.size
  have bR2 := (b2.block _ (lt_of_block bR1) (by omega)).trans bR1
  have bS2 := (b2.block _ (lt_of_block bS1) (by omega)).trans bS1
  have V2 : Below w.heap.size w w2 := V1.trans (b2.below (by omega) V1.size)
  have lR2 := lt_of_block bR2
  have lS2 := lt_of_block bS2
  have H2 : DrawB w cb w2.heap.size T v m c' ls a n cap zs (w2.alloc (.cells #[.int .i64 T, .slice v m c'] 26)) :=
    ⟨(Below.heap_alloc _ _ _ lR2).trans bR2, heap_alloc_new _ _, hL.below box_below0, fun h0 b off e => by
      have h1 := hv b off e
      obtain ⟨b', off', e', h2, _⟩ := hL.at_ h0
      rw [e] at e'; cases e'
      exact ⟨by omega, by omega, by omega⟩, hT, hm, c2.but box_below0 c2.lt, V2.alloc V2.size _, ⟨by omega, by have := c2.lt; omega⟩⟩
  have S2 := (Below.heap_alloc w2 (.cells #[.int .i64 T, .slice v m c'] 26) _ lS2).trans bS2
  have hvS : 0 < m → ∀ b off, v = some ⟨b, off, none⟩ → b ≠ w.heap.size + 1 := fun h0 b off e => by have := hv b off e; omega
  clear hL hv c1 c2 b2 U1 bR1 bR2 bS1 bS2 V1 V2 hcb hbx hbx0
  go_upto_region 3 with fail
  generalize hP : w2.heap.size = P at H2 ⊢
  clear hP
  obtain ⟨p0, p1, _, _⟩ := boxed H2.pb
  have hne : P ≠ w.heap.size := by have := H2.ne; omega
  have hneS : P ≠ w.heap.size + 1 := by have := H2.ne; omega
  have hne2 : w.heap.size ≠ P := by omega
  have K2 := H2.below (Below.refl _ _).drew
  go_wp2_with fail
  go_region_with ((go_at_call 34; refine (l2DrawAny_any cb a n cap zs _ K2.cur).mono ?_; rintro e wz ⟨T2, v2, m2, c2, ls2, rfl, hL2, hv2, hT2, hm2, kz, bz⟩; have HZ := K2.step kz bz; have SZ := (bz.block (w.heap.size + 1) (lt_of_block S2) (by omega)).trans S2; obtain ⟨s0, s1, _, _⟩ := boxed HZ.pb; obtain ⟨r0, r1, g0, g1⟩ := boxed HZ.rb; obtain ⟨y0, y1, y2, y3⟩ := boxed SZ; have HV : Hid (0 < m2 → ∀ b off, v2 = some ⟨b, off, none⟩ → b ≠ w.heap.size ∧ b ≠ w.heap.size + 1) := (fun _ b off e => by have h1 := hv2 b off e; have h2 := H2.bel.size; have h3 := lt_of_block S2; exact ⟨by have h4 : (w2.alloc (.cells #[.int .i64 T, .slice v m c'] 26)).heap.size ≤ b := h1; omega, by have h4 : (w2.alloc (.cells #[.int .i64 T, .slice v m c'] 26)).heap.size ≤ b := h1; omega⟩); have F1 : Hid _ := fin2 HZ.rb SZ (by omega) (.int .i64 T) (.slice v m c') (.int .i64 T2) (.slice v2 m2 c2); have F2 : Hid _ := fin2 SZ HZ.rb (by omega) (.int .i64 T2) (.slice v2 m2 c2) (.int .i64 T) (.slice v m c'); clear kz bz hv2))
  all_goals
    go_wp2
    first
      | (obtain ⟨f0, f1, f2, f3⟩ := F1.out
         obtain ⟨x0, x1, _, _⟩ := boxed f0
         obtain ⟨x2, x3, _, _⟩ := boxed f1
         have BB : Below w.heap.size w ((((wz.setCell ⟨w.heap.size, 0, none⟩ (.int .i64 T)).setCell ⟨w.heap.size, 1, none⟩ (.slice v m c')).setCell ⟨w.heap.size + 1, 0, none⟩ (.int .i64 T2)).setCell ⟨w.heap.size + 1, 1, none⟩ (.slice v2 m2 c2)) := (((HZ.bel.setCell (Nat.le_refl _) _).setCell (Nat.le_refl _) _).setCell (show w.heap.size ≤ w.heap.size + 1 by omega) _).setCell (show w.heap.size ≤ w.heap.size + 1 by omega) _
         generalize (((wz.setCell ⟨w.heap.size, 0, none⟩ (.int .i64 T)).setCell ⟨w.heap.size, 1, none⟩ (.slice v m c')).setCell ⟨w.heap.size + 1, 0, none⟩ (.int .i64 T2)).setCell ⟨w.heap.size + 1, 1, none⟩ (.slice v2 m2 c2) = WF at f0 f1 f2 f3 x0 x1 x2 x3 BB ⊢
         exact bodyPost_ret (v := .tuple #[.agg #[.int .i64 T, .slice v m c'], .agg #[.int .i64 T2, .slice v2 m2 c2]]) (by simp [results, Try.results20, go_sem, x0, x1, x2, x3]) rfl ⟨T, v, m, c', ls, T2, v2, m2, c2, ls2, rfl, levs_keep0 HZ.lv (fun h0 b off e _ => f2 b (HZ.vb h0 b off e).2.2 (hvS h0 b off e)) (by omega), levs_keep0 hL2 (fun h0 b off e _ => f2 b (HV.out h0 b off e).1 (HV.out h0 b off e).2) (by omega), HZ.tb, hT2, BB⟩)
      | (obtain ⟨f1, f0, f2, f3⟩ := F2.out
         obtain ⟨x0, x1, _, _⟩ := boxed f0
         obtain ⟨x2, x3, _, _⟩ := boxed f1
         have BB : Below w.heap.size w ((((wz.setCell ⟨w.heap.size + 1, 0, none⟩ (.int .i64 T2)).setCell ⟨w.heap.size + 1, 1, none⟩ (.slice v2 m2 c2)).setCell ⟨w.heap.size, 0, none⟩ (.int .i64 T)).setCell ⟨w.heap.size, 1, none⟩ (.slice v m c')) := (((HZ.bel.setCell (show w.heap.size ≤ w.heap.size + 1 by omega) _).setCell (show w.heap.size ≤ w.heap.size + 1 by omega) _).setCell (Nat.le_refl _) _).setCell (Nat.le_refl _) _
         generalize (((wz.setCell ⟨w.heap.size + 1, 0, none⟩ (.int .i64 T2)).setCell ⟨w.heap.size + 1, 1, none⟩ (.slice v2 m2 c2)).setCell ⟨w.heap.size, 0, none⟩ (.int .i64 T)).setCell ⟨w.heap.size, 1, none⟩ (.slice v m c') = WF at f0 f1 f2 f3 x0 x1 x2 x3 BB ⊢
         exact bodyPost_ret (v := .tuple #[.agg #[.int .i64 T, .slice v m c'], .agg #[.int .i64 T2, .slice v2 m2 c2]]) (by simp [results, Try.results20, go_sem, x0, x1, x2, x3]) rfl ⟨T, v, m, c', ls, T2, v2, m2, c2, ls2, rfl, levs_keep0 HZ.lv (fun h0 b off e _ => f2 b (hvS h0 b off e) (HZ.vb h0 b off e).2.2) (by omega), levs_keep0 hL2 (fun h0 b off e _ => f2 b (HV.out h0 b off e).2 (HV.out h0 b off e).1) (by omega), HZ.tb, hT2, BB⟩)

end Go.Proofs.Ytdaedggmeoganaa
