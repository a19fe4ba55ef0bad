/- Two profiles drawn; profiles compared by the laws. -/
import Derived.Test.YtfepkchopndpeaaProfDraw4
import Derived.Test.YtfepkchopndpeaaPkC
namespace Go.Proofs.Ytfepkchopndpeaa
open Go.RowKit

set_option maxHeartbeats 1000000 in
theorem likeProfile_same (T : Int) (a a' : Option Addr) (n cap cap' : Nat) (ls : List Lev) (w : World) (h : LevS w a n cap ls) (h' : LevS w a' n cap' ls) :
    Calls Try.prog 19 #[.agg #[.int .i64 T, .slice a n cap], .agg #[.int .i64 T, .slice a' n cap']] w fun e w' => e = .returned (.bool true) ∧ Below w.heap.size w w' := by
  have hm := h.mx
  have hle := h.le
  unfold maxLen at hm
  obtain ⟨W, hW⟩ : ∃ W, W = (w.alloc (.cells #[.int .i64 T, .slice a n cap] 26)).alloc (.cells #[.int .i64 T, .slice a' n cap'] 26) := ⟨_, rfl⟩
  have BW : Below w.heap.size w W := by rw [hW]; exact box_below.alloc (by simp) _
  have hW2 : W.heap.size = w.heap.size + 2 := by rw [hW]; simp
  have bA : W.heap[w.heap.size]? = some (.cells #[.int .i64 T, .slice a n cap] 26 (0, 0)) := by rw [hW]; exact (Below.heap_alloc _ _ _ (by simp)).trans (heap_alloc_new _ _)
  have bB : W.heap[w.heap.size + 1]? = some (.cells #[.int .i64 T, .slice a' n cap'] 26 (0, 0)) := by
    rw [hW]
    have := heap_alloc_new (w.alloc (.cells #[.int .i64 T, .slice a n cap] 26)) (.cells #[.int .i64 T, .slice a' n cap'] 26)
    rwa [show (w.alloc (.cells #[.int .i64 T, .slice a n cap] 26)).heap.size = w.heap.size + 1 by simp] at this
  obtain ⟨p0, p1, _, _⟩ := boxed bA
  obtain ⟨q0, q1, _, _⟩ := boxed bB
  go_enter Try.func19, Try.ntmps19
  go_wp2_with fail
  go_loopw [5] (fun i wr => ∃ k : Nat, k ≤ n ∧ i = .int .i64 k ∧ Below W.heap.size W wr) (fun i _ => n - (intOf i).toNat)
  case atStart => exact ⟨0, by omega, rfl, by rw [← hW]; exact Below.refl _ _⟩
  case round =>
    obtain ⟨k, hk, rfl, hw⟩ := hrel
    obtain ⟨s0, s1, _, _⟩ := boxed ((hw.block _ (lt_of_block bA)).trans bA)
    obtain ⟨u0, u1, _, _⟩ := boxed ((hw.block _ (lt_of_block bB)).trans bB)
    have hw0 := BW.trans (hw.mono (by omega))
    clear p0 p1 q0 q1 hW
    by_cases hlt : k < n
    · obtain ⟨b, off, rfl, hbw, hat⟩ := h.at_ (by omega)
      obtain ⟨b', off', rfl, hbw', hat'⟩ := h'.at_ (by omega)
      obtain ⟨hc0, hc1⟩ := hat.below hw0 hbw k (by rw [h.len]; exact hlt)
      obtain ⟨hd0, hd1⟩ := hat'.below hw0 hbw' k (by rw [h.len]; exact hlt)
      have hlt' : (k : Int) < (n : Int) := by omega
      go_wp2
      go_quiet (fail)
      go_wp2
      go_roundw
      case rel => exact ⟨k + 1, by omega, by go_num, ⟨hw.os, hw.tape, hw.output, hw.size, hw.block⟩⟩
      case measure => simp [intOf]; omega
    · have e : k = n := by omega
      subst e
      go_wp2
      go_ret
      exact ⟨rfl, hw0⟩

/-- two boxes stored -/
theorem fin2 {W : World} {Ra Rb : Nat} {T : TypeId} {u0 u1 x0 x1 : Value} (ha : W.heap[Ra]? = some (.cells #[u0, u1] T (0, 0))) (hb : W.heap[Rb]? = some (.cells #[x0, x1] T (0, 0))) (hne : Ra ≠ Rb) (p0 p1 q0 q1 : Value) :
    ((((W.setCell ⟨Ra, 0, none⟩ p0).setCell ⟨Ra, 1, none⟩ p1).setCell ⟨Rb, 0, none⟩ q0).setCell ⟨Rb, 1, none⟩ q1).heap[Ra]? = some (.cells #[p0, p1] T (0, 0)) ∧
    ((((W.setCell ⟨Ra, 0, none⟩ p0).setCell ⟨Ra, 1, none⟩ p1).setCell ⟨Rb, 0, none⟩ q0).setCell ⟨Rb, 1, none⟩ q1).heap[Rb]? = some (.cells #[q0, q1] T (0, 0)) ∧
    (∀ k, k ≠ Ra → k ≠ Rb → ((((W.setCell ⟨Ra, 0, none⟩ p0).setCell ⟨Ra, 1, none⟩ p1).setCell ⟨Rb, 0, none⟩ q0).setCell ⟨Rb, 1, none⟩ q1).heap[k]? = W.heap[k]?) ∧
    ((((W.setCell ⟨Ra, 0, none⟩ p0).setCell ⟨Ra, 1, none⟩ p1).setCell ⟨Rb, 0, none⟩ q0).setCell ⟨Rb, 1, none⟩ q1).heap.size = W.heap.size := by
  obtain ⟨h1, h2⟩ := Proofs.Ytfepkchopndpeaa.set2 ha p0 p1
  obtain ⟨g1, g2⟩ := Proofs.Ytfepkchopndpeaa.set2 ((h2 Rb (Ne.symm hne)).trans hb) q0 q1
  exact ⟨(g2 Ra hne).trans h1, g1, fun k k1 k2 => (g2 k k2).trans (h2 k k1), by simp [World.setCell]⟩

end Go.Proofs.Ytfepkchopndpeaa
