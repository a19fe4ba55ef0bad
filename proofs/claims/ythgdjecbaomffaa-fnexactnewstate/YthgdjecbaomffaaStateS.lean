/- Chapter 13's model: which Entry has this Id; the Jobs; what is in use. -/
import Derived.Test.YthgdjecbaomffaaStateIn
import Derived.Test.YthgdjecbaomffaaPa
import Derived.Test.YthgdjecbaomffaaNodeCh
namespace Go.Proofs.Ythgdjecbaomffaa
open Go.RowKit Go.Sort

/-- the first entry with this id; -1: there is none -/
def IsFd (ls : List En) (id r : Int) : Prop := (r = -1 ∧ ∀ i, i < ls.length → (eng ls i).job.id ≠ id) ∨ ∃ i : Nat, i < ls.length ∧ r = i ∧ (eng ls i).job.id = id ∧ ∀ j, j < i → (eng ls j).job.id ≠ id
theorem IsFd.uniq {ls : List En} {id r r' : Int} (h : IsFd ls id r) (h' : IsFd ls id r') : r = r' := by
  rcases h with ⟨rfl, h1⟩ | ⟨i, hi, rfl, h1, h2⟩ <;> rcases h' with ⟨rfl, g1⟩ | ⟨j, hj, rfl, g1, g2⟩
  · rfl
  · exact absurd g1 (h1 j hj)
  · exact absurd h1 (g1 i hi)
  · rcases Nat.lt_trichotomy i j with q | q | q
    · exact absurd h1 (g2 i q)
    · rw [q]
    · exact absurd g1 (h2 j q)

set_option maxHeartbeats 1000000 in
theorem l13Find_any (s : St) (id : Int) (na : Option Addr) (nc : Nat) (ea : Option Addr) (ec : Nat) (w : World) (h : StS w s na nc ea ec) :
    Calls Try.prog 50 #[stV s na nc ea ec, .int .i64 id] w fun e w' => ∃ r, e = .returned (.int .i64 r) ∧ IsFd s.ents id r ∧ Below w.heap.size w w' := by
  have hmx := h.en.mx
  have hle := h.en.le
  unfold maxLen at hmx
  unfold stV
  obtain ⟨W0, hW0⟩ : ∃ W0, W0 = w.alloc (.cells #[.int .i64 s.now, .slice na s.nodes.length nc, .slice ea s.ents.length ec, .int .i64 s.next, .int .i64 s.eps] 31) := ⟨_, rfl⟩
  have B0 : Below w.heap.size w W0 := by rw [hW0]; exact box_below0
  have x0 : W0.heap[w.heap.size]? = some (.cells #[.int .i64 s.now, .slice na s.nodes.length nc, .slice ea s.ents.length ec, .int .i64 s.next, .int .i64 s.eps] 31 (0, 0)) := by rw [hW0]; exact heap_alloc_new _ _
  obtain ⟨c0, c1, c2, c3, c4, _, _, _, _, _⟩ := box5 x0
  have hE := h.en.below B0
  go_enter Try.func50, Try.ntmps50
  go_upto_region 1 with fail
  rw [← hW0]
  clear hW0 x0
  go_wp2
  go_loopw [5] (fun i wr => ∃ k : Nat, k ≤ s.ents.length ∧ i = .int .i64 k ∧ Hid (∀ j, j < k → (eng s.ents j).job.id ≠ id) ∧ wr = W0) (fun i _ => s.ents.length - (intOf i).toNat)
  case atStart => exact ⟨0, by omega, rfl, fun j hj => by omega, rfl⟩
  case round =>
    obtain ⟨k, hk, rfl, hno, rfl⟩ := hrel
    by_cases hlt : k < s.ents.length
    · obtain ⟨b, off, rfl, hbw, hat⟩ := hE.at_ (by omega)
      obtain ⟨v, m, E⟩ := hat.row (i := k) hlt
      obtain ⟨d0, d1, d2, d3, d4, d5, d6, d7, d8, d9, d10, hps⟩ := E
      have hlt' : (k : Int) < (s.ents.length : Int) := by omega
      clear hat hps
      by_cases hi : (eng s.ents k).job.id = id
      · have hi' : ((eng s.ents k).job.id == id) = true := by simpa using hi
        have HI : Hid ((eng s.ents k).job.id = id) := hi
        clear hi
        go_wp2
        go_ret
        exact ⟨k, rfl, Or.inr ⟨k, hlt, rfl, HI.out, hno.out⟩, B0⟩
      · have hi' : ((eng s.ents k).job.id == id) = false := by simpa using hi
        have N : Hid (∀ j, j < k + 1 → (eng s.ents j).job.id ≠ id) := fun j hj => by
          by_cases e : j = k
          · subst e; exact hi
          · exact hno.out j (by omega)
        clear hi
        go_wp2
        first
          | exact ⟨⟨k + 1, by omega, by go_num, N⟩, by simp [intOf]; omega⟩
          | exact ⟨⟨k + 1, by omega, by go_num, N, rfl⟩, by simp [intOf]; omega⟩
          | exact ⟨⟨k + 1, by omega, by go_num, N, trivial⟩, by simp [intOf]; omega⟩
    · obtain rfl : k = s.ents.length := by omega
      have hnn : ¬ (s.ents.length : Int) < (s.ents.length : Int) := by omega
      go_wp2
      go_ret
      exact ⟨-1, rfl, Or.inl ⟨rfl, hno.out⟩, B0⟩

end Go.Proofs.Ythgdjecbaomffaa
