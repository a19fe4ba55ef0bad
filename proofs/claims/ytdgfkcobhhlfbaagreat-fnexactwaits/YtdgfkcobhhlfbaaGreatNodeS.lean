/- Chapter 11's model: NodesOk, UsedOk, Ready. -/
import Derived.Test.YtdgfkcobhhlfbaaGreatNodeM2
import Derived.Test.YtdgfkcobhhlfbaaGreatNodeRow
import Derived.Test.YtdgfkcobhhlfbaaGreatPartRow
import Derived.Test.YtdgfkcobhhlfbaaGreatInts
import Derived.Test.YtdgfkcobhhlfbaaGreatLInt
import Derived.Deep.Cut
import Derived.Deep.CutRange
namespace Go.Proofs.YtdgfkcobhhlfbaaGreat
open Go.RowKit Go.Sort

set_option maxHeartbeats 2000000 in
theorem specNodesOk_any (a : Option Addr) (n cap : Nat) (l : List Nd) (w : World) (h : NodeS w a n cap l) :
    Calls Tryz.prog 30 #[.slice a n cap] w fun e w' => e = .returned (.bool (nsB l)) ∧ w' = w := by
  have hlen := h.len
  have hmx := h.mx
  have hle := h.le
  unfold maxLen at hmx
  obtain ⟨r, hr⟩ : ∃ r, r = nsB l := ⟨_, rfl⟩
  have HR : Hid (r = nsB l) := hr
  rw [← hr]
  clear hr
  by_cases c1 : n < 1
  · have E : Hid (r = false) := HR.out.trans (nsB_no fun q => by have := q.n1; omega)
    have hd : (n : Int) < 1 := by omega
    go_enter Tryz.func30, Tryz.ntmps30
    go_wp2
    go_ret
    exact ⟨by rw [E.out]; rfl, rfl⟩
  · have hd1 : ¬ (n : Int) < 1 := by omega
    by_cases c2 : 8 < n
    · have E : Hid (r = false) := HR.out.trans (nsB_no fun q => by have := q.n2; omega)
      have hd2 : (8 : Int) < (n : Int) := by omega
      go_enter Tryz.func30, Tryz.ntmps30
      go_wp2
      go_ret
      exact ⟨by rw [E.out]; rfl, rfl⟩
    · have hd2 : ¬ (8 : Int) < (n : Int) := by omega
      go_enter Tryz.func30, Tryz.ntmps30
      go_wp2
      go_loopw [3] (fun i wr => ∃ k : Nat, k ≤ n ∧ i = .int .i64 k ∧ Hid (∀ j, j < k → nOk (ndg l j) = true) ∧ wr = w) (fun i _ => n - (intOf i).toNat)
      case atStart => exact ⟨0, by omega, rfl, fun j hj => by omega, rfl⟩
      case round =>
        obtain ⟨k, hk, rfl, hok, rfl⟩ := hrel
        by_cases hlt : k < n
        · obtain ⟨b, off, rfl, hbw, hat⟩ := h.at_ (by omega)
          obtain ⟨x0, x1⟩ := hat.row (i := k) (by omega)
          have hlt' : (k : Int) < (n : Int) := by omega
          clear hat
          rcases q1 : inB (ndg l k).cores 1 100 with _ | _
          · have E : Hid (r = false) := HR.out.trans (nsB_no fun q => by have := q.ok k (by omega); unfold nOk at this; rw [q1] at this; cases this)
            go_wp2_with (go_at_call 29; refine (l1In_any _ _ _ _).mono ?_; rw [q1]; rintro e w' ⟨rfl, hq⟩; have hq' := hq.symm; clear hq; subst hq')
            go_ret
            exact ⟨by rw [E.out]; rfl, rfl⟩
          · rcases q2 : inB (ndg l k).state 1 3 with _ | _
            · have E : Hid (r = false) := HR.out.trans (nsB_no fun q => by have := q.ok k (by omega); unfold nOk at this; rw [q1, q2] at this; cases this)
              go_wp2_with (go_at_call 29; refine (l1In_any _ _ _ _).mono ?_; (first | rw [q1] | rw [q2]); rintro e w' ⟨rfl, hq⟩; have hq' := hq.symm; clear hq; subst hq')
              go_ret
              exact ⟨by rw [E.out]; rfl, rfl⟩
            · have N : Hid (∀ j, j < k + 1 → nOk (ndg l j) = true) := fun j hj => by
                by_cases e : j = k
                · subst e; unfold nOk; rw [q1, q2]; rfl
                · exact hok.out j (by omega)
              go_wp2_with (go_at_call 29; refine (l1In_any _ _ _ _).mono ?_; (first | rw [q1] | rw [q2]); rintro e w' ⟨rfl, hq⟩; have hq' := hq.symm; clear hq; subst hq')
              go_roundw
              case rel => first | exact ⟨k + 1, by omega, by go_num, N, rfl⟩ | exact ⟨k + 1, by omega, by go_num, N, trivial⟩ | exact ⟨k + 1, by omega, by go_num, N⟩
              case measure => simp [intOf]; omega
        · obtain rfl : k = n := by omega
          have E : Hid (r = true) := HR.out.trans (nsB_mk ⟨by omega, by omega, fun i hi => hok.out i (by omega)⟩)
          have hnn : ¬ (k : Int) < (k : Int) := by omega
          go_wp2
          go_ret
          exact ⟨by rw [E.out]; rfl, rfl⟩

set_option maxHeartbeats 2000000 in
theorem specUsedOk_any (a a2 : Option Addr) (n cap n2 cap2 : Nat) (l : List Nd) (u : List Int) (w : World) (h : NodeS w a n cap l) (h2 : IntS w a2 n2 cap2 u) :
    Calls Tryz.prog 34 #[.slice a n cap, .slice a2 n2 cap2] w fun e w' => e = .returned (.bool (usB l u)) ∧ Below w.heap.size w w' := by
  have hlen := h.len
  have hlen2 := h2.len
  have hmx := h.mx
  have hle := h.le
  unfold maxLen at hmx
  obtain ⟨r, hr⟩ : ∃ r, r = usB l u := ⟨_, rfl⟩
  have HR : Hid (r = usB l u) := hr
  rw [← hr]
  clear hr
  have hmo : Tryz.prog.follows .mixedOrders = true := by kernel_rfl
  rcases hq : nsB l with _ | _
  · have E : Hid (r = false) := HR.out.trans (usB_ns hq)
    go_enter Tryz.func34, Tryz.ntmps34
    go_wp2_with (go_at_call 30; refine (specNodesOk_any a n cap l _ h).mono ?_; rw [hq]; rintro e w' ⟨rfl, hq2⟩; have hq' := hq2.symm; clear hq2; subst hq')
    go_ret
    exact ⟨by rw [E.out]; rfl, Below.refl _ _⟩
  · have ns := nsB_t hq
    have hn8 := ns.n2
    by_cases hl : n2 = n
    · subst hl
      have hnn : ((n2 : Int) != (n2 : Int)) = false := by simp
      go_enter Tryz.func34, Tryz.ntmps34
      go_wp2_with (go_at_call 30; refine (specNodesOk_any a n2 cap l _ h).mono ?_; rw [hq]; rintro e w' ⟨rfl, hq2⟩; have hq' := hq2.symm; clear hq2; subst hq')
      clear hq
      go_loopw [5] (fun i wr => ∃ k : Nat, k ≤ n2 ∧ i = .int .i64 k ∧ Hid (∀ j, j < k → 0 ≤ zg u j ∧ zg u j ≤ (ndg l j).cores) ∧ Below w.heap.size w wr) (fun i _ => n2 - (intOf i).toNat)
      case atStart => exact ⟨0, by omega, rfl, fun j hj => by omega, Below.refl _ _⟩
      case round =>
        obtain ⟨k, hk, rfl, hok, hw⟩ := hrel
        rename World => wr
        by_cases hlt : k < n2
        · obtain ⟨b, off, rfl, hbw, hat⟩ := (h.below hw).at_ (by omega)
          obtain ⟨b2, off2, rfl, hbw2, hat2⟩ := (h2.below hw).at_ (by omega)
          obtain ⟨x0, x1⟩ := hat.row (i := k) (by omega)
          have z0 := hat2 k hlt
          have hlt' : (k : Int) < (n2 : Int) := by omega
          clear hat hat2
          have CI : ∀ W, Calls Tryz.prog 29 #[.int .i64 (zg u k), .int .i64 0, .int .i64 (ndg l k).cores] W fun e w' => e = .returned (.bool (inB (zg u k) 0 (ndg l k).cores)) ∧ w' = W := fun W => l1In_any _ _ _ _
          rcases q1 : inB (zg u k) 0 (ndg l k).cores with _ | _
          · have E : Hid (r = false) := HR.out.trans (usB_no fun q => by have := q.us k (by omega); have := nin_f q1; omega)
            rw [q1] at CI
            go_wp2
            go_quiet ((go_at_call 29; exact Calls.quiet_of_same (CI _)))
            go_wp2
            go_ret
            exact ⟨by rw [E.out]; rfl, hw.drewN _⟩
          · have N : Hid (∀ j, j < k + 1 → 0 ≤ zg u j ∧ zg u j ≤ (ndg l j).cores) := fun j hj => by
              by_cases e : j = k
              · subst e; exact nin_t q1
              · exact hok.out j (by omega)
            rw [q1] at CI
            go_wp2
            go_quiet ((go_at_call 29; exact Calls.quiet_of_same (CI _)))
            go_wp2
            go_roundw
            case rel => exact ⟨k + 1, by omega, by go_num, N, hw.drewN _⟩
            case measure => simp [intOf]; omega
        · obtain rfl : k = n2 := by omega
          have E : Hid (r = true) := HR.out.trans (usB_mk ⟨ns, by omega, fun i hi => hok.out i (by omega)⟩)
          have hnn : ¬ (k : Int) < (k : Int) := by omega
          go_wp2
          go_ret
          exact ⟨by rw [E.out]; rfl, hw⟩
    · have E : Hid (r = false) := HR.out.trans (usB_len (by omega))
      have hnn : ((n2 : Int) != (n : Int)) = true := by simp; omega
      go_enter Tryz.func34, Tryz.ntmps34
      go_wp2_with (go_at_call 30; refine (specNodesOk_any a n cap l _ h).mono ?_; rw [hq]; rintro e w' ⟨rfl, hq2⟩; have hq' := hq2.symm; clear hq2; subst hq')
      go_ret
      exact ⟨by rw [E.out]; rfl, Below.refl _ _⟩

theorem specNodesOk_b (a : Option Addr) (n cap : Nat) (l : List Nd) (w : World) (h : NodeS w a n cap l) :
    Calls Tryz.prog 30 #[.slice a n cap] w fun e w' => e = .returned (.bool (nsB l)) ∧ Below w.heap.size w w' := by
  refine (specNodesOk_any a n cap l w h).mono ?_
  rintro e w' ⟨h1, rfl⟩
  exact ⟨h1, Below.refl _ _⟩

end Go.Proofs.YtdgfkcobhhlfbaaGreat
