/- JobsOk of the program. -/
import Derived.Test.YtmgeknddnamjlaaJobsOkS
namespace Go.Proofs.Ytmgeknddnamjlaa
open Go.RowKit Go.Sort

theorem box_below0 {w : World} {o : Obj} : Below w.heap.size w (w.alloc o) := (Below.refl _ _).alloc (Nat.le_refl _) _

noncomputable def numI (ls : List Jb) (n : Nat) (id : Int) : Int := Classical.epsilon (IsNum ls n id)
theorem numI_eq {ls : List Jb} {n : Nat} {id r : Int} (h : IsNum ls n id r) : r = numI ls n id := h.uniq (Classical.epsilon_spec ⟨r, h⟩)
theorem isNum_some (ls : List Jb) (id : Int) : ∀ n, ∃ r, IsNum ls n id r
  | 0 => ⟨-1, Or.inl ⟨rfl, fun i hi => by omega⟩⟩
  | n + 1 => by
    obtain ⟨r, h⟩ := isNum_some ls id n
    rcases h with ⟨rfl, h1⟩ | ⟨k, rfl, h1, h2, h3⟩
    · by_cases e : (jg ls n).id = id
      · exact ⟨n, Or.inr ⟨n, rfl, by omega, e, h1⟩⟩
      · exact ⟨-1, Or.inl ⟨rfl, fun i hi => by (by_cases e' : i = n; (subst e'; exact e); exact h1 i (by omega))⟩⟩
    · exact ⟨k, Or.inr ⟨k, rfl, by omega, h2, h3⟩⟩
theorem numI_is (ls : List Jb) (n : Nat) (id : Int) : IsNum ls n id (numI ls n id) := Classical.epsilon_spec (isNum_some ls id n)
theorem IsNum.pre {ls : List Jb} {n m : Nat} {id r : Int} (h : IsNum (ls.take m) n id r) (hn : n ≤ m) : IsNum ls n id r := by
  have e : ∀ i, i < n → jg (ls.take m) i = jg ls i := fun i hi => by simp [jg, show i < m by omega]
  rcases h with ⟨rfl, h1⟩ | ⟨k, rfl, h1, h2, h3⟩
  · exact Or.inl ⟨rfl, fun i hi => by rw [← e i hi]; exact h1 i hi⟩
  · exact Or.inr ⟨k, rfl, h1, by rw [← e k h1]; exact h2, fun i hi => by rw [← e i (by omega)]; exact h3 i hi⟩

set_option maxHeartbeats 1000000 in
theorem implJobsOk_any (a : Option Addr) (n cap : Nat) (ls : List Jb) (w : World) (h : JobS w a n cap ls) :
    Calls Try.prog 60 #[.slice a n cap] w fun e w' => e = .returned (.bool (jsB ls)) ∧ Below w.heap.size w w' := by
  have hm := h.mx
  have hle := h.le
  have hlen := h.len
  unfold maxLen at hm
  have hmo : Try.prog.follows .mixedOrders = true := by kernel_rfl
  by_cases c1 : 40 < n
  · rw [jsB_no fun p => by have := p.n; omega]
    go_enter Try.func60, Try.ntmps60
    go_wp2
    go_ret
    exact ⟨rfl, Below.refl _ _⟩
  · go_enter Try.func60, Try.ntmps60
    go_wp2
    go_loopw [10] (fun i wr => ∃ k : Nat, k ≤ n ∧ i = .int .i64 k ∧ jokTo ls k ∧ Below w.heap.size w wr) (fun i _ => n - (intOf i).toNat)
    case atStart => exact ⟨0, by omega, rfl, fun i hi => by omega, Below.refl _ _⟩
    case round =>
      obtain ⟨k, hk, rfl, hok, hw⟩ := hrel
      by_cases hlt : k < n
      · obtain ⟨b, off, rfl, hbw, hat⟩ := h.at_ (by omega)
        obtain ⟨hc0, hc1, hc2, hc3, hc4, hc5, hc6⟩ := (hat.below hw hbw).job (i := k) (by omega)
        have hlt' : (k : Int) < (n : Int) := by omega
        have HS : ∀ W, Below wr.heap.size wr W → JobS W (some ⟨b, off, none⟩) k cap (ls.take k) := fun W hW => (h.below (hw.then hW hw.size)).pre (by omega)
        have P0 : ∀ nn os, (grow ((wr.alloc (.cells #[.int .i64 (jg ls k).id, .int .i64 (jg ls k).cores, .int .i64 (jg ls k).long, .int .i64 (jg ls k).due, .int .i64 (jg ls k).wt, .int .i64 (jg ls k).rank, .int .i64 (jg ls k).at_] 37)).drewN nn) os).cell? ⟨wr.heap.size, 0, none⟩ = some (.int .i64 (jg ls k).id) := fun nn os => cell_grown (by simp) (by simp) nn os
        have P1 : ∀ nn os, (grow ((wr.alloc (.cells #[.int .i64 (jg ls k).id, .int .i64 (jg ls k).cores, .int .i64 (jg ls k).long, .int .i64 (jg ls k).due, .int .i64 (jg ls k).wt, .int .i64 (jg ls k).rank, .int .i64 (jg ls k).at_] 37)).drewN nn) os).cell? ⟨wr.heap.size, 1, none⟩ = some (.int .i64 (jg ls k).cores) := fun nn os => cell_grown (by simp) (by simp) nn os
        have P2 : ∀ nn os, (grow ((wr.alloc (.cells #[.int .i64 (jg ls k).id, .int .i64 (jg ls k).cores, .int .i64 (jg ls k).long, .int .i64 (jg ls k).due, .int .i64 (jg ls k).wt, .int .i64 (jg ls k).rank, .int .i64 (jg ls k).at_] 37)).drewN nn) os).cell? ⟨wr.heap.size, 2, none⟩ = some (.int .i64 (jg ls k).long) := fun nn os => cell_grown (by simp) (by simp) nn os
        have P3 : ∀ nn os, (grow ((wr.alloc (.cells #[.int .i64 (jg ls k).id, .int .i64 (jg ls k).cores, .int .i64 (jg ls k).long, .int .i64 (jg ls k).due, .int .i64 (jg ls k).wt, .int .i64 (jg ls k).rank, .int .i64 (jg ls k).at_] 37)).drewN nn) os).cell? ⟨wr.heap.size, 3, none⟩ = some (.int .i64 (jg ls k).due) := fun nn os => cell_grown (by simp) (by simp) nn os
        have P4 : ∀ nn os, (grow ((wr.alloc (.cells #[.int .i64 (jg ls k).id, .int .i64 (jg ls k).cores, .int .i64 (jg ls k).long, .int .i64 (jg ls k).due, .int .i64 (jg ls k).wt, .int .i64 (jg ls k).rank, .int .i64 (jg ls k).at_] 37)).drewN nn) os).cell? ⟨wr.heap.size, 4, none⟩ = some (.int .i64 (jg ls k).wt) := fun nn os => cell_grown (by simp) (by simp) nn os
        have P5 : ∀ nn os, (grow ((wr.alloc (.cells #[.int .i64 (jg ls k).id, .int .i64 (jg ls k).cores, .int .i64 (jg ls k).long, .int .i64 (jg ls k).due, .int .i64 (jg ls k).wt, .int .i64 (jg ls k).rank, .int .i64 (jg ls k).at_] 37)).drewN nn) os).cell? ⟨wr.heap.size, 5, none⟩ = some (.int .i64 (jg ls k).rank) := fun nn os => cell_grown (by simp) (by simp) nn os
        have P6 : ∀ nn os, (grow ((wr.alloc (.cells #[.int .i64 (jg ls k).id, .int .i64 (jg ls k).cores, .int .i64 (jg ls k).long, .int .i64 (jg ls k).due, .int .i64 (jg ls k).wt, .int .i64 (jg ls k).rank, .int .i64 (jg ls k).at_] 37)).drewN nn) os).cell? ⟨wr.heap.size, 6, none⟩ = some (.int .i64 (jg ls k).at_) := fun nn os => cell_grown (by simp) (by simp) nn os
        rcases hj : jok (jg ls k) with _ | _
        · have E := js_no_ok (by omega) hj
          unfold jok at hj
          have CJ : ∀ W, Calls Try.prog 69 #[.agg #[.int .i64 (jg ls k).id, .int .i64 (jg ls k).cores, .int .i64 (jg ls k).long, .int .i64 (jg ls k).due, .int .i64 (jg ls k).wt, .int .i64 (jg ls k).rank, .int .i64 (jg ls k).at_]] W fun e w' => e = .returned (.bool false) ∧ ∃ q os', w' = grow (W.drewN q) os' := fun W => by have := implJobOk_grow (jg ls k).id (jg ls k).cores (jg ls k).long (jg ls k).due (jg ls k).wt (jg ls k).rank (jg ls k).at_ W; rwa [hj] at this
          go_wp2
          go_quiet_grown ((go_at_call 69; exact Calls.grown_of (CJ _)))
          go_wp2
          go_ret
          exact ⟨by rw [E]; rfl, (hw.alloc hw.size _).then (below_grow _ _ _) (by simp; have := hw.size; omega)⟩
        · have HJ : Hid (jok (jg ls k) = true) := hj
          unfold jok at hj
          have CJ : ∀ W, Calls Try.prog 69 #[.agg #[.int .i64 (jg ls k).id, .int .i64 (jg ls k).cores, .int .i64 (jg ls k).long, .int .i64 (jg ls k).due, .int .i64 (jg ls k).wt, .int .i64 (jg ls k).rank, .int .i64 (jg ls k).at_]] W fun e w' => e = .returned (.bool true) ∧ ∃ q os', w' = grow (W.drewN q) os' := fun W => by have := implJobOk_grow (jg ls k).id (jg ls k).cores (jg ls k).long (jg ls k).due (jg ls k).wt (jg ls k).rank (jg ls k).at_ W; rwa [hj] at this
          have hkc : (k : Int) ≤ (cap : Int) := by omega
          have hk0 : (0 : Int) ≤ (k : Int) := by omega
          have hnum := numI_is ls k (jg ls k).id
          have CN : ∀ W, Below wr.heap.size wr W → Calls Try.prog 70 #[.slice (some ⟨b, off, none⟩) k cap, .int .i64 (jg ls k).id] W fun e w' => e = .returned (.int .i64 (numI ls k (jg ls k).id)) ∧ ∃ q os', w' = grow (W.drewN q) os' := fun W hW => (numberOf_any _ _ _ _ _ W (HS W hW)).mono fun e w' ⟨r, he, hr, hw'⟩ => ⟨by rw [he, numI_eq (hr.pre (Nat.le_refl _))], hw'⟩
          clear hj HS
          have hwb : ∀ o nn os, Below wr.heap.size wr (grow ((wr.alloc o).drewN nn) os) := fun o nn os => box_below0.then (below_grow _ _ _) (by simp)
          rcases hnum with ⟨hr, hno⟩ | ⟨m, hr, hmk, hid, hno⟩
          · rw [hr] at CN
            clear hr
            go_wp2
            go_quiet_grown (first | (go_at_call 69; exact Calls.grown_of (CJ _)) | (go_at_call 70; exact Calls.grown_of (CN _ (hwb _ _ _))))
            go_wp2
            go_roundw
            case rel => exact ⟨k + 1, by omega, by go_num, jokTo_succ hok HJ.out hno, (hw.alloc hw.size _).then (below_grow _ _ _) (by simp; have := hw.size; omega)⟩
            case measure => simp [intOf]; omega
          · have E := js_no_id (by omega) hmk hid
            rw [hr] at CN
            clear hr
            go_wp2
            go_quiet_grown (first | (go_at_call 69; exact Calls.grown_of (CJ _)) | (go_at_call 70; exact Calls.grown_of (CN _ (hwb _ _ _))))
            go_wp2
            go_ret
            exact ⟨by rw [E]; rfl, (hw.alloc hw.size _).then (below_grow _ _ _) (by simp; have := hw.size; omega)⟩
      · have e : k = n := by omega
        subst e
        go_wp2
        go_ret
        exact ⟨by rw [jsB_mk ⟨by omega, by rw [hlen]; exact hok⟩]; rfl, hw⟩

end Go.Proofs.Ytmgeknddnamjlaa
