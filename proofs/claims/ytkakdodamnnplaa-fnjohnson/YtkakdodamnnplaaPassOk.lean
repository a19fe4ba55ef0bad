/- PassesOk of the model; passOk of the program. -/
import Derived.Test.YtkakdodamnnplaaPassQ
import Derived.Test.YtkakdodamnnplaaPassIn
import Derived.Test.YtkakdodamnnplaaCmp
namespace Go.Proofs.Ytkakdodamnnplaa
open Go.RowKit Go.Sort

theorem PassS.pre {w : World} {a : Option Addr} {n cap : Nat} {ls : List Pz} (h : PassS w a n cap ls) {m : Nat} (hm : m ≤ n) : PassS w a m cap (ls.take m) := by
  have hl := h.len
  have e : ∀ i, i < m → pzg (ls.take m) i = pzg ls i := fun i hi => by simp [pzg, hi]
  refine ⟨by simp; omega, Nat.le_trans hm h.le, h.mx, h.nil, fun i hi => by rw [e i hi]; exact h.wf i (by omega), fun h0 => ?_⟩
  obtain ⟨b, off, ha, hb, hat⟩ := h.at_ (by omega)
  refine ⟨b, off, ha, hb, fun i hi c hc => ?_⟩
  have hi' : i < m := by have : (ls.take m).length = m := by simp; omega
                         omega
  rw [e i hi']
  exact hat i (by omega) c hc

theorem ps_no_ok {ls : List Pz} {k : Nat} (hk : k < ls.length) (h : pok (pzg ls k) = false) : psB ls = false := psB_no fun p => by
  have := (p.ok k hk).1; rw [h] at this; cases this
theorem ps_no_id {ls : List Pz} {k m : Nat} (hk : k < ls.length) (hm : m < k) (h : (pzg ls m).id = (pzg ls k).id) : psB ls = false := psB_no fun p => (p.ok k hk).2 m hm h

set_option maxHeartbeats 1000000 in
theorem ok_pass (x : Pz) (w : World) :
    Calls Try.prog 36 #[.agg #[.int .i64 x.id, .int .i64 x.a, .int .i64 x.b]] w fun e w' => e = .returned (.bool (pok x)) ∧ ∃ q os', w' = grow (w.drewN q) os' := by
  have hw : ∀ o, ∃ q os', w.alloc o = grow (w.drewN q) os' := fun o => by rw [alloc_eq_grow]; exact ⟨0, _, rfl⟩
  rcases h0 : inB x.id 1 1000000 with _ | _
  · have E : pok x = false := by unfold pok; simp [h0]
    rw [E]; clear E
    go_enter Try.func36, Try.ntmps36
    go_wp2_with (go_at_call 50; refine (within_any _ _ _ _).mono ?_; rintro e w' ⟨rfl, rfl⟩)
    go_ret
    exact ⟨rfl, hw _⟩
  rcases h1 : inB x.a 0 10000 with _ | _
  · have E : pok x = false := by unfold pok; simp [h1]
    rw [E]; clear E
    go_enter Try.func36, Try.ntmps36
    go_wp2_with (go_at_call 50; refine (within_any _ _ _ _).mono ?_; rintro e w' ⟨rfl, rfl⟩)
    go_ret
    exact ⟨rfl, hw _⟩
  have E : pok x = inB x.b 0 10000 := by unfold pok; simp [h0, h1]
  rw [E]; clear E
  go_enter Try.func36, Try.ntmps36
  go_wp2_with (go_at_call 50; refine (within_any _ _ _ _).mono ?_; rintro e w' ⟨rfl, rfl⟩)
  go_ret
  exact ⟨rfl, hw _⟩

set_option maxHeartbeats 1000000 in
theorem specPassesOk_any (a : Option Addr) (n cap : Nat) (ls : List Pz) (w : World) (h : PassS w a n cap ls) :
    Calls Try.prog 19 #[.slice a n cap] w fun e w' => e = .returned (.bool (psB ls)) ∧ Below w.heap.size w w' := by
  have hm := h.mx
  have hle := h.le
  have hlen := h.len
  unfold maxLen at hm
  by_cases c1 : 40 < n
  · rw [psB_no fun p => by have := p.n; omega]
    go_enter Try.func19, Try.ntmps19
    go_wp2
    go_ret
    exact ⟨rfl, Below.refl _ _⟩
  · go_enter Try.func19, Try.ntmps19
    go_wp2
    go_loopw [3] (fun i wr => ∃ k : Nat, k ≤ n ∧ i = .int .i64 k ∧ pokTo ls k ∧ Below w.heap.size w wr) (fun i _ => n - (intOf i).toNat)
    case atStart => exact ⟨0, by omega, rfl, fun i hi => by omega, Below.refl _ _⟩
    case round =>
      obtain ⟨k, hk, rfl, hok, hw⟩ := hrel
      rename World => wr
      by_cases hlt : k < n
      · obtain ⟨b, off, rfl, hbw, hat⟩ := h.at_ (by omega)
        obtain ⟨hc0, hc1, hc2⟩ := (hat.below hw hbw).row (i := k) (by omega)
        have hlt' : (k : Int) < (n : Int) := by omega
        have zw := hw.size
        have hwa : ∀ o, Below w.heap.size w (wr.alloc o) := fun o => hw.alloc hw.size o
        rcases h0 : inB (pzg ls k).id 1 1000000 with _ | _
        · have E := ps_no_ok (ls := ls) (k := k) (by omega) (by unfold pok; simp [h0])
          go_wp2_with (go_at_call 38; refine (l1In_any _ _ _ _).mono ?_; (try rw [h0]); rintro e w1 ⟨rfl, rfl⟩)
          go_ret
          exact ⟨by rw [E]; rfl, hwa _⟩
        rcases h1 : inB (pzg ls k).a 0 10000 with _ | _
        · have E := ps_no_ok (ls := ls) (k := k) (by omega) (by unfold pok; simp [h1])
          go_wp2_with (go_at_call 38; refine (l1In_any _ _ _ _).mono ?_; (first | rw [h0] | rw [h1]); rintro e w1 ⟨rfl, rfl⟩)
          go_ret
          exact ⟨by rw [E]; rfl, hwa _⟩
        rcases h2 : inB (pzg ls k).b 0 10000 with _ | _
        · have E := ps_no_ok (ls := ls) (k := k) (by omega) (by unfold pok; simp [h2])
          go_wp2_with (go_at_call 38; refine (l1In_any _ _ _ _).mono ?_; (first | rw [h0] | rw [h1] | rw [h2]); rintro e w1 ⟨rfl, rfl⟩)
          go_ret
          exact ⟨by rw [E]; rfl, hwa _⟩
        have HJ : Hid (pok (pzg ls k) = true) := by unfold Hid pok; simp [h0, h1, h2]
        go_wp2_with (go_at_call 38; refine (l1In_any _ _ _ _).mono ?_; (first | rw [h0] | rw [h1] | rw [h2]); rintro e w1 ⟨rfl, rfl⟩)
        clear hc1 hc2
        have hcp : (wr.alloc (.cells #[.int .i64 (pzg ls k).id, .int .i64 (pzg ls k).a, .int .i64 (pzg ls k).b] 31)).cell? ⟨wr.heap.size, 0, none⟩ = some (.int .i64 (pzg ls k).id) := by simp
        obtain ⟨W2, hW2⟩ : ∃ W2, W2 = wr.alloc (.cells #[.int .i64 (pzg ls k).id, .int .i64 (pzg ls k).a, .int .i64 (pzg ls k).b] 31) := ⟨_, rfl⟩
        have hw2 : Below w.heap.size w W2 := by rw [hW2]; exact hwa _
        have z2 : wr.heap.size < W2.heap.size := by rw [hW2]; simp
        rw [← hW2] at hcp ⊢
        clear hW2 hwa hw
        go_loopw [5] (fun i wi => ∃ m : Nat, m ≤ k ∧ i = .int .i64 m ∧ (∀ x, x < m → (pzg ls x).id ≠ (pzg ls k).id) ∧ Below W2.heap.size W2 wi) (fun i _ => k - (intOf i).toNat)
        case atStart => exact ⟨0, by omega, rfl, fun i hi => by omega, Below.refl _ _⟩
        case round =>
          obtain ⟨m, hmk, rfl, hno, hwi⟩ := hrel
          rename World => wi
          have hci : wi.cell? ⟨wr.heap.size, 0, none⟩ = some (.int .i64 (pzg ls k).id) := (hwi.cell (p := ⟨wr.heap.size, 0, none⟩) z2).trans hcp
          by_cases hmt : m < k
          · have hm0 := (hat.below (hw2.then hwi hw2.size) hbw) m (by omega) 0 (by omega)
            simp only [pzc, Nat.add_zero] at hm0
            have hmt' : (m : Int) < (k : Int) := by omega
            have hmn' : (m : Int) < (n : Int) := by omega
            by_cases hc : (pzg ls m).id = (pzg ls k).id
            · have E := ps_no_id (by omega) hmt hc
              have hc' : ((pzg ls m).id == (pzg ls k).id) = true := by simpa using hc
              clear hc
              go_wp2
              go_quiet (fail)
              go_wp2
              go_ret
              exact ⟨by rw [E]; rfl, (hw2.then hwi hw2.size).drewN _⟩
            · have hc' : ((pzg ls m).id == (pzg ls k).id) = false := by simpa using hc
              go_wp2
              go_quiet (fail)
              go_wp2
              go_roundw
              case rel => exact ⟨m + 1, by omega, by go_num, fun x hx => by (by_cases e : x = m; (subst e; exact hc); exact hno x (by omega)), hwi.drewN _⟩
              case measure => simp [intOf]; omega
          · have e : m = k := by omega
            subst e
            go_wp2
            go_roundw
            case rel => exact ⟨m + 1, by omega, by go_num, pokTo_succ hok HJ.out hno, hw2.then hwi hw2.size⟩
            case measure => simp [intOf]; omega
      · have e : k = n := by omega
        subst e
        go_wp2
        go_ret
        exact ⟨by rw [psB_mk ⟨by omega, by rw [hlen]; exact hok⟩]; rfl, hw⟩

end Go.Proofs.Ytkakdodamnnplaa
