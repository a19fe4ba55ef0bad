/- The program's chapter 11, second part: UsedOk, Ready. -/
import Derived.Test.YtkkbfblgnejonaaNodeI1
import Derived.Test.YtkkbfblgnejonaaCmp
import Derived.Shelf.SlSortCmp.QuietGrown
namespace Go.Proofs.Ytkkbfblgnejonaa
open Go.RowKit Go.Sort

/-- what is lent by one node -/
def spF (x : Nd) (u : Int) : Int := if x.state = 1 then x.cores - u else 0
theorem spare_any (x : Nd) (u : Int) (w : World) (hw : -9223372036854775808 ≤ x.cores - u ∧ x.cores - u ≤ 9223372036854775807) :
    Calls Try.prog 45 #[.agg #[.int .i64 x.cores, .int .i64 x.state], .int .i64 u] w fun e w' => e = .returned (.int .i64 (spF x u)) ∧ w' = w.alloc (.cells #[.int .i64 x.cores, .int .i64 x.state] 32) := by
  by_cases s1 : x.state = 1
  · have E : spF x u = x.cores - u := if_pos s1
    rw [E]; clear E
    have s2 : decide (x.state = 1) = true := decide_eq_true s1
    have ws : IntKind.i64.wrap (x.cores - u) = x.cores - u := by rw [IntKind.wrap_i64]; omega
    clear s1
    go_enter Try.func45, Try.ntmps45
    go_wp2_with (go_at_call 65; refine (standing_any _ _).mono ?_; rw [s2]; rintro e w' ⟨rfl, rfl⟩)
    go_ret
    exact ⟨rfl, rfl⟩
  · have E : spF x u = 0 := if_neg s1
    rw [E]; clear E
    have s2 : decide (x.state = 1) = false := decide_eq_false s1
    clear s1
    go_enter Try.func45, Try.ntmps45
    go_wp2_with (go_at_call 65; refine (standing_any _ _).mono ?_; rw [s2]; rintro e w' ⟨rfl, rfl⟩)
    go_ret
    exact ⟨rfl, rfl⟩

set_option maxHeartbeats 2000000 in
theorem implUsedOk_any (a a2 : Option Addr) (n cap n2 cap2 : Nat) (l : List Nd) (u : List Int) (w : World) (h : NodeS w a n cap l) (h2 : IntS w a2 n2 cap2 u) :
    Calls Try.prog 24 #[.slice a n cap, .slice a2 n2 cap2] w fun e w' => e = .returned (.bool (usB l u)) ∧ Below w.heap.size w w' := by
  have hlen := h.len
  have hlen2 := h2.len
  have hmx := h.mx
  have hle := h.le
  unfold maxLen at hmx
  obtain ⟨r, hr⟩ : ∃ r, r = usB l u := ⟨_, rfl⟩
  have HR : Hid (r = usB l u) := hr
  rw [← hr]
  clear hr
  have hmo : Try.prog.follows .mixedOrders = true := by kernel_rfl
  rcases hq : nsB l with _ | _
  · have E : Hid (r = false) := HR.out.trans (usB_ns hq)
    go_enter Try.func24, Try.ntmps24
    go_wp2_with (go_at_call 21; refine (implNodesOk_any a n cap l _ h).mono ?_; rw [hq]; rintro e w1 ⟨rfl, hb1⟩)
    go_ret
    exact ⟨by rw [E.out]; rfl, hb1⟩
  · have ns := nsB_t hq
    have hn8 := ns.n2
    by_cases hl : n2 = n
    · subst hl
      have hnn : ((n2 : Int) != (n2 : Int)) = false := by simp
      go_enter Try.func24, Try.ntmps24
      go_wp2_with (go_at_call 21; refine (implNodesOk_any a n2 cap l _ h).mono ?_; rw [hq]; rintro e w1 ⟨rfl, hb1⟩)
      clear hq
      go_loopw [19] (fun i wr => ∃ k : Nat, k ≤ n2 ∧ i = .int .i64 k ∧ Hid (∀ j, j < k → 0 ≤ zg u j ∧ zg u j ≤ (ndg l j).cores) ∧ Below w.heap.size w wr) (fun i _ => n2 - (intOf i).toNat)
      case atStart => exact ⟨0, by omega, rfl, fun j hj => by omega, hb1⟩
      case round =>
        obtain ⟨k, hk, rfl, hok, hw⟩ := hrel
        rename World => wr
        by_cases hlt : k < n2
        · obtain ⟨b, off, rfl, hbw, hat⟩ := (h.below hw).at_ (by omega)
          obtain ⟨b2, off2, rfl, hbw2, hat2⟩ := (h2.below hw).at_ (by omega)
          obtain ⟨x0, x1⟩ := hat.row (i := k) (by omega)
          have z0 := hat2 k hlt
          have hlt' : (k : Int) < (n2 : Int) := by omega
          clear hat hat2
          obtain ⟨W1, hW1⟩ : ∃ W1, W1 = wr.alloc (.cells #[.int .i64 (ndg l k).cores, .int .i64 (ndg l k).state] 32) := ⟨_, rfl⟩
          have B1 : Below w.heap.size w W1 := by rw [hW1]; exact hw.then box_below0 hw.size
          have y0 : W1.cell? ⟨wr.heap.size, 0, none⟩ = some (.int .i64 (ndg l k).cores) := by rw [hW1]; simp
          have z1 : W1.cell? ⟨b2, off2 + k, none⟩ = some (.int .i64 (zg u k)) := by rw [hW1]; exact (World.cell?_alloc_lt _ _ _ (by exact hbw2)).trans z0
          have CI : ∀ W, Calls Try.prog 47 #[.int .i64 (zg u k), .int .i64 0, .int .i64 (ndg l k).cores] W fun e w' => e = .returned (.bool (inB (zg u k) 0 (ndg l k).cores)) ∧ w' = W := fun W => within_any _ _ _ _
          go_upto_region 6 with fail
          rw [← hW1]
          clear hW1 x0 x1 z0
          rcases q1 : inB (zg u k) 0 (ndg l k).cores with _ | _
          · have E : Hid (r = false) := HR.out.trans (usB_no fun q => by have := q.us k (by omega); have := nin_f q1; omega)
            rw [q1] at CI
            go_quiet ((go_at_call 47; exact Calls.quiet_of_same (CI _)))
            go_wp2
            go_ret
            exact ⟨by rw [E.out]; rfl, B1.drewN _⟩
          · have N : Hid (∀ j, j < k + 1 → 0 ≤ zg u j ∧ zg u j ≤ (ndg l j).cores) := fun j hj => by
              by_cases e : j = k
              · subst e; exact nin_t q1
              · exact hok.out j (by omega)
            rw [q1] at CI
            go_quiet ((go_at_call 47; exact Calls.quiet_of_same (CI _)))
            go_wp2
            go_roundw
            case rel => exact ⟨k + 1, by omega, by go_num, N, B1.drewN _⟩
            case measure => simp [intOf]; omega
        · obtain rfl : k = n2 := by omega
          have E : Hid (r = true) := HR.out.trans (usB_mk ⟨ns, by omega, fun i hi => hok.out i (by omega)⟩)
          have hnn : ¬ (k : Int) < (k : Int) := by omega
          go_wp2
          go_ret
          exact ⟨by rw [E.out]; rfl, hw⟩
    · have E : Hid (r = false) := HR.out.trans (usB_len (by omega))
      have hnn : ((n2 : Int) != (n : Int)) = true := by simp; omega
      go_enter Try.func24, Try.ntmps24
      go_wp2_with (go_at_call 21; refine (implNodesOk_any a n cap l _ h).mono ?_; rw [hq]; rintro e w1 ⟨rfl, hb1⟩)
      go_ret
      exact ⟨by rw [E.out]; rfl, hb1⟩

set_option maxHeartbeats 2000000 in
theorem implReady_any (a a2 : Option Addr) (n cap n2 cap2 : Nat) (l : List Nd) (u : List Int) (w : World) (h : NodeS w a n cap l) (h2 : IntS w a2 n2 cap2 u) :
    Calls Try.prog 13 #[.slice a n cap, .slice a2 n2 cap2] w fun e w' => e = .returned (.int .i64 (rdF l u)) ∧ Below w.heap.size w w' := by
  have hlen := h.len
  have hlen2 := h2.len
  have hmx := h.mx
  have hle := h.le
  unfold maxLen at hmx
  obtain ⟨r, hr⟩ : ∃ r, r = rdF l u := ⟨_, rfl⟩
  have HR : Hid (r = rdF l u) := hr
  rw [← hr]
  clear hr
  have hmo : Try.prog.follows .mixedOrders = true := by kernel_rfl
  rcases hq : usB l u with _ | _
  · have E : Hid (r = -1) := HR.out.trans (rdF_f hq)
    go_enter Try.func13, Try.ntmps13
    go_wp2_with (go_at_call 24; refine (implUsedOk_any a a2 n cap n2 cap2 l u _ h h2).mono ?_; rw [hq]; rintro e w1 ⟨rfl, hb1⟩)
    go_ret
    exact ⟨by rw [E.out]; rfl, hb1⟩
  · have us := usB_t hq
    have hn8 := us.ns.n2
    have E : Hid (r = rdK l u l.length) := HR.out.trans (rdF_t hq)
    obtain rfl : n2 = n := by have := us.len; omega
    go_enter Try.func13, Try.ntmps13
    go_wp2_with (go_at_call 24; refine (implUsedOk_any a a2 n2 cap n2 cap2 l u _ h h2).mono ?_; rw [hq]; rintro e w1 ⟨rfl, hb1⟩)
    clear hq
    go_loopw [5, 14] (fun s i wr => ∃ k : Nat, k ≤ n2 ∧ i = .int .i64 k ∧ s = .int .i64 (rdK l u k) ∧ Below w.heap.size w wr) (fun _ i _ => n2 - (intOf i).toNat)
    case atStart => exact ⟨0, by omega, rfl, rfl, hb1⟩
    case round =>
      obtain ⟨k, hk, rfl, rfl, hw⟩ := hrel
      rename World => wr
      by_cases hlt : k < n2
      · obtain ⟨b, off, rfl, hbw, hat⟩ := (h.below hw).at_ (by omega)
        obtain ⟨b2, off2, rfl, hbw2, hat2⟩ := (h2.below hw).at_ (by omega)
        obtain ⟨x0, x1⟩ := hat.row (i := k) (by omega)
        have z0 := hat2 k hlt
        have hlt' : (k : Int) < (n2 : Int) := by omega
        clear hat hat2
        have b1 := rdK_bd us k (by omega)
        have b3 := us.us k (by omega)
        have b4 := (nOk_t (us.ns.ok k (by omega))).1
        have N : Hid (rdK l u (k + 1) = rdK l u k + spF (ndg l k) (zg u k)) := by unfold Hid spF; simp only [rdK]; split <;> omega
        have hsp : 0 ≤ spF (ndg l k) (zg u k) ∧ spF (ndg l k) (zg u k) ≤ 100 := by unfold spF; split <;> omega
        have CS : ∀ W, Calls Try.prog 45 #[.agg #[.int .i64 (ndg l k).cores, .int .i64 (ndg l k).state], .int .i64 (zg u k)] W fun e w' => e = .returned (.int .i64 (spF (ndg l k) (zg u k))) ∧ w' = W.alloc (.cells #[.int .i64 (ndg l k).cores, .int .i64 (ndg l k).state] 32) := fun W => spare_any _ _ _ (by omega)
        generalize spF (ndg l k) (zg u k) = sp at N hsp CS
        have ws : IntKind.i64.wrap (rdK l u k + sp) = rdK l u k + sp := by rw [IntKind.wrap_i64]; omega
        obtain ⟨W1, hW1⟩ : ∃ W1, W1 = wr.alloc (.cells #[.int .i64 (ndg l k).cores, .int .i64 (ndg l k).state] 32) := ⟨_, rfl⟩
        have B1 : Below w.heap.size w W1 := by rw [hW1]; exact hw.then box_below0 hw.size
        have y0 : W1.cell? ⟨wr.heap.size, 0, none⟩ = some (.int .i64 (ndg l k).cores) := by rw [hW1]; simp
        have y1 : W1.cell? ⟨wr.heap.size, 1, none⟩ = some (.int .i64 (ndg l k).state) := by rw [hW1]; simp
        have z1 : W1.cell? ⟨b2, off2 + k, none⟩ = some (.int .i64 (zg u k)) := by rw [hW1]; exact (World.cell?_alloc_lt _ _ _ (by exact hbw2)).trans z0
        go_upto_region 7 with fail
        rw [← hW1]
        clear hW1 x0 x1 z0
        have CA : ∀ nn os, Calls Try.prog 45 #[.agg #[.int .i64 (ndg l k).cores, .int .i64 (ndg l k).state], .int .i64 (zg u k)] (grow (W1.drewN nn) os) fun e w' => e = .returned (.int .i64 sp) ∧ ∃ q os', w' = grow ((grow (W1.drewN nn) os).drewN q) os' := fun nn os => (CS _).mono (by rintro e w' ⟨rfl, rfl⟩; exact ⟨rfl, (GrS.refl _).alloc _⟩)
        have BG := fun nn os => below_grow W1 nn os
        have Y0 : ∀ nn os, (grow (W1.drewN nn) os).cell? ⟨wr.heap.size, 0, none⟩ = some (.int .i64 (ndg l k).cores) := fun nn os => cell_grown (World.block_lt_of_cell? W1 _ y0) y0 nn os
        have Y1 : ∀ nn os, (grow (W1.drewN nn) os).cell? ⟨wr.heap.size, 1, none⟩ = some (.int .i64 (ndg l k).state) := fun nn os => cell_grown (World.block_lt_of_cell? W1 _ y1) y1 nn os
        have Z1 : ∀ nn os, (grow (W1.drewN nn) os).cell? ⟨b2, off2 + k, none⟩ = some (.int .i64 (zg u k)) := fun nn os => cell_grown (World.block_lt_of_cell? W1 _ z1) z1 nn os
        clear y0 y1 z1
        clear CS
        go_quiet_grown ((go_at_call 45; exact Calls.grown_of (CA _ _)))
        have B3 := B1.then (BG nq osq) B1.size
        go_wp2
        go_roundw
        case rel => exact ⟨k + 1, by omega, by go_num, by rw [N.out], B3⟩
        case measure => simp [intOf]; omega
      · obtain rfl : k = n2 := by omega
        have E2 : Hid (r = rdK l u k) := by unfold Hid; rw [E.out, hlen]
        have hnn : ¬ (k : Int) < (k : Int) := by omega
        go_wp2
        go_ret
        exact ⟨by rw [E2.out]; rfl, hw⟩

end Go.Proofs.Ytkkbfblgnejonaa
