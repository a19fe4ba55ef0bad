/- Crowded of the program. -/
import Derived.Test.YtmaojjjdepgaeaaTaskBy
import Derived.Test.YtmaojjjdepgaeaaTaskC
import Derived.Test.YtmaojjjdepgaeaaTimeFaces
import Derived.Deep.RegionHeld3
import Derived.WalkMore
namespace Go.Proofs.Ytmaojjjdepgaeaa
open Go.RowKit Go.Sort

theorem untilTask {x y : Int} (hx : 0 ≤ x ∧ x ≤ 200) (hy : 0 ≤ y ∧ y ≤ 200) : faceI untilI x y = max 0 (y - x) := by
  have c1 : okB x = true := by unfold okB inB; simp; omega
  have c2 : okB y = true := by unfold okB inB; simp; omega
  rw [face_tt c1 c2]; unfold untilI
  rw [if_neg (by omega)]
  split <;> omega

/-- whoever is crowded is so from an At of ys, till a Due of zs -/
theorem Crwd.at_ {ls ys zs : List Jb} (hp : ys.Perm ls) (hq : zs.Perm ls) {a b : Int} (h : Crwd ls a b) : (∃ p, p < ys.length ∧ (jg ys p).at_ = a) ∧ (∃ q, q < zs.length ∧ (jg zs q).due = b) := by
  obtain ⟨⟨i, hi, e1⟩, ⟨j, hj, e2⟩, _⟩ := h
  obtain ⟨p, hp', f1⟩ := jg_mem hp.symm hi
  obtain ⟨q, hq', f2⟩ := jg_mem hq.symm hj
  exact ⟨⟨p, hp', by rw [f1]; exact e1⟩, ⟨q, hq', by rw [f2]; exact e2⟩⟩

set_option maxRecDepth 8000 in
set_option maxHeartbeats 4000000 in
theorem implCrowded_any (a : Option Addr) (n cap : Nat) (ls : List Jb) (w : World) (h : JobS w a n cap ls) :
    Calls Try.prog 29 #[.slice a n cap] w fun e w' => ∃ x y t, e = .returned (.tuple #[.int .i64 x, .int .i64 y, .bool t]) ∧ IsCrw ls x y t ∧ Below w.heap.size w w' := by
  rcases hq : tsB ls with _ | _
  · go_enter Try.func29, Try.ntmps29
    go_wp2
    refine wp_scope_straight ?_
    go_wp2_with (go_at_call 39; refine (implTasksOk_any _ _ _ _ _ h).mono ?_; rw [hq]; rintro e w1 ⟨rfl, hb1⟩)
    rw [Exit.noGoto_ret]
    exact bodyPost_ret (v := .tuple #[.int .i64 0, .int .i64 0, .bool false]) (by simp [results, Try.results29, go_sem]) rfl ⟨0, 0, false, rfl, Or.inl ⟨hq, rfl, rfl, rfl⟩, hb1⟩
  have ho := tsB_t hq
  have hlen := h.len
  have hn := ho.n
  go_enter Try.func29, Try.ntmps29
  go_wp2
  refine wp_scope_straight ?_
  go_wp2_with (first
    | (go_at_call 39; refine (implTasksOk_any _ _ _ _ _ h).mono ?_; rw [hq]; rintro e w1 ⟨rfl, hb1⟩)
    | (go_at_call 73; (with_reducible change Calls _ _ #[.func (.func 72) _ _, _] _ _); refine (sortedAt_any _ _ _ _ _ (h.below hb1) ho).mono ?_; rintro e w2 ⟨B1, ys, rfl, hB1, hp1, hl1, hs1, hJ1, hb2⟩; have U2 := hb1.then hb2 hb1.size)
    | (go_at_call 73; (with_reducible change Calls _ _ #[.func (.func 74) _ _, _] _ _); refine (sortedDue_any _ _ _ _ _ (h.below U2) ho).mono ?_; rintro e w3 ⟨B2, zs, rfl, hB2, hp2, hl2, hs2, hJ2, hb3⟩))
  have h3 := (h.below U2).below hb3
  have U3 := U2.then hb3 U2.size
  have J1 : JobS w3 (some ⟨B1, 0, none⟩) n n ys := (hJ1.below hb3).toS hl1 (by omega) (fun i hi => by
    obtain ⟨j, hj, e⟩ := jg_mem hp1 (i := i) (by omega)
    rw [← e]; exact h.wf j (by omega))
  have J2 : JobS w3 (some ⟨B2, 0, none⟩) n n zs := hJ2.toS hl2 (by omega) (fun i hi => by
    obtain ⟨j, hj, e⟩ := jg_mem hp2 (i := i) (by omega)
    rw [← e]; exact h.wf j (by omega))
  have HP1 : Hid _ := hp1
  have HP2 : Hid _ := hp2
  have HS1 : Hid _ := hs1
  have HS2 : Hid _ := hs2
  have HQ : Hid _ := hq
  have HU : Hid (∀ W, Below w3.heap.size w3 W → Below w.heap.size w W) := fun W hW => U3.then hW U3.size
  clear hJ1 hJ2 hb2 hb3 U2 U3 hp1 hp2 hs1 hs2 h hq
  go_step3
  go_wp2
  go_loopw [7, 8, 9, 11, 13, 23] (fun p q t _ _ i wr => ∃ k : Nat, k ≤ n ∧ i = .int .i64 k ∧ p = .int .i64 0 ∧ q = .int .i64 0 ∧ t = .bool false ∧ Hid (∀ x, x < k → ∀ b, ¬ Crwd ls (jg ys x).at_ b) ∧ Below w3.heap.size w3 wr) (fun _ _ _ _ _ i _ => n - (intOf i).toNat)
  case atStart => exact ⟨0, by omega, rfl, rfl, rfl, rfl, fun x hx => by omega, Below.refl _ _⟩
  case round =>
    obtain ⟨k, hk, rfl, rfl, rfl, rfl, HK, hw⟩ := hrel
    rename World => wr
    by_cases hlt : k < n
    · have hlt' : (k : Int) < (n : Int) := by omega
      obtain ⟨b, off, hb', hbw, hat⟩ := J1.at_ (by omega)
      injection hb' with hb'; injection hb' with hb' ho' _; subst hb' ho'
      obtain ⟨hc0, hc1, hc2, hc3, hc4, hc5, hc6⟩ := (hat.below hw hbw).job (i := k) (by omega)
      clear hat
      simp only [Nat.zero_add] at hc0 hc1 hc2 hc3 hc4 hc5 hc6
      obtain ⟨wx, hwx⟩ : ∃ wx, wx = (wr.alloc (.cells #[.int .i64 (jg ys k).id, .int .i64 (jg ys k).cores, .int .i64 (jg ys k).long, .int .i64 (jg ys k).due, .int .i64 (jg ys k).wt, .int .i64 (jg ys k).rank, .int .i64 (jg ys k).at_] 49)) := ⟨_, rfl⟩
      have hwx1 : Below w3.heap.size w3 wx := by rw [hwx]; exact hw.alloc hw.size _
      have F6 : wx.cell? ⟨wr.heap.size, 6, none⟩ = some (.int .i64 (jg ys k).at_) := by rw [hwx]; simp
      have F0 : wr.heap.size < wx.heap.size := by rw [hwx]; simp
      have HWX : Hid _ := hwx
      clear hwx
      go_wp2
      rw [← HWX.out]
      clear HWX hc0 hc1 hc2 hc3 hc4 hc5 hc6 hw
      obtain ⟨jx, hjx⟩ : ∃ jx, jx = (jg ys k).at_ := ⟨_, rfl⟩
      rw [← hjx] at F6
      have HJX : Hid _ := hjx
      have hjb : 0 ≤ jx ∧ jx ≤ 200 := by
        rw [hjx]
        obtain ⟨j, hj, e⟩ := jg_mem HP1.out (i := k) (by omega)
        have := ho.bd hj
        rw [e] at this; omega
      clear hjx
      go_loopw [7, 8, 9, 13, 29] (fun p q t _ i wr => ∃ m : Nat, m ≤ n ∧ i = .int .i64 m ∧ p = .int .i64 0 ∧ q = .int .i64 0 ∧ t = .bool false ∧ Hid (∀ x, x < m → ¬ Crwd ls jx (jg zs x).due) ∧ Below wx.heap.size wx wr) (fun _ _ _ _ i _ => n - (intOf i).toNat)
      case atStart => exact ⟨0, by omega, rfl, rfl, rfl, rfl, fun x hx => by omega, Below.refl _ _⟩
      case round =>
        obtain ⟨m, hm, rfl, rfl, rfl, rfl, HM, hwy⟩ := hrel
        rename World => wy
        by_cases hmt : m < n
        · have hmt' : (m : Int) < (n : Int) := by omega
          obtain ⟨b, off, hb', hbw, hat⟩ := J2.at_ (by omega)
          injection hb' with hb'; injection hb' with hb' ho' _; subst hb' ho'
          have hBy := hwx1.then hwy hwx1.size
          obtain ⟨hd0, hd1, hd2, hd3, hd4, hd5, hd6⟩ := (hat.below hBy hbw).job (i := m) (by omega)
          clear hat
          simp only [Nat.zero_add] at hd0 hd1 hd2 hd3 hd4 hd5 hd6
          obtain ⟨W0, hW0⟩ : ∃ W0, W0 = (wy.alloc (.cells #[.int .i64 (jg zs m).id, .int .i64 (jg zs m).cores, .int .i64 (jg zs m).long, .int .i64 (jg zs m).due, .int .i64 (jg zs m).wt, .int .i64 (jg zs m).rank, .int .i64 (jg zs m).at_] 49)) := ⟨_, rfl⟩
          obtain ⟨jy, hjy⟩ : ∃ jy, jy = (jg zs m).due := ⟨_, rfl⟩
          have hyb : 0 ≤ jy ∧ jy ≤ 200 := by
            rw [hjy]
            obtain ⟨j, hj, e⟩ := jg_mem HP2.out (i := m) (by omega)
            have := ho.bd hj
            rw [e] at this; omega
          have HJY : Hid _ := hjy
          have HB0 : Hid (Below wx.heap.size wx W0) := by rw [hW0]; exact hwy.alloc hwy.size _
          have G3 : W0.cell? ⟨wy.heap.size, 3, none⟩ = some (.int .i64 jy) := by rw [hW0, hjy]; simp
          have G6 : W0.cell? ⟨wr.heap.size, 6, none⟩ = some (.int .i64 jx) := (HB0.out.cell (p := ⟨wr.heap.size, 6, none⟩) F0).trans F6
          have hz0 : wy.heap.size < W0.heap.size := by rw [hW0]; simp
          have hz1 : wr.heap.size < W0.heap.size := by have := HB0.out.size; omega
          have HB3 : Hid (Below w3.heap.size w3 W0) := hwx1.then HB0.out hwx1.size
          have HKK : Hid (∀ w', Below W0.heap.size W0 w' → Below W0.heap.size W0 w' ∧ w'.cell? ⟨wr.heap.size, 6, none⟩ = some (.int .i64 jx) ∧ w'.cell? ⟨wy.heap.size, 3, none⟩ = some (.int .i64 jy)) := fun w' hg =>
            ⟨hg, (hg.cell (p := ⟨wr.heap.size, 6, none⟩) hz1).trans G6, (hg.cell (p := ⟨wy.heap.size, 3, none⟩) hz0).trans G3⟩
          have S0 : Below W0.heap.size W0 W0 := Below.refl _ _
          have KB : ∀ w', (Below W0.heap.size W0 w' ∧ w'.cell? ⟨wr.heap.size, 6, none⟩ = some (.int .i64 jx) ∧ w'.cell? ⟨wy.heap.size, 3, none⟩ = some (.int .i64 jy)) → Below W0.heap.size W0 w' := fun _ h => h.1
          obtain ⟨D, hD⟩ : ∃ D, D = demV ls jx jy := ⟨_, rfl⟩
          have CD : ∀ W, Below W0.heap.size W0 W → Calls Try.prog 37 #[.slice a n cap, .int .i64 jx, .int .i64 jy] W fun e w' => e = .returned (.int .i64 D) ∧ Below W.heap.size W w' := fun W hW => by
            have := implDemand_any a n cap ls jx jy W (h3.below (HB3.out.then hW HB3.out.size))
            rwa [demF_t HQ.out, ← hD] at this
          have CU : ∀ W, Calls Try.prog 75 #[.int .i64 jx, .int .i64 jy] W fun e w' => e = .returned (.int .i64 (max 0 (jy - jx))) ∧ w' = W := fun W => by
            have := implUntil_any jx jy W
            rwa [untilTask hjb hyb] at this
          obtain ⟨U, hU⟩ : ∃ U, U = max 0 (jy - jx) := ⟨_, rfl⟩
          rw [← hU] at CU
          have HUD : Hid (U = max 0 (jy - jx) ∧ D = demV ls jx jy) := ⟨hU, hD⟩
          have HW0 : Hid _ := hW0
          clear hW0 hjy hD hU hjb hyb
          by_cases hc : U < D
          · have HC : Hid (IsCrw ls jx jy true) := Or.inr ⟨HQ.out, Or.inr ⟨rfl, ⟨by
                obtain ⟨j, hj, e⟩ := jg_mem HP1.out (i := k) (by omega)
                exact ⟨j, hj, by rw [e]; exact HJX.out.symm⟩, by
                obtain ⟨j, hj, e⟩ := jg_mem HP2.out (i := m) (by omega)
                exact ⟨j, hj, by rw [e]; exact HJY.out.symm⟩, by rw [← HUD.out.1, ← HUD.out.2]; exact hc⟩, fun x y hab => by
              obtain ⟨⟨p, hp, e1⟩, ⟨q, hq, e2⟩⟩ := hab.at_ HP1.out HP2.out
              by_cases hpk : p < k
              · exact absurd hab (by rw [← e1]; exact HK.out p hpk y)
              · have h1 := HS1.out k p (by omega) hp
                rw [e1, ← HJX.out] at h1
                by_cases ex : jx = x
                · subst ex
                  by_cases hqm : q < m
                  · exact absurd hab (by rw [← e2]; exact HM.out q hqm)
                  · have h2 := HS2.out m q (by omega) hq
                    rw [e2, ← HJY.out] at h2
                    exact Or.inr ⟨rfl, h2⟩
                · exact Or.inl (by omega)⟩⟩
            go_wp2_with fail
            rw [← HW0.out]
            clear HW0 hd0 hd1 hd2 hd3 hd4 hd5 hd6 G3 G6 hwy hBy
            have K0 := HKK.out _ S0
            go_region_held3 (fun w' => Below W0.heap.size W0 w' ∧ w'.cell? ⟨wr.heap.size, 6, none⟩ = some (.int .i64 jx) ∧ w'.cell? ⟨wy.heap.size, 3, none⟩ = some (.int .i64 jy)) ((refine HKK.out _ ?_; first | with_reducible exact SB | with_reducible exact SB.drew | with_reducible exact S0.drew | with_reducible exact S0)) (first
              | (go_at_call 37; refine (CD _ (KB _ (by assumption))).mono ?_; rintro e w1 ⟨rfl, hb1⟩; have SB : Below W0.heap.size W0 w1 := (KB _ (by assumption)).then hb1 (KB _ (by assumption)).size)
              | (go_at_call 75; refine (CU _).mono ?_; rintro e w2 ⟨rfl, hq2⟩; have SB : Below W0.heap.size W0 w2 := (by rw [hq2]; exact KB _ (by assumption)); clear hq2))
            all_goals
              have K1 := HKK.out _ SB
              obtain ⟨_, k6, k3⟩ := K1
              go_wp2_with fail
              go_region
              go_wp2
              try rw [Exit.noGoto_ret]
              exact bodyPost_ret (v := .tuple #[.int .i64 jx, .int .i64 jy, .bool true]) (by simp [results, Try.results29, go_sem]) rfl ⟨jx, jy, true, rfl, HC.out, HU.out _ (HB3.out.then (by first | exact SB | exact SB.drew | exact SB.drew.drew) HB3.out.size)⟩
          · have HN : Hid (∀ x, x < m + 1 → ¬ Crwd ls jx (jg zs x).due) := fun x hx => by
              by_cases e : x = m
              · subst e
                intro hab
                have := hab.2.2
                rw [← HJY.out, ← HUD.out.1, ← HUD.out.2] at this
                exact hc this
              · exact HM.out x (by omega)
            go_wp2_with fail
            rw [← HW0.out]
            clear HW0 hd0 hd1 hd2 hd3 hd4 hd5 hd6 G3 G6 hwy hBy
            have K0 := HKK.out _ S0
            go_region_held3 (fun w' => Below W0.heap.size W0 w' ∧ w'.cell? ⟨wr.heap.size, 6, none⟩ = some (.int .i64 jx) ∧ w'.cell? ⟨wy.heap.size, 3, none⟩ = some (.int .i64 jy)) ((refine HKK.out _ ?_; first | with_reducible exact SB | with_reducible exact SB.drew | with_reducible exact S0.drew | with_reducible exact S0)) (first
              | (go_at_call 37; refine (CD _ (KB _ (by assumption))).mono ?_; rintro e w1 ⟨rfl, hb1⟩; have SB : Below W0.heap.size W0 w1 := (KB _ (by assumption)).then hb1 (KB _ (by assumption)).size)
              | (go_at_call 75; refine (CU _).mono ?_; rintro e w2 ⟨rfl, hq2⟩; have SB : Below W0.heap.size W0 w2 := (by rw [hq2]; exact KB _ (by assumption)); clear hq2))
            all_goals
              go_wp2
              go_roundw
              case rel => exact ⟨m + 1, by omega, by go_num, rfl, rfl, rfl, HN, HB0.out.then (by first | exact SB | exact SB.drew | exact SB.drew.drew) HB0.out.size⟩
              case measure => simp [intOf]; omega
        · obtain rfl : m = n := by omega
          have HN : Hid (∀ x, x < k + 1 → ∀ b, ¬ Crwd ls (jg ys x).at_ b) := fun x hx b hab => by
            by_cases e : x = k
            · subst e
              obtain ⟨_, q, hq, e2⟩ := hab.at_ HP1.out HP2.out
              exact HM.out q (by omega) (by rw [HJX.out, e2]; exact hab)
            · exact HK.out x (by omega) b hab
          have HB : Hid (Below w3.heap.size w3 wy) := hwx1.then hwy hwx1.size
          go_wp2
          go_roundw
          case rel => exact ⟨k + 1, by omega, by go_num, rfl, rfl, rfl, HN, HB.out⟩
          case measure => simp [intOf]; omega
    · obtain rfl : k = n := by omega
      have HC : Hid (IsCrw ls 0 0 false) := Or.inr ⟨HQ.out, Or.inl ⟨rfl, rfl, rfl, fun a b hab => by
        obtain ⟨⟨p, hp, e⟩, _⟩ := hab.at_ HP1.out HP2.out
        exact HK.out p (by omega) b (by rw [e]; exact hab)⟩⟩
      go_wp2
      rw [Exit.noGoto_ret]
      exact bodyPost_ret (v := .tuple #[.int .i64 0, .int .i64 0, .bool false]) (by simp [results, Try.results29, go_sem]) rfl ⟨0, 0, false, rfl, HC.out, HU.out _ hw⟩

end Go.Proofs.Ytmaojjjdepgaeaa
