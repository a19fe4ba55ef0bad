/- All orders, of the model: the walk. -/
import Derived.Test.YtkakdodamnnplaaTurnS
namespace Go.Proofs.Ytkakdodamnnplaa
open Go.RowKit

theorem none_rows (w : World) : RRows (w.alloc (.cells #[] 34)) w.heap.size (.slice (some ⟨w.heap.size, 0, none⟩) 0 0) [] :=
  ⟨⟨rfl, Or.inr ⟨w.heap.size, 0, #[], rfl, Nat.le_refl _, heap_alloc_new _ _, Nat.le_refl _, Nat.zero_le _, rfl, rfl⟩⟩, (fun x hx => by cases hx), List.Pairwise.nil, (fun x hx => by cases hx)⟩

set_option maxRecDepth 8000 in
set_option maxHeartbeats 4000000 in
theorem l5Turns_zero (x : Rw) (w : World) (h0 : x.l.length = 0) :
    Calls Try.prog 39 #[.int .i64 0, x.val] w fun e w' => ∃ v X, e = .returned v ∧ RRows w' w.heap.size v X ∧ X.map (·.l) = [[]] ∧ AllSome X ∧ Below w.heap.size w w' := by
  unfold Rw.val
  rw [h0]
  go_enter Try.func39, Try.ntmps39
  go_wp2
  go_ret
  refine ⟨_, [⟨some w.heap.size, 0, []⟩], rfl, ⟨⟨rfl, Or.inr ⟨w.heap.size + 1, 1, #[.slice (some ⟨w.heap.size, 0, none⟩) 0 0], rfl, by omega, ?_, Nat.le_refl _, by unfold maxLen; omega, rfl, rfl⟩⟩, fun y hy => ?_, List.pairwise_singleton _ _, fun y hy g hg => ?_⟩, rfl, fun y hy => ⟨w.heap.size, by rw [List.mem_singleton.1 hy]⟩, ?_⟩
  · have := heap_alloc_new (w.alloc (.cells #[] 2)) (.cells #[.slice (some ⟨w.heap.size, 0, none⟩) 0 0] 34)
    rwa [show (w.alloc (.cells #[] 2)).heap.size = w.heap.size + 1 by simp] at this
  · obtain rfl := List.mem_singleton.1 hy
    refine ⟨rfl, Or.inr ⟨w.heap.size, 0, #[], rfl, Nat.le_refl _, ?_, Nat.le_refl _, Nat.zero_le _, rfl, rfl⟩⟩
    exact (Below.heap_alloc _ _ _ (by simp)).trans (heap_alloc_new _ _)
  · obtain rfl := List.mem_singleton.1 hy
    injection hg with hg
    subst hg
    simp [Value.ownBlock]
  · exact ((Below.refl _ _).alloc (Nat.le_refl _) _).alloc (by simp) _

set_option maxRecDepth 8000 in
set_option maxHeartbeats 8000000 in
theorem l5Turns_any : ∀ (n : Nat) (x : Rw) (base : Nat) (w : World), RowOk w base x → x.l.length = n → n ≤ 6 →
    Calls Try.prog 39 #[.int .i64 n, x.val] w fun e w' => ∃ v X, e = .returned v ∧ RRows w' w.heap.size v X ∧ X.map (·.l) = turnsL n x.l ∧ AllSome X ∧ Below w.heap.size w w' := by
  intro n
  induction n with
  | zero => intro x base w _ hl _; exact l5Turns_zero x w hl
  | succ n ih =>
    intro x base w hx hl h6
    obtain ⟨i1, hi1, hi2, hi3, hi4⟩ := info_parts infoI
    obtain ⟨j1, hj1, hj2, hj3, hj4⟩ := info_parts infoIS
    rcases hx.what with ⟨_, e, _⟩ | ⟨g, ho, hbg, hI, hlc, hcm⟩
    · rw [e] at hl; simp at hl
    have hv : x.val = .slice (some ⟨g, 0, none⟩) x.l.length x.c := by unfold Rw.val Rw.a; rw [ho]; rfl
    rw [hv]
    have hlt := hI.lt
    obtain ⟨m, hm⟩ : ∃ m : Int, m = ((n + 1 : Nat) : Int) := ⟨_, rfl⟩
    rw [← hm]
    have hm1 : m - 1 = (n : Int) := by omega
    have hm0 : (m == 0) = false := by simp; omega
    have m1 : 1 ≤ m := by omega
    have m6 : m ≤ 6 := by omega
    obtain ⟨L, hL⟩ : ∃ L, L = x.l := ⟨_, rfl⟩
    rw [← hL] at hI hl hlc ⊢
    obtain ⟨N, hN⟩ : ∃ N, N = L.length := ⟨_, rfl⟩
    rw [← hN] at hI hlc ⊢
    have N1 : N ≤ n + 1 := by omega
    have N2 : n + 1 ≤ N := by omega
    have HL : Hid (L.length = N) := hN.symm
    have hcx : ∀ W, Below w.heap.size w W → ∀ i, i < N → W.cell? ⟨g, i, none⟩ = some (.int .i64 (zg L i)) := fun W hW i hi => by
      obtain ⟨cur, h1, h2, h3⟩ := hI.blk (hW.block g hlt)
      simp [World.cell?, h1, h3 i hi]
    have HCX : Hid _ := hcx
    unfold maxLen at hcm
    clear hm hL hN hl hx hv hcx
    go_enter Try.func39, Try.ntmps39
    go_wp2_with fail
    go_loopw [5, 6] (fun o i wr => ∃ (k : Nat) (v : Value) (X : List Rw), k ≤ N ∧ i = .int .i64 k ∧ o = v ∧ Hid (RRows wr w.heap.size v X) ∧ Hid (X.map (·.l) = turnsP n L k ∧ AllSome X) ∧ Below w.heap.size w wr) (fun _ i _ => N - (intOf i).toNat)
    case atStart => exact ⟨0, _, [], by omega, rfl, rfl, none_rows w, ⟨rfl, fun x hx => by cases hx⟩, (Below.refl _ _).alloc (Nat.le_refl _) _⟩
    case round =>
      obtain ⟨k, v, X, hk, rfl, rfl, HR, HP, hw⟩ := hrel
      by_cases hkt : k < N
      · have hkt' : (k : Int) < (N : Int) := by omega
        have z := hw.size
        have OE := World.ownsRow_made (base := wr.heap.size) (e := 2) (size := 1) wr.drew #[] 0 (Nat.le_refl _) (Nat.zero_le _) rfl
        have BD : Below wr.heap.size wr (wr.drew.alloc (.cells #[] 2)) := (Below.refl _ _).drew.alloc (Nat.le_refl _) _
        have HIx : ∀ W, Below wr.heap.size wr W → ∀ i, i < N → W.cell? ⟨g, i, none⟩ = some (.int .i64 (zg L i)) := fun W hW => HCX.out W (hw.then hW z)
        have HC1 : Hid (∀ W, Below wr.heap.size wr W → ∀ j u, (ints (L.take k))[j]? = some u → W.cell? ((⟨g, 0, none⟩ : Addr).add j) = some u) := fun W hW j u hju => by
          have hj : j < k := by have := (List.getElem?_eq_some_iff.1 hju).1; simp [ints] at this; omega
          have e := HIx W hW j (by omega)
          simp [ints, hj] at hju
          obtain ⟨a, ha, rfl⟩ := hju
          rw [addr_add, Nat.zero_add]
          simpa [zg, ha] using e
        obtain ⟨ad, HA, HC2⟩ : ∃ ad : Addr, (if x.c = k + 1 then some (⟨g, 0, none⟩ : Addr) else some ⟨g, k + 1, none⟩) = some ad ∧ Hid (∀ W, Below wr.heap.size wr W → ∀ j u, (ints (L.drop (k + 1)))[j]? = some u → W.cell? (ad.add j) = some u) := by
          have hl := HL.out
          by_cases hum : x.c = k + 1
          · refine ⟨⟨g, 0, none⟩, if_pos hum, fun W hW j u hju => ?_⟩
            rw [List.drop_eq_nil_of_le (by omega)] at hju
            simp [ints] at hju
          · refine ⟨⟨g, k + 1, none⟩, if_neg hum, fun W hW j u hju => ?_⟩
            have hj : j < N - (k + 1) := by have := (List.getElem?_eq_some_iff.1 hju).1; simp [ints] at this; omega
            have e := HIx W hW (k + 1 + j) (by omega)
            simp [ints, List.getElem?_drop] at hju
            obtain ⟨a, ha, rfl⟩ := hju
            rw [addr_add]
            simpa [zg, ha] using e
        have hj1' : (ints (L.take k)).length = k * 1 := by have := HL.out; rw [ints_len]; simp; omega
        have hj2' : (ints (L.drop (k + 1))).length = (N - (k + 1)) * 1 := by have := HL.out; rw [ints_len]; simp; omega
        have n2 : (k : Int) + 1 ≤ (N : Int) := by omega
        have n3 : (N : Int) ≤ (x.c : Int) := by omega
        have n5 : ((k : Int) + 1).toNat = k + 1 := by omega
        have n6 : (k : Int) ≤ (x.c : Int) := by omega
        have n8 : (0 : Int) ≤ (k : Int) + 1 := by omega
        have k0 : (0 : Int) ≤ (k : Int) := by omega
        have wk : IntKind.i64.wrap ((k : Int) + 1) = (k : Int) + 1 := by rw [IntKind.wrap_i64]; omega
        have HEE : Hid (ints (L.take k) ++ ints (L.drop (k + 1)) = ints (L.eraseIdx k)) := by rw [Hid, ← ints_app, List.eraseIdx_eq_take_drop_succ]
        have HEL : Hid ((L.eraseIdx k).length = n) := by have := HL.out; show (L.eraseIdx k).length = n; rw [erase_len (by omega)]; omega
        have HTL : Hid ((L.take k).length = k) := by have := HL.out; show (L.take k).length = k; simp; omega
        have hfl := factN_le (n + 1) h6
        have hfs : n ≤ 5 := by omega
        clear HIx
        go_wp2
        go_region_law (first
          | (refine step_append_own rfl (.tmp 21) (.tmp 24) 34 rfl wr.heap.size 2 i1 (.int .i64 0) 1 8 Try.underlying34 hi1 hi2 hi3 hi4 rfl (by decide) _ _ _ rfl OE ⟨g, 0, none⟩ k x.c (ints (L.take k)) rfl hj1' (HC1.out _ BD) (ints_one _) (by unfold maxLen; omega) (by omega) (by simp) ?_
             intro v6 w6 own6 grow6 nil6 at6
             rw [Nat.zero_add, List.nil_append] at own6
             have B6 : Below wr.heap.size wr w6 := BD.grown grow6 BD.size (fun r e => Nat.le_of_eq (show wr.heap.size = r from Option.some.inj e))
             have b6 := World.ownsRow.lt own6
             have HC6 := HC2.out w6 B6)
          | (refine step_append_own rfl (.tmp 25) (.tmp 29) 34 rfl wr.heap.size 2 i1 (.int .i64 0) 1 8 Try.underlying34 hi1 hi2 hi3 hi4 rfl (by decide) _ _ _ rfl own6 ad (N - (k + 1)) (x.c - (k + 1)) (ints (L.drop (k + 1))) rfl hj2' HC6 (ints_one _) (by unfold maxLen; omega) (by omega) B6.size ?_
             intro v7 w7 own7 grow7 nil7 at7
             obtain ⟨y, hy0, hyl, hyo, hyb⟩ := rowOk_of (l := L.eraseIdx k) own7 (by have := HEL.out; omega) HEE.out
             have B7 : Below wr.heap.size wr w7 := B6.grown grow7 B6.size (fun r e => (b6 r e).1)))
        all_goals
          have HB7 : Hid _ := hw.then B7 z
          have HR7 : Hid (RRows w7 w.heap.size u5 X) := HR.out.below B7
          have z7 := B7.size
          subst hy0
          clear own6 own7 grow6 grow7 nil6 nil7 at6 at7 b6 B6 B7 HC6 OE BD HC1 HC2 HEE hj1' hj2' HA hyb
          have hyl' : y.l.length = n := by rw [hyl]; exact HEL.out
          have wm : IntKind.i64.wrap (m - 1) = m - 1 := by rw [IntKind.wrap_i64]; omega
          have IH := ih y wr.heap.size w7 hyo hyl' (by omega)
          rw [hyl] at IH
          have HTn : Hid ((turnsL n (L.eraseIdx k)).length = factN n) := turnsL_len n _ HEL.out
          go_wp2_with fail
          refine IH.mono ?_
          rintro e w8 ⟨vY, Y, rfl, RY, hYl, hYs, hb8⟩
          have hYn : Y.length = factN n := by rw [← HTn.out, ← hYl]; simp
          obtain ⟨aY, cY, rfl, hcY, hmY, hatY⟩ := RY.toS.sh
          unfold maxLen at hmY
          have F0 : factN n ≤ 120 := (factN_le n (by omega)).2 hfs
          obtain ⟨NY, hNY⟩ : ∃ NY, NY = Y.length := ⟨_, rfl⟩
          rw [← hNY]
          have NY1 : NY ≤ Y.length := by omega
          have NY2 : Y.length ≤ NY := by omega
          have NY3 : NY ≤ 120 := by omega
          have z8 := hb8.size
          have HR8 : Hid (RRows w8 w.heap.size u5 X) := HR7.out.below hb8
          have HB8 : Hid (Below w.heap.size w w8) := HB7.out.then hb8 HB7.out.size
          have HRY : Hid (RRows w8 w7.heap.size (.slice aY Y.length cY) Y) := RY
          have HYL : Hid (Y.map (·.l) = turnsL n (L.eraseIdx k) ∧ AllSome Y) := ⟨hYl, hYs⟩
          have HU5 : Hid (∀ r, u5.ownBlock = some r → w.heap.size ≤ r ∧ r < wr.heap.size) := HR.out.blk
          have HAT : Hid _ := hatY
          have hXn : X.length ≤ k * 120 := by
            have h1 : X.length = (turnsP n L k).length := by rw [← HP.out.1]; simp
            have h2 := turnsP_len (n := n) (l := L) (by have := HL.out; omega) (turnsL_len n) k (by have := HL.out; omega)
            rw [h1, h2]
            exact Nat.mul_le_mul_left _ F0
          have hXn' : X.length ≤ 720 := by omega
          clear RY hYl hYs hYn hatY hb8 IH hNY hXn hyl hyo hyl' HTn HR7
          go_wp2_with fail
          go_loopw [5, 9] (fun o p wi => ∃ (q : Nat) (v : Value) (X' : List Rw), q ≤ NY ∧ p = .int .i64 q ∧ o = v ∧ Hid (RRows wi w.heap.size v X') ∧ Hid (X'.map (·.l) = turnsP n L k ++ ((turnsL n (L.eraseIdx k)).take q).map (zg L k :: ·) ∧ AllSome X') ∧ X'.length ≤ 720 + q ∧ Below w.heap.size w wi ∧ Hid (∀ b, w7.heap.size ≤ b → b < w8.heap.size → wi.heap[b]? = w8.heap[b]?) ∧ Hid (∀ r, v.ownBlock = some r → r < w7.heap.size ∨ w8.heap.size ≤ r) ∧ w8.heap.size ≤ wi.heap.size) (fun _ p _ => NY - (intOf p).toNat)
          case atStart => exact ⟨0, _, X, by omega, rfl, rfl, HR8.out, by rw [List.take_zero, List.map_nil, List.append_nil]; exact HP.out, by omega, HB8.out, fun b _ _ => rfl, fun r hr => Or.inl (by have := HU5.out r hr; omega), Nat.le_refl _⟩
          case round =>
            obtain ⟨q, v, X', hq, rfl, rfl, HRi, HPi, hXi, hwi, HKi, HVi, zi⟩ := hrel
            rename World => wi
            by_cases hqt : q < NY
            · have hqt' : (q : Int) < (NY : Int) := by omega
              have hqY : q < Y.length := by omega
              obtain ⟨bY, rfl, hbY, hcY2⟩ := HAT.out (by omega)
              have bb := HRY.out.blk bY rfl
              have c1 := (World.cell?_of_block (w := w8) (a := ⟨bY, q, none⟩) (HKi.out bY bb.1 bb.2)).trans (hcY2 q hqY)
              obtain ⟨gq, hgq⟩ := HYL.out.2 _ (List.getElem_mem hqY)
              have okq : RowOk wi w7.heap.size Y[q] := (HRY.out.ok _ (List.getElem_mem hqY)).keep (fun g' hg' => by have := (HRY.out.ok _ (List.getElem_mem hqY)).lt hg'; exact HKi.out g' this.2 this.1)
              have c2 : wi.cell? ⟨bY, q, none⟩ = some (.slice (some ⟨gq, 0, none⟩) Y[q].l.length Y[q].c) := by rw [c1]; unfold Rw.val Rw.a; rw [hgq]; rfl
              have c0 := HCX.out wi hwi k hkt
              have hTl : (turnsL n (L.eraseIdx k)).length = Y.length := by rw [← HYL.out.1, List.length_map]
              have hql : Y[q].l = (turnsL n (L.eraseIdx k))[q]'(by omega) := by
                have : (Y.map (·.l))[q]? = (turnsL n (L.eraseIdx k))[q]? := by rw [HYL.out.1]
                rw [List.getElem?_map, List.getElem?_eq_getElem hqY, List.getElem?_eq_getElem (show q < (turnsL n (L.eraseIdx k)).length by omega)] at this
                exact Option.some.inj this
              have hqn : Y[q].l.length = n := by
                have hmem : Y[q].l ∈ turnsL n (L.eraseIdx k) := by rw [hql]; exact List.getElem_mem _
                rw [(turnsL_perm n (L.eraseIdx k) HEL.out _ hmem).length_eq]; exact HEL.out
              have HN1 : Hid ((turnsL n (L.eraseIdx k)).take (q + 1) = (turnsL n (L.eraseIdx k)).take q ++ [Y[q].l]) := by
                rw [Hid, hql, List.take_succ_eq_append_getElem]
              have OE := one_rowI wi.drew (zg L k) wi.heap.size (Nat.le_refl _)
              have BD : Below wi.heap.size wi (wi.drew.alloc (.cells #[.int .i64 (zg L k)] 2)) := (Below.refl _ _).drew.alloc (Nat.le_refl _) _
              have CQ : Hid (∀ W, Below wi.heap.size wi W → ∀ j u, (ints Y[q].l)[j]? = some u → W.cell? ((⟨gq, 0, none⟩ : Addr).add j) = some u) := fun W hW => (okq.below hW).cells hgq
              have hqc : Y[q].l.length ≤ Y[q].c ∧ Y[q].c ≤ maxLen := by
                rcases okq.what with ⟨h1, _⟩ | ⟨_, _, _, _, h3, h4⟩
                · rw [hgq] at h1; cases h1
                · exact ⟨h3, h4⟩
              obtain ⟨rl, hrl⟩ : ∃ rl, rl = Y[q].l := ⟨_, rfl⟩
              obtain ⟨rc, hrc⟩ : ∃ rc, rc = Y[q].c := ⟨_, rfl⟩
              rw [← hrl] at HN1 CQ hqn hqc c2
              rw [← hrc] at hqc c2
              have hq1 := hqc.1
              have hq2 := hqc.2
              unfold maxLen at hq2
              have hrn1 : rl.length ≤ n := by omega
              have hj5 : (ints rl).length = rl.length * 1 := by rw [ints_len]; omega
              have U5 := HRi.out.blk
              have hbw : bY < wi.heap.size := by have := bb.2; omega
              have c3 : (wi.alloc (.cells #[.int .i64 (zg L k)] 2)).drew.cell? ⟨bY, q, none⟩ = some (.slice (some ⟨gq, 0, none⟩) rl.length rc) := by
                rw [← c2]; exact (((Below.refl _ wi).alloc (Nat.le_refl _) _).drew).cell (p := ⟨bY, q, none⟩) hbw
              have c4 : (wi.drew.alloc (.cells #[.int .i64 (zg L k)] 2)).cell? ⟨bY, q, none⟩ = some (.slice (some ⟨gq, 0, none⟩) rl.length rc) := by
                rw [← c2]; exact BD.cell (p := ⟨bY, q, none⟩) hbw
              have HVlt : Hid (∀ r, u5.ownBlock = some r → w.heap.size ≤ r ∧ r < wi.heap.size) := U5
              have zwi := hwi.size
              clear hTl hql hrl hrc hqc okq c1 hgq hcY2 hqn bb
              go_wp2_with fail
              go_region_law (first
                | (refine step_append_own rfl (.tmp 46) (.tmp 50) 34 rfl wi.heap.size 2 i1 (.int .i64 0) 1 8 Try.underlying34 hi1 hi2 hi3 hi4 rfl (by decide) _ _ _ rfl OE ⟨gq, 0, none⟩ rl.length rc (ints rl) rfl hj5 (CQ.out _ BD) (ints_one _) (by unfold maxLen; omega) (by omega) BD.size ?_
                   intro v10 w10 own10 grow10 nil10 at10
                   obtain ⟨yy, hy0, hyyl, hyyo, hyyb⟩ := rowOk_of (l := zg L k :: rl) own10 (by simp; omega) rfl
                   have HYY : Hid (yy.l = zg L k :: rl) := hyyl
                   clear hyyl
                   unfold Rw.val at hy0
                   subst hy0
                   have B10 : Below wi.heap.size wi w10 := BD.grown grow10 BD.size (fun r e => Nat.le_of_eq (show wi.heap.size = r from Option.some.inj e))
                   have OR := (HRi.out.below B10).below (box_below (cs := #[.slice yy.a yy.l.length yy.c]) (T := 34)))
                | (refine step_append_own rfl (.tmp 41) (.tmp 52) 32 rfl w.heap.size 34 j1 (.slice none 0 0) 1 24 Try.underlying32 hj1 hj2 hj3 hj4 rfl (by decide) _ _ _ rfl OR.own ⟨w10.heap.size, 0, none⟩ 1 1 [.slice yy.a yy.l.length yy.c] rfl rfl (cell_one_new _ _ _) (fun u hu => by obtain rfl := List.mem_singleton.1 hu; rfl) (by unfold maxLen; omega) (by omega) (by have := B10.size; simp; omega) ?_
                   intro v11 w11 own11 grow11 nil11 at11))
              all_goals
                have z10 := B10.size
                replace at11 : v11.ownBlock = u5.ownBlock ∨ v11.ownBlock = some (w10.alloc (.cells #[.slice yy.a yy.l.length yy.c] 34)).heap.size := at11
                replace grow11 : (w10.alloc (.cells #[.slice yy.a yy.l.length yy.c] 34)).grownBy w11 u5.ownBlock := grow11
                have hfr : ∀ g', yy.o = some g' → (∀ x' ∈ X', x'.o ≠ some g') ∧ u5.ownBlock ≠ some g' := fun g' hg' => by
                  have h1 := (hyyo.lt hg').2
                  refine ⟨fun x' hx' e => ?_, fun e => ?_⟩
                  · have := (HRi.out.ok x' hx').lt e; omega
                  · have := HVlt.out g' e; omega
                have BX : Below w10.heap.size w10 (w10.alloc (.cells #[.slice yy.a yy.l.length yy.c] 34)) := box_below
                have HR11 : Hid (RRows w11 w.heap.size v11 (X' ++ [yy])) := OR.app ((hyyo.below BX).low zwi) hfr own11 grow11 at11
                have zx : (w10.alloc (.cells #[.slice yy.a yy.l.length yy.c] 34)).heap.size = w10.heap.size + 1 := by simp
                have g11 := grow11.size
                have HK11 : Hid (∀ b, w7.heap.size ≤ b → b < w8.heap.size → w11.heap[b]? = w8.heap[b]?) := fun b h1 h2 =>
                  (grow11.block b (by omega) (fun e => by have := HVi.out b e.symm; omega)).trans ((BX.block b (by omega)).trans ((B10.block b (by omega)).trans (HKi.out b h1 h2)))
                have HV11 : Hid (∀ r, v11.ownBlock = some r → r < w7.heap.size ∨ w8.heap.size ≤ r) := fun r hr => by
                  rcases at11 with e | e
                  · exact HVi.out r (by rw [← e]; exact hr)
                  · rw [hr] at e; injection e with e; omega
                have HB11 : Hid (Below w.heap.size w w11) := (((hwi.then B10 zwi).then BX (by omega))).grown grow11 (by omega) (fun r e => (HVlt.out r e).1)
                have HS11 : Hid ((X' ++ [yy]).map (·.l) = turnsP n L k ++ ((turnsL n (L.eraseIdx k)).take (q + 1)).map (zg L k :: ·) ∧ AllSome (X' ++ [yy])) := by
                  refine ⟨?_, fun x' hx' => ?_⟩
                  · rw [List.map_append, HPi.out.1, HN1.out, List.map_append, List.append_assoc]
                    simp [HYY.out]
                  · rcases List.mem_append.1 hx' with hx' | hx'
                    · exact HPi.out.2 x' hx'
                    · obtain rfl := List.mem_singleton.1 hx'
                      have h1 : x'.l ≠ [] := by rw [HYY.out]; simp
                      rcases hyyo.what with ⟨_, e, _⟩ | ⟨g', e, _⟩
                      · exact absurd e h1
                      · exact ⟨g', e⟩
                have HX11 : Hid ((X' ++ [yy]).length ≤ 720 + (q + 1)) := by rw [Hid, List.length_append]; simp; omega
                have z11 : w8.heap.size ≤ w11.heap.size := by omega
                clear own11 grow11 nil11 at11 OR own10 grow10 nil10 at10 hyyo hyyb B10 BX hfr zx g11 OE BD c0 c2 c3 c4 CQ HN1 hj5 z10
                go_wp2
                go_roundw
                case rel => exact ⟨q + 1, _, X' ++ [yy], by omega, by go_num, rfl, HR11.out, HS11.out, HX11.out, HB11.out, HK11.out, HV11.out, z11⟩
                case measure => simp [intOf]; omega
            · have e : q = NY := by omega
              subst e
              have hL9 : (turnsL n (L.eraseIdx k)).length = q := by have := congrArg List.length HYL.out.1; simp at this; omega
              have hP9 : Hid (X'.map (·.l) = turnsP n L (k + 1) ∧ AllSome X') := ⟨by rw [HPi.out.1, turnsP_succ, ← hL9, List.take_length], HPi.out.2⟩
              clear hL9
              go_wp2
              go_roundw
              case rel => exact ⟨k + 1, _, X', by omega, by go_num, rfl, HRi.out, hP9.out, hwi⟩
              case measure => simp [intOf]; omega
      · have e : k = N := by omega
        subst e
        go_wp2
        go_ret
        exact ⟨_, X, rfl, HR.out, by rw [HP.out.1, turnsL_succ]; exact congrArg _ HL.out.symm, HP.out.2, hw⟩

end Go.Proofs.Ytkakdodamnnplaa
