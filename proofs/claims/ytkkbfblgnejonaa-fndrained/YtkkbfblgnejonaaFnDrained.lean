/- For every input that can be read the law FnDrained returns true, and what it was handed reads as before. The frame is the kit's; the opening of the arguments and the walk are ours. -/
import Derived.Test.YtkkbfblgnejonaaRows
import Derived.WalkKit
import Derived.ProofKit
import Derived.OpenShut
import Derived.ChangeOld
import Derived.Below
import Derived.Test.YtkkbfblgnejonaaNodeI
import Derived.Test.YtkkbfblgnejonaaNodeM3
import Derived.Test.YtkkbfblgnejonaaNodeDr
import Derived.Test.YtkkbfblgnejonaaBytesOpen
namespace Go.Proofs.Ytkkbfblgnejonaa.fnDrained
open Go.ChangeShapes Go.WideShapes Go.ChangeAt Go.RowKit
open Go.Sort
set_option linter.unusedVariables false

theorem own : ownKnob Try.prog.godebug = none := by kernel_rfl
theorem laidOut : laidOutB Try.prog = true := by kernel_rfl

set_option maxRecDepth 8000 in
set_option maxHeartbeats 8000000 in
theorem walk (a0 : Option Addr) (n0 cap0 : Nat) (z0 : List Int) (w : World) (w0 : IsBytes w a0 n0 cap0 z0) :
    Calls Try.prog 3 #[.slice a0 n0 cap0] w fun e w' => e = .returned (.bool true) ∧ Below w.heap.size w w' := by
  have hmx := w0.mx
  have hle := w0.le
  by_cases hn : n0 ≤ 4096
  · go_enter Try.func3, Try.ntmps3
    go_wp2_with fail
    refine (big_any a0 n0 cap0 _ false (by simpa using hn)).mono ?_
    rintro e w' ⟨rfl, hq⟩; have hq' := hq.symm; clear hq; subst hq'
    go_wp2_with fail
    refine (drawReady_any a0 n0 cap0 z0 _ w0 hn).mono ?_
    rintro e w1 ⟨g, c, g2, c2, ls, us, rfl, N1, U1⟩
    obtain ⟨N, hN⟩ : ∃ N, N = rdF ls us := ⟨_, rfl⟩
    have HN : Hid (rdF ls us = N) := hN.symm
    clear hN
    go_wp2_with fail
    refine (implReady_any _ _ _ _ _ _ ls us _ N1.toS N1.toI).mono ?_
    rw [HN.out]
    rintro e w2 ⟨rfl, hb2⟩
    have U2 := U1.then hb2 U1.size
    have N2 := N1.below hb2
    clear N1
    go_wp2_with fail
    refine (specReady_any _ _ _ _ _ _ ls us _ N2.toS N2.toI).mono ?_
    rw [HN.out]
    rintro e w3 ⟨rfl, hb3⟩
    have U3 := U2.then hb3 U2.size
    have N3 := N2.below hb3
    clear N2
    rcases hq : usB ls us with _ | _
    · have e1 : N = -1 := HN.out.symm.trans (rdF_f hq)
      subst e1
      go_wp2_with fail
      refine (specUsedOk_any _ _ _ _ _ _ ls us _ N3.toS N3.toI).mono ?_
      rw [hq]
      rintro e w4 ⟨rfl, hb4⟩
      go_wp2
      go_ret
      exact ⟨rfl, U3.then hb4 U3.size⟩
    · have uok := usB_t hq
      have bd := rdK_bd uok ls.length (Nat.le_refl _)
      have eN : N = rdK ls us ls.length := HN.out.symm.trans (rdF_t hq)
      have h1 := uok.ns.n1
      have h8 := uok.ns.n2
      have hul := uok.len
      rw [← eN] at bd
      clear eN hq
      have HUL : Hid (us.length = ls.length) := hul
      have hN0 : ¬ (N < 0) := by omega
      have h1' : (0 : Int) < (ls.length : Int) := by omega
      clear hul
      go_wp2_with fail
      refine (pick_any a0 n0 cap0 z0 1 (ls.length : Int) _ (w0.below U3) hn (by omega) (by omega) (by omega) (by omega)).mono ?_
      rintro e w' ⟨x, rfl, x0, x1, hq'⟩; have hq2 := hq'.symm; clear hq'; subst hq2
      obtain ⟨k, rfl⟩ := Int.eq_ofNat_of_zero_le x0
      have hk : k < ls.length := by omega
      have hku : k < us.length := by have := HUL.out; omega
      have hku' : (k : Int) < (us.length : Int) := by omega
      obtain ⟨i1, hj, hj0, hj1, hj2⟩ := info_parts infoNode
      have OE := World.ownsRow_made (base := w3.heap.size) (e := 32) (size := 2) w3 #[] 0 (Nat.le_refl _) (Nat.zero_le _) rfl
      have O3 := N3.own
      have hgl := O3.lt
      have HC : ∀ j u, (ndcells ls)[j]? = some u → (w3.alloc (.cells #[] 32)).cell? ((⟨g, 0, none⟩ : Addr).add j) = some u := by
        intro j u hju
        have := World.ownsRow.cells O3.own (g := g) rfl j u hju
        have hadd : (⟨g, 0, none⟩ : Addr).add j = ⟨g, j, none⟩ := by unfold Addr.add; split <;> simp_all
        rw [hadd] at this ⊢
        rw [World.cell?_alloc_lt _ _ _ O3.lt]
        exact this
      have hjl : (ndcells ls).length = ls.length * 2 := ndcells_len ls
      have hle4 := O3.le
      have hmx4 := O3.mx
      unfold maxLen at hmx4
      go_wp2_with (at_builtin; refine wpList_append_own_at _ rfl (.tmp 37) (.tmp 38) 24 rfl w3.heap.size 32 i1 (.agg #[.int .i64 0, .int .i64 0]) 2 16 Try.underlying24 hj hj0 hj1 hj2 rfl (by decide) _ _ _ rfl OE ⟨g, 0, none⟩ ls.length c (ndcells ls) ?eb hjl HC (ndcells_one _) (by unfold maxLen; omega) (by omega) (by simp) ?_)
      case eb => rfl
      intro v5 w5 own5 grow5 nil5 at5
      obtain ⟨g6, c6, rfl, O6⟩ := ownNode_of (ys := ls) own5 (by simp) (by simp) (by first | exact nil5 | exact fun e => nomatch (nil5.1 e).1)
      have B5 : Below w3.heap.size w3 w5 := box_below0.grown grow5 (by simp) (fun r e => by simp [Value.ownBlock] at e; omega)
      have hg6 := O6.base
      have N5 := N3.below B5
      clear own5 grow5 nil5 at5 OE HC O3
      obtain ⟨s0, s1⟩ := O6.cell (i := k) (f := 1) hk (by omega)
      have O7 := O6.store (i := k) (f := 1) hk (by omega) 2
      change OwnNode _ _ _ _ (drn ls k) at O7
      have hne : g ≠ g6 := by omega
      have B7 : Below w3.heap.size w3 (w5.setCell ⟨g6, k * 2 + 1, none⟩ (.int .i64 2)) := B5.setCell (by show w3.heap.size ≤ g6; exact hg6) _
      have N7 : NuA (w5.setCell ⟨g6, k * 2 + 1, none⟩ (.int .i64 2)) w.heap.size g c g2 c2 ls us := N3.below B7
      have U5 : Below w.heap.size w (w5.setCell ⟨g6, k * 2 + 1, none⟩ (.int .i64 2)) := U3.then B7 U3.size
      obtain ⟨q0, _⟩ := N7.own.cell (i := k) (f := 0) hk (by omega)
      obtain ⟨q1, _⟩ := N7.own.cell (i := k) (f := 1) hk (by omega)
      simp only [Nat.add_zero] at q0
      have I5 := N7.toI
      have X5 : NodeS (w5.setCell ⟨g6, k * 2 + 1, none⟩ (.int .i64 2)) (some ⟨g6, 0, none⟩) ls.length c6 (drn ls k) := by
        have := O7.toS (fun i hi => by
          rw [drn_len] at hi
          rw [drn_g hk]
          split
          · intro cc hcc
            have h9 := N7.small.at_ hk
            have q := h9 0 (by omega)
            rcases cc with _ | _ | cc
            · exact ⟨by show -9223372036854775808 ≤ (ndg ls k).cores; have : ndc (ndg ls k) 0 = (ndg ls k).cores := rfl; omega, by show (ndg ls k).cores ≤ 9223372036854775807; have : ndc (ndg ls k) 0 = (ndg ls k).cores := rfl; omega⟩
            · exact ⟨by show (-9223372036854775808 : Int) ≤ 2; omega, by show (2 : Int) ≤ 9223372036854775807; omega⟩
            · omega
          · exact N7.small.wf i hi)
        rwa [drn_len] at this
      obtain ⟨bi, oi, ei, hbi, hui⟩ := I5.at_ (by omega)
      injection ei with ei; injection ei with e1 e2; subst e1; subst e2
      have q2 := hui k hku
      rw [Nat.zero_add] at q2
      have RX := drn_rdF uok hk
      rw [HN.out] at RX
      have u1 := uok.us k hk
      have u2 := (nOk_t (uok.ns.ok k hk)).1
      clear N7 N5 N3 O6 O7 B5 B7 hjl hj hj0 hj1 hj2 hui
      by_cases hs : (ndg ls k).state = 1
      · rw [if_pos hs] at RX
        change _ = some (Value.int .i64 (ndg ls k).state) at q1
        change _ = some (Value.int .i64 (ndg ls k).cores) at q0
        rw [hs] at q1
        have wc : IntKind.i64.wrap ((ndg ls k).cores - zg us k) = (ndg ls k).cores - zg us k := by rw [IntKind.wrap_i64]; omega
        go_wp2_with fail
        go_region
        have BD : Below (w5.setCell ⟨g6, k * 2 + 1, none⟩ (.int .i64 2)).heap.size (w5.setCell ⟨g6, k * 2 + 1, none⟩ (.int .i64 2)) (w5.setCell ⟨g6, k * 2 + 1, none⟩ (.int .i64 2)).drew := (Below.refl _ _).drewN 1
        replace X5 := X5.below BD
        replace I5 := I5.below BD
        replace U5 := U5.then BD U5.size
        have wM : IntKind.i64.wrap (N - ((ndg ls k).cores - zg us k)) = N - ((ndg ls k).cores - zg us k) := by rw [IntKind.wrap_i64]; omega
        go_wp2_with fail
        refine (implReady_any _ _ _ _ _ _ (drn ls k) us _ X5 I5).mono ?_
        rw [RX]
        rintro e w6 ⟨rfl, hb6⟩
        have U6 := U5.then hb6 U5.size
        go_wp2_with fail
        refine (implPicked_any _ _ _ _ _ _ (drn ls k) us (N - ((ndg ls k).cores - zg us k)) _ (X5.below hb6) (I5.below hb6)).mono ?_
        rintro e w7 ⟨v, np, cp, b, rfl, hb7, pk⟩
        have U7 := U6.then hb7 U6.size
        obtain ⟨eb, en, hL⟩ := pk.lst
        clear pk
        rw [pkF_all RX] at eb
        obtain ⟨hy8, hwf⟩ := pkl_ok (drn ls k) us (N - ((ndg ls k).cores - zg us k))
        have hnode : ∀ j, j < (pkl (drn ls k) us (N - ((ndg ls k).cores - zg us k))).length → (ptg (pkl (drn ls k) us (N - ((ndg ls k).cores - zg us k))) j).node ≠ (k : Int) := fun j hj => drn_node uok hk hj
        obtain ⟨ps, hps⟩ : ∃ ps, ps = pkl (drn ls k) us (N - ((ndg ls k).cores - zg us k)) := ⟨_, rfl⟩
        rw [← hps] at en hL hy8 hwf hnode
        clear hps RX
        subst en
        subst eb
        have HP : Hid (PartS w7 v ps.length cp ps) := hL.toS hwf
        have HNd : Hid (∀ j, j < ps.length → (ptg ps j).node ≠ (k : Int)) := hnode
        clear hL hwf hnode X5 I5 hb6 hb7
        go_wp2_with fail
        go_loop [11] (fun i => ∃ m : Nat, m ≤ ps.length ∧ i = .int .i64 m) (fun i => ps.length - (intOf i).toNat)
        case atStart => exact ⟨0, by omega, rfl⟩
        case round =>
          obtain ⟨m, hm, rfl⟩ := hrel
          by_cases hlt : m < ps.length
          · have hlt' : (m : Int) < (ps.length : Int) := by omega
            obtain ⟨bb, off, rfl, hbw, hat⟩ := HP.out.at_ (by omega)
            obtain ⟨p0, p1⟩ := hat.row (i := m) hlt
            have hne := HNd.out m hlt
            go_wp2
            go_round
            case rel => exact ⟨m + 1, by omega, by go_num⟩
            case measure => simp [intOf]; omega
          · obtain rfl : m = ps.length := by omega
            by_cases hM : 0 < N - ((ndg ls k).cores - zg us k)
            · go_wp2
              go_ret
              exact ⟨ret_bool (by first | (simp; done) | simp [hM]), U7⟩
            · go_wp2
              go_ret
              exact ⟨ret_bool (by first | (simp; done) | simp [hM]), U7⟩
      · rw [if_neg hs] at RX
        rw [Int.sub_zero] at RX
        change _ = some (Value.int .i64 (ndg ls k).state) at q1
        have wM : IntKind.i64.wrap (N) = N := by rw [IntKind.wrap_i64]; omega
        go_wp2_with fail
        refine (implReady_any _ _ _ _ _ _ (drn ls k) us _ X5 I5).mono ?_
        rw [RX]
        rintro e w6 ⟨rfl, hb6⟩
        have U6 := U5.then hb6 U5.size
        go_wp2_with fail
        refine (implPicked_any _ _ _ _ _ _ (drn ls k) us (N) _ (X5.below hb6) (I5.below hb6)).mono ?_
        rintro e w7 ⟨v, np, cp, b, rfl, hb7, pk⟩
        have U7 := U6.then hb7 U6.size
        obtain ⟨eb, en, hL⟩ := pk.lst
        clear pk
        rw [pkF_all RX] at eb
        obtain ⟨hy8, hwf⟩ := pkl_ok (drn ls k) us (N)
        have hnode : ∀ j, j < (pkl (drn ls k) us (N)).length → (ptg (pkl (drn ls k) us (N)) j).node ≠ (k : Int) := fun j hj => drn_node uok hk hj
        obtain ⟨ps, hps⟩ : ∃ ps, ps = pkl (drn ls k) us (N) := ⟨_, rfl⟩
        rw [← hps] at en hL hy8 hwf hnode
        clear hps RX
        subst en
        subst eb
        have HP : Hid (PartS w7 v ps.length cp ps) := hL.toS hwf
        have HNd : Hid (∀ j, j < ps.length → (ptg ps j).node ≠ (k : Int)) := hnode
        clear hL hwf hnode X5 I5 hb6 hb7
        go_wp2_with fail
        go_loop [11] (fun i => ∃ m : Nat, m ≤ ps.length ∧ i = .int .i64 m) (fun i => ps.length - (intOf i).toNat)
        case atStart => exact ⟨0, by omega, rfl⟩
        case round =>
          obtain ⟨m, hm, rfl⟩ := hrel
          by_cases hlt : m < ps.length
          · have hlt' : (m : Int) < (ps.length : Int) := by omega
            obtain ⟨bb, off, rfl, hbw, hat⟩ := HP.out.at_ (by omega)
            obtain ⟨p0, p1⟩ := hat.row (i := m) hlt
            have hne := HNd.out m hlt
            go_wp2
            go_round
            case rel => exact ⟨m + 1, by omega, by go_num⟩
            case measure => simp [intOf]; omega
          · obtain rfl : m = ps.length := by omega
            by_cases hM : 0 < N
            · go_wp2
              go_ret
              exact ⟨ret_bool (by first | (simp; done) | simp [hM]), U7⟩
            · go_wp2
              go_ret
              exact ⟨ret_bool (by first | (simp; done) | simp [hM]), U7⟩
  · have c0 : decide (4096 < n0) = true := by simpa using hn
    go_enter Try.func3, Try.ntmps3
    go_wp2_with fail
    refine (big_any a0 n0 cap0 _ true c0.symm).mono ?_
    rintro e w' ⟨rfl, hq⟩; have hq' := hq.symm; clear hq; subst hq'
    go_wp2
    go_ret
    exact ⟨rfl, Below.refl _ _⟩

set_option maxRecDepth 100000 in
theorem lifted (os : Os) (started : os.Started) (H : Type) (enc : TypeId × Value → H) :
    ReturnsInHanded {} Try.checked os 3 .any (Rows.fnDrainedSpec.pre6 enc Try.prog Try.f3 Rows.fnDrainedRow.domain false) (Rows.fnDrainedSpec.post enc Try.prog Try.f3 false true false false) := by
  refine returnsInHanded_of_change (C := Try.checked) own started (by kernel_rfl) Try.func3
    (ChangeSpec.witness6 (enc := enc) (C := Try.checked) false ⟨#[], #[.slice none 0 0], []⟩ 8 (by kernel_rfl) (by kernel_rfl) (by kernel_rfl) (by kernel_rfl)) ?_
  intro W base args ds gs before hval0 hW hcnd _
  have hval : ∀ (j : Nat) t v, Try.f3.params[j]? = some t → args[j]? = some v → Value.okWide Try.prog W .any base t v := hval0
  have hW' := hW
  obtain ⟨p, q, hA0, hV, rfl, hfz, hnd⟩ := hW
  have hA : DataW.TrodAll enc Try.prog W 0 (fun _ => true) true Try.f3.params.toList args.toList ds p := hA0
  rw [Try.params3] at hA hval
  obtain ⟨v0, vs0, d0, ds0, p0, q0, hargs, rfl, rfl, h0, r0⟩ := trodAll_cons hA
  obtain ⟨rfl, rfl, rfl⟩ := trodAll_nil r0
  obtain rfl : args = #[v0] := by cases args; simp_all
  obtain ⟨rfl, rfl⟩ := trodVars_none hV
  have k0 := h0
  have lt0 : ∀ x ∈ p0, x.block < W.heap.size := by obtain ⟨m, hm⟩ := k0; exact DataW.trod_lt m _ _ _ hm
  obtain ⟨a0, n0, cap0, z0, rfl, w0⟩ := open_bytes (hval 0 22 v0 rfl rfl) h0
  clear hA0 hval0
  refine (walk a0 n0 cap0 z0 W w0).mono fun e W' ⟨he, bel⟩ => ?_
  subst he
  exact ⟨_, rfl, _, _, _, [], _, [], hW', trodAll_mk1 (shut_bool Try.underlying4 _), (trodAll_cons_mk (Below.trod laidOut (by kernel_rfl) (of_decide_eq_true (by kernel_rfl)) k0 bel lt0) trodAll_mk0), rfl, bel.frame _, fun h => by cases h⟩

theorem over : Rows.fnDrainedRow.holds Try.pinned (OpenSpec.ofChange Rows.fnDrainedSpec) :=
  OpenClaim.holds_of_wide 3 Try.f3 rfl rfl rfl rfl rfl rfl rfl ⟨rfl, rfl, rfl, rfl, rfl⟩ rfl rfl rfl rfl rfl (by kernel_rfl) Try.func3 (by kernel_rfl)
    (of_decide_eq_true (by kernel_rfl)) (by unfold Func.isWrapper; first | (rw [if_pos (by decide +kernel)]; kernel_rfl) | (rw [if_neg (by decide +kernel)]; exact ⟨rfl, rfl⟩))
    (fun os started H enc _ => lifted os started H enc)

/-- the given statement -/
theorem proved : Rows.FnDrainedSaid := over
#print axioms proved
end Go.Proofs.Ytkkbfblgnejonaa.fnDrained
