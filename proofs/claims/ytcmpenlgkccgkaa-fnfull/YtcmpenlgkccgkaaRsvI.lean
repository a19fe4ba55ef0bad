/- The program's changed, and Reserve. -/
import Derived.Test.YtcmpenlgkccgkaaJoinN
import Derived.Test.YtcmpenlgkccgkaaPkB
import Derived.Test.YtcmpenlgkccgkaaPkC
import Derived.Deep.RegionHeld3
import Derived.Deep.Cut
import Derived.Deep.CutRange
namespace Go.Proofs.Ytcmpenlgkccgkaa
open Go.RowKit

/-- told alike whether it can be or not -/
def RsU (w w' : World) (T : Int) (L : List Lev) (e : Ending) : Prop := ∃ (T' : Int) (v : Option Addr) (n' c' : Nat) (b : Bool), e = .returned (.tuple #[.agg #[.int .i64 T', .slice v n' c'], .bool b]) ∧ Below w.heap.size w w' ∧ b = poB T L ∧
  (b = true → ∃ g : Nat, T' = T ∧ v = some ⟨g, 0, none⟩ ∧ n' = L.length ∧ w.heap.size ≤ g ∧ L.length ≤ c' ∧ c' ≤ maxLen ∧ LevD w' g L.length c' L) ∧ (b = false → T' = 0 ∧ v = none ∧ n' = 0 ∧ c' = 0)

/-- the first k of l are changed -/
def upK (more : Int) (l : List Lev) (k : Nat) : List Lev := upL more (l.take k) ++ l.drop k
theorem upK_0 (more : Int) (l : List Lev) : upK more l 0 = l := by simp [upK, upL]
theorem upK_all (more : Int) (l : List Lev) : upK more l l.length = upL more l := by simp [upK]
theorem upK_len (more : Int) (l : List Lev) (k : Nat) : (upK more l k).length = l.length := by
  unfold upK; rw [List.length_append, upL_len, List.length_take, List.length_drop]; omega
theorem upK_get (more : Int) (l : List Lev) (k i : Nat) (hk : k ≤ l.length) (_hi : i < l.length) : fr (upK more l k) i = fr l i ∧ fe (upK more l k) i = if i < k then fe l i + more else fe l i := by
  by_cases c : i < k
  · rw [if_pos c]
    have h1 : i < (l.take k).length := by rw [List.length_take]; omega
    have h2 : i < (upL more (l.take k)).length := by rw [upL_len]; exact h1
    unfold upK
    rw [fr_app_l h2, fe_app_l h2, upL_fr h1, upL_fe h1]
    unfold fr fe
    rw [List.getElem?_take_of_lt c]
    exact ⟨rfl, rfl⟩
  · rw [if_neg c]
    unfold upK fr fe
    have h2 : (upL more (l.take k)).length = k := by rw [upL_len, List.length_take]; omega
    rw [List.getElem?_append_right (by omega), h2, List.getElem?_drop, show k + (i - k) = i by omega]
    exact ⟨rfl, rfl⟩

theorem LevB.up {w : World} {B m : Nat} {l : List Lev} {more : Int} {k : Nat} (h : LevB w B m m (upK more l k)) (hl : l.length = m) (hk : k < m) :
    LevB (w.setCell ⟨B, k * 2 + 1, none⟩ (.int .i64 (fe l k + more))) B m m (upK more l (k + 1)) := by
  obtain ⟨cur, h1, h2, h3⟩ := h
  refine ⟨_, blk_set h1 _, by simp [h2], fun i hi => ?_⟩
  simp only [Array.getElem?_setIfInBounds]
  obtain ⟨a1, a2⟩ := upK_get more l k i (by omega) (by omega)
  obtain ⟨b1, b2⟩ := upK_get more l (k + 1) i (by omega) (by omega)
  obtain ⟨c1, c2⟩ := h3 i hi
  rw [a1] at c1; rw [a2] at c2; rw [b1, b2]
  by_cases e : i = k
  · subst e
    rw [if_neg (by omega), if_pos rfl, if_pos (by omega), if_pos (by omega)]
    exact ⟨c1, rfl⟩
  · rw [if_neg (by omega), if_neg (by omega)]
    refine ⟨c1, c2.trans ?_⟩
    by_cases c : i < k
    · rw [if_pos c, if_pos (by omega)]
    · rw [if_neg c, if_neg (by omega)]

/-- the boxes of the call, the middle in a row of its own, its first k changed -/
structure ChW (w W : World) (T : Int) (a : Option Addr) (n cap B m : Nat) (more : Int) (l : List Lev) (k : Nat) : Prop where
  bel : Below w.heap.size w W
  box : W.heap[w.heap.size]? = some (.cells #[.int .i64 T, .slice a n cap] 38 (0, 0))
  res : W.heap[w.heap.size + 1]? = some (.cells #[.int .i64 0, .slice none 0 0] 38 (0, 0))
  lev : LevB W B m m (upK more l k)
  b2 : w.heap.size + 2 ≤ B
theorem ChW.below {w W W' : World} {T : Int} {a : Option Addr} {n cap B m : Nat} {more : Int} {l : List Lev} {k : Nat} (h : ChW w W T a n cap B m more l k) (hb : Below W.heap.size W W') : ChW w W' T a n cap B m more l k :=
  ⟨h.bel.then hb h.bel.size, (hb.block _ (lt_of_block h.box)).trans h.box, (hb.block _ (lt_of_block h.res)).trans h.res, by obtain ⟨cur, h1, h2⟩ := h.lev; exact ⟨cur, (hb.block _ (lt_of_block h1)).trans h1, h2⟩, h.b2⟩
theorem ChW.put {w W : World} {T : Int} {a : Option Addr} {n cap B m : Nat} {more : Int} {l : List Lev} {k : Nat} (h : ChW w W T a n cap B m more l k) (hl : l.length = m) (hk : k < m) :
    ChW w (W.setCell ⟨B, k * 2 + 1, none⟩ (.int .i64 (fe l k + more))) T a n cap B m more l (k + 1) := by
  have hb2 := h.b2
  refine ⟨h.bel.setCell (show w.heap.size ≤ B by omega) _, (Below.heap_setCell _ _ _ _ (show w.heap.size ≠ B by omega)).trans h.box, (Below.heap_setCell _ _ _ _ (show w.heap.size + 1 ≠ B by omega)).trans h.res, h.lev.up hl hk, hb2⟩
theorem ChW.cell {w W : World} {T : Int} {a : Option Addr} {n cap B m : Nat} {more : Int} {l : List Lev} {k : Nat} (h : ChW w W T a n cap B m more l k) (hl : l.length = m) (hk : k < m) :
    W.cell? ⟨B, k * 2 + 1, none⟩ = some (.int .i64 (fe l k)) ∧ W.frozen? ⟨B, k * 2 + 1, none⟩ = false := by
  obtain ⟨cur, h1, h2, h3⟩ := h.lev
  obtain ⟨c1, c2⟩ := h3 k hk
  obtain ⟨a1, a2⟩ := upK_get more l k k (by omega) (by omega)
  rw [a2, if_neg (by omega)] at c2
  exact ⟨by simp [World.cell?, h1, c2], by simp [World.frozen?, h1]⟩

theorem ChW.cellAt {w W : World} {T : Int} {a : Option Addr} {n cap B m : Nat} {more : Int} {l : List Lev} {k : Nat} (h : ChW w W T a n cap B m more l (k + 1)) (hl : l.length = m) (hk : k < m) :
    W.cell? ⟨B, k * 2 + 1, none⟩ = some (.int .i64 (fe l k + more)) := by
  obtain ⟨cur, h1, h2, h3⟩ := h.lev
  obtain ⟨c1, c2⟩ := h3 k hk
  obtain ⟨a1, a2⟩ := upK_get more l (k + 1) k (by omega) (by omega)
  rw [a2, if_pos (by omega)] at c2
  simp [World.cell?, h1, c2]

theorem cpd_wfB {T : Int} {ls : List Lev} (po : PO T ls) {x y : Int} (ha : 0 ≤ x) (hb : y ≤ 1000000000) : ∀ i, i < (cpd ls x y).length → (-9223372036854775808 ≤ fr (cpd ls x y) i ∧ fr (cpd ls x y) i ≤ 9223372036854775807) ∧ (-9223372036854775808 ≤ fe (cpd ls x y) i ∧ fe (cpd ls x y) i ≤ 9223372036854775807) := fun i hi => by
  have h := po.cpd_mem ha hb (List.getElem_mem hi)
  rw [get_fr hi, get_fe hi] at h
  have := po.t1
  omega
theorem upL_wfB {T : Int} {ls : List Lev} (po : PO T ls) {x y more : Int} (hm : -1000 ≤ more ∧ more ≤ 1000) (ha : 0 ≤ x) (hb : y ≤ 1000000000) : ∀ i, i < (upL more (cpd ls x y)).length → (-9223372036854775808 ≤ fr (upL more (cpd ls x y)) i ∧ fr (upL more (cpd ls x y)) i ≤ 9223372036854775807) ∧ (-9223372036854775808 ≤ fe (upL more (cpd ls x y)) i ∧ fe (upL more (cpd ls x y)) i ≤ 9223372036854775807) := fun i hi => by
  rw [upL_len] at hi
  rw [upL_fr hi, upL_fe hi]
  have h := po.cpd_mem ha hb (List.getElem_mem hi)
  rw [get_fr hi, get_fe hi] at h
  have := po.t1
  omega

theorem joined3_any (T : Int) (b : Nat) (ty : TypeId) (A B C : List Lev) (a1 a2 a3 : Option Addr) (n1 c1 n2 c2 n3 c3 : Nat) (w : World) (hb : w.heap[b]? = some (.cells #[.slice a1 n1 c1, .slice a2 n2 c2, .slice a3 n3 c3] ty (0, 0)))
    (h1 : LevS w a1 n1 c1 A) (h2 : LevS w a2 n2 c2 B) (h3 : LevS w a3 n3 c3 C) (hA : A.length ≤ 200) (hB : B.length ≤ 200) (hC : C.length ≤ 200) (h0 : 0 < (joinL [] (A ++ (B ++ C))).length) :
    Calls Try.prog 48 #[.int .i64 T, .slice (some ⟨b, 0, none⟩) 3 3] w fun e w' => ∃ (T' : Int) (v : Option Addr) (n' c' : Nat) (bb : Bool), e = .returned (.tuple #[.agg #[.int .i64 T', .slice v n' c'], .bool bb]) ∧ Below w.heap.size w w' ∧ bb = decide ((joinL [] (A ++ (B ++ C))).length ≤ 200) ∧
      (bb = true → ∃ g : Nat, T' = T ∧ v = some ⟨g, 0, none⟩ ∧ n' = (joinL [] (A ++ (B ++ C))).length ∧ w.heap.size ≤ g ∧ (joinL [] (A ++ (B ++ C))).length ≤ c' ∧ c' ≤ maxLen ∧ LevD w' g (joinL [] (A ++ (B ++ C))).length c' (joinL [] (A ++ (B ++ C)))) ∧ (bb = false → T' = 0 ∧ v = none ∧ n' = 0 ∧ c' = 0) := by
  have e : [A, B, C].flatten = A ++ (B ++ C) := by simp
  refine (joinedN_any T b 0 3 [A, B, C] w rfl (by omega) (lt_of_block hb) (fun k hk => ?_) (fun k hk => ?_)).mono ?_
  · have hk' : k < 3 := hk
    obtain rfl | rfl | rfl : k = 0 ∨ k = 1 ∨ k = 2 := by omega
    · show A.length ≤ 1000; omega
    · show B.length ≤ 1000; omega
    · show C.length ≤ 1000; omega
  · obtain rfl | rfl | rfl : k = 0 ∨ k = 1 ∨ k = 2 := by omega
    · exact ⟨a1, n1, c1, by simp [World.cell?, hb], h1⟩
    · exact ⟨a2, n2, c2, by simp [World.cell?, hb], h2⟩
    · exact ⟨a3, n3, c3, by simp [World.cell?, hb], h3⟩
  · rw [e]
    rintro e' w' ⟨hb', hs, hg⟩
    by_cases c : (joinL [] (A ++ (B ++ C))).length ≤ 200
    · obtain ⟨v, rfl, own⟩ := hs c
      obtain ⟨g, cap, rfl, g1, g2, g3, g4⟩ := own_levD own h0
      exact ⟨T, _, _, _, true, rfl, hb', (decide_eq_true c).symm, fun _ => ⟨g, rfl, rfl, rfl, g1, g2, g3, g4⟩, fun h => by cases h⟩
    · exact ⟨0, none, 0, 0, false, hg (by omega), hb', (decide_eq_false c).symm, (fun h => by cases h), fun _ => ⟨rfl, rfl, rfl, rfl⟩⟩

theorem most_any (m : Int) (hm : 0 ≤ m ∧ m ≤ 1000) (w : World) : Calls Try.prog 99 #[.int .i64 m] w fun e w' => e = .returned (.int .i64 m) ∧ w' = w := by
  have e : min m 1001 = m := by omega
  go_enter Try.func99, Try.ntmps99
  go_wp2
  go_ret
  exact ⟨rfl, rfl⟩

set_option maxRecDepth 8000 in
set_option maxHeartbeats 4000000 in
theorem changed_any (T x y more : Int) (a : Option Addr) (n cap : Nat) (ls : List Lev) (w : World) (h : LevS w a n cap ls) (po : PO T ls) (hx : 0 ≤ x) (hxy : x < y) (hy : y ≤ 1000000000) (hm : -1000 ≤ more ∧ more ≤ 0) :
    Calls Try.prog 98 #[.agg #[.int .i64 T, .slice a n cap], .int .i64 x, .int .i64 y, .int .i64 more] w fun e w' => RsU w w' T (cutL ls x y more) e := by
  have hx1 : okB x = true := inB_mk ⟨by omega, by omega⟩
  have hy1 : okB y = true := inB_mk ⟨by omega, by omega⟩
  have hlen := h.len
  obtain ⟨W0, hW0⟩ : ∃ W0, W0 = (w.alloc (.cells #[.int .i64 T, .slice a n cap] 38)).alloc (.cells #[.int .i64 0, .slice none 0 0] 38) := ⟨_, rfl⟩
  have B0 : Below w.heap.size w W0 := by rw [hW0]; exact box_below.alloc (by simp) _
  have z0 : w.heap.size + 2 ≤ W0.heap.size := by rw [hW0]; simp
  have P0 : W0.heap[w.heap.size]? = some (.cells #[.int .i64 T, .slice a n cap] 38 (0, 0)) := by rw [hW0]; exact (Below.heap_alloc _ _ _ (by simp)).trans (heap_alloc_new _ _)
  have R0 : W0.heap[w.heap.size + 1]? = some (.cells #[.int .i64 0, .slice none 0 0] 38 (0, 0)) := by rw [hW0]; exact new_at _ _ _ (by simp)
  have hdc : decide (y ≤ x) = false := decide_eq_false (by omega)
  have hyx : ¬ y ≤ x := by omega
  go_enter Try.func98, Try.ntmps98
  go_wp2_with fail
  rw [← hW0]
  clear hW0
  refine (copied_any T x y a n cap ls _ (h.below B0) po hx1 hy1).mono ?_
  rintro e w1 ⟨B, m, rfl, hB, LB, hl, hm2, hb1⟩
  have C1 : ChW w w1 T a n cap B m more (cpd ls x y) 0 := ⟨B0.then hb1 B0.size, (hb1.block _ (lt_of_block P0)).trans P0, (hb1.block _ (lt_of_block R0)).trans R0, by rw [upK_0]; exact LB, by omega⟩
  clear LB P0 R0
  have HC1 : Hid _ := C1
  clear C1
  have hU : ∀ W, Below w.heap.size w W → LevS W a n cap ls := fun W hb => h.below hb
  have LL : Hid (∀ W, Below w.heap.size w W → LevS W a n cap ls) := hU
  clear hU h
  go_wp2_with fail
  go_loopw [30] (fun i wr => ∃ k : Nat, k ≤ m ∧ i = .int .i64 k ∧ Hid (midOk T (cpd ls x y) more k) ∧ Hid (ChW w wr T a n cap B m more (cpd ls x y) k)) (fun i _ => m - (intOf i).toNat)
  case atStart => exact ⟨0, by omega, rfl, fun i hi => by omega, HC1.out⟩
  case round =>
    obtain ⟨k, hk, rfl, hmid, hC⟩ := hrel
    rename World => wr
    clear HC1
    by_cases hlt : k < m
    · obtain ⟨g0, f0⟩ := hC.out.cell hl hlt
      have hP := hC.out.put hl hlt
      have hel := po.cpd_mem hx hy (List.getElem_mem (show k < (cpd ls x y).length by omega))
      rw [get_fr, get_fe] at hel
      have hlt' : (k : Int) < (m : Int) := by omega
      have ht1 := po.t1
      obtain ⟨u, hu⟩ : ∃ u, u = fe (cpd ls x y) k := ⟨_, rfl⟩
      have HUU : Hid (u = fe (cpd ls x y) k) := hu
      rw [← hu] at hel g0 hP
      clear hu
      have hub : 0 ≤ u ∧ u ≤ T := ⟨hel.2.2.2.1, hel.2.2.2.2⟩
      clear hel
      have hwv : IntKind.i64.wrap (u + more) = u + more := by rw [IntKind.wrap_i64]; omega
      have HP : Hid _ := hP
      clear hP
      go_upto_region 8 with fail
      have hP := HP.out
      generalize wr.setCell ⟨B, k * 2 + 1, none⟩ (.int .i64 (u + more)) = W2 at hP ⊢
      clear HP g0 f0
      have q0 := hP.cellAt hl hlt
      rw [← HUU.out] at q0
      obtain ⟨p0, p1, _, _⟩ := boxed hP.box
      obtain ⟨r0, r1, f0, f1⟩ := boxed hP.res
      obtain ⟨v, hv⟩ : ∃ v, v = u + more := ⟨_, rfl⟩
      rw [← hv] at q0
      have HV : Hid (v = u + more) := hv
      have HBAD : Hid (¬ (0 ≤ v ∧ v ≤ T) → poB T (cutL ls x y more) = false) := fun h9 => cut_bad po hx hxy hy (i := k) (by omega) (by rw [← HUU.out, ← HV.out]; exact h9)
      clear hwv hv
      have HR := hP.res
      have HRr : Hid _ := HR
      have HBl := hP.bel
      clear HR
      by_cases hv0 : v < 0
      · have hb : poB T (cutL ls x y more) = false := HBAD.out (by omega)
        go_quiet (fail)
        go_wp2
        have hg := Proofs.Ytcmpenlgkccgkaa.set2 (W := W2.drewN nq) HRr.out (.int .i64 0) (.slice none 0 0)
        refine bodyPost_ret (results_box2 (p := 8) (u := 9) rfl _ _ (w.heap.size + 1) _ _ _ _ rfl hg.1 Try.underlying38 rfl sized26 _ rfl) rfl ?_
        exact ⟨0, none, 0, 0, false, rfl, ((HBl.drewN _).setCell (by simp) _).setCell (by simp) _, hb.symm, (fun h => by cases h), fun _ => ⟨rfl, rfl, rfl, rfl⟩⟩
      · by_cases hvT : T < v
        · have hb : poB T (cutL ls x y more) = false := HBAD.out (by omega)
          go_quiet (fail)
          go_wp2
          have hg := Proofs.Ytcmpenlgkccgkaa.set2 (W := W2.drewN nq) HRr.out (.int .i64 0) (.slice none 0 0)
          refine bodyPost_ret (results_box2 (p := 8) (u := 9) rfl _ _ (w.heap.size + 1) _ _ _ _ rfl hg.1 Try.underlying38 rfl sized26 _ rfl) rfl ?_
          exact ⟨0, none, 0, 0, false, rfl, ((HBl.drewN _).setCell (by simp) _).setCell (by simp) _, hb.symm, (fun h => by cases h), fun _ => ⟨rfl, rfl, rfl, rfl⟩⟩
        · have HM : Hid (midOk T (cpd ls x y) more (k + 1)) := fun i hi => by
            by_cases e : i = k
            · subst e; rw [← HUU.out, ← HV.out]; omega
            · exact hmid.out i (by omega)
          have HPk : Hid _ := hP
          clear hP
          go_quiet (fail)
          go_wp2
          go_roundw
          case rel => exact ⟨k + 1, by omega, by go_num, HM, HPk.out.below ((Below.refl _ _).drewN _)⟩
          case measure => simp [intOf]; omega
    · obtain rfl : k = m := by omega
      rw [← hl] at hmid
      have E := cut_ok po hx hxy hy hmid.out
      have RC := raw_cut po (more := more) hx hxy hy
      have HE : Hid _ := E
      clear E hmid
      have n0 : 0 < (joinL [] (cpd ls 0 x ++ (upL more (cpd ls x y) ++ cpd ls y 1000000000))).length := by
        show 0 < (joinL [] (rawR ls x y more)).length
        rw [RC]
        rcases Nat.eq_zero_or_pos (cutL ls x y more).length with z | z
        · have z0' := List.eq_nil_of_length_eq_zero z
          have v1 := cutL_val po (y := y) (more := more) (d := freeC ls x y more 0 + 1) (τ := 0) hx (by omega) (by omega) (by omega)
          rw [z0'] at v1
          have : freeC ls x y more 0 + 1 = freeC ls x y more 0 := v1
          omega
        · exact z
      have HRC : Hid (joinL [] (cpd ls 0 x ++ (upL more (cpd ls x y) ++ cpd ls y 1000000000)) = cutL ls x y more) := RC
      have HN0 : Hid _ := n0
      clear RC n0
      have hB2 := hC.out.b2
      have SM : LevS wr (some ⟨B, 0, none⟩) k k (upL more (cpd ls x y)) := by
        have h9 := hC.out.lev
        have e9 : upK more (cpd ls x y) k = upL more (cpd ls x y) := by rw [← hl]; exact upK_all _ _
        rw [e9] at h9
        exact h9.toS (by rw [upL_len]; exact hl) (by omega) (fun i hi => upL_wfB po (by omega) hx hy i (by rw [upL_len]; omega))
      obtain ⟨p0, p1, _, _⟩ := boxed hC.out.box
      have zB := hC.out.bel.size
      have zb2 := lt_of_block hC.out.res
      have KR : Hid (∀ W, Below wr.heap.size wr W → W.heap[w.heap.size + 1]? = some (.cells #[.int .i64 0, .slice none 0 0] 38 (0, 0)) ∧ Below w.heap.size w W) := fun W hW => ⟨(hW.block _ zb2).trans hC.out.res, hC.out.bel.then hW zB⟩
      have HKK : Hid (∀ W, Below wr.heap.size wr W → (W.cell? ⟨w.heap.size, 0, none⟩ = some (.int .i64 T) ∧ W.cell? ⟨w.heap.size, 1, none⟩ = some (.slice a n cap) ∧ Below w.heap.size w W)) := fun W hW => by
        obtain ⟨q0, q1, _, _⟩ := boxed ((hW.block _ (lt_of_block hC.out.box)).trans hC.out.box)
        exact ⟨q0, q1, hC.out.bel.then hW zB⟩
      have KB : ∀ {W}, (W.cell? ⟨w.heap.size, 0, none⟩ = some (.int .i64 T) ∧ W.cell? ⟨w.heap.size, 1, none⟩ = some (.slice a n cap) ∧ Below w.heap.size w W) → Below w.heap.size w W := fun h => h.2.2
      have HG0 : Hid (Below wr.heap.size wr wr) := Below.refl _ _
      have HG1 : Hid (Below wr.heap.size wr wr.drew) := (Below.refl _ _).drew
      have hz0 : okB 0 = true := inB_mk ⟨by omega, by omega⟩
      have hz1 : okB 1000000000 = true := inB_mk ⟨by omega, by omega⟩
      have HSM : Hid _ := SM
      clear SM
      go_upto_region 11 with fail
      go_region_held3 (fun w' => w'.cell? ⟨w.heap.size, 0, none⟩ = some (.int .i64 T) ∧ w'.cell? ⟨w.heap.size, 1, none⟩ = some (.slice a n cap) ∧ Below w.heap.size w w') (first | with_reducible exact FIN | (refine HKK.out _ ?_; first | with_reducible exact HG1.out | with_reducible exact HG0.out | with_reducible exact SB9 | with_reducible exact SB7 | with_reducible exact SB5 | with_reducible exact SB7.alloc SB7.size _ | with_reducible exact SB9.alloc SB9.size _)) (first
        | (go_at_call 101
           with_reducible change Calls _ _ #[_, .int .i64 0, _] _ _
           refine (copied_any T 0 x a n cap ls _ (LL.out _ (KB (by assumption))) po hz0 hx1).mono ?_
           rintro e w5 ⟨B1, m1, rfl, hB1, LB1, hl1, hm1, hb5⟩
           have SB5 : Below wr.heap.size wr w5 := by first | exact HG1.out.then hb5 HG1.out.size | exact HG0.out.then hb5 HG0.out.size
           have L1 : LevS w5 (some ⟨B1, 0, none⟩) m1 m1 (cpd ls 0 x) := LB1.toS hl1 (by omega) (fun i hi => cpd_wfB po (by omega) (by omega) i (by omega))
           have SM5 := HSM.out.below SB5
           clear hb5 LB1)
        | (go_at_call 101
           refine (copied_any T y 1000000000 a n cap ls _ (LL.out _ (KB (by assumption))) po hy1 hz1).mono ?_
           rintro e w7 ⟨B3, m3, rfl, hB3, LB3, hl3, hm3, hb7⟩
           have SB7 : Below wr.heap.size wr w7 := SB5.then hb7 SB5.size
           have L3 : LevS w7 (some ⟨B3, 0, none⟩) m3 m3 (cpd ls y 1000000000) := LB3.toS hl3 (by omega) (fun i hi => cpd_wfB po (by omega) (by omega) i (by omega))
           have L17 := L1.below hb7
           have SM7 := SM5.below hb7
           clear hb7 LB3 L1 SM5)
        | (go_at_call 48
           refine (joined3_any T _ _ (cpd ls 0 x) (upL more (cpd ls x y)) (cpd ls y 1000000000) _ _ _ _ _ _ _ _ _ _ (heap_alloc_new _ _) (L17.below box_below0) (SM7.below box_below0) (L3.below box_below0) (cpd_le po _ _) (by rw [upL_len]; exact cpd_le po _ _) (cpd_le po _ _) HN0.out).mono ?_
           rintro e w9 ⟨T', v, n', c', bb, rfl, hb9, hbb, ht, hf⟩
           have SB9 : Below wr.heap.size wr w9 := (SB7.alloc SB7.size _).then hb9 (SB7.alloc SB7.size _).size
           have zc : wr.heap.size ≤ w7.heap.size := SB7.size
           obtain ⟨R9, V9⟩ := KR.out _ SB9
           obtain ⟨r0, r1, f0, f1⟩ := boxed R9
           obtain ⟨Q0, Q1, _⟩ := HKK.out _ SB9
           have E9 := Proofs.Ytcmpenlgkccgkaa.set2 R9 (.int .i64 T') (.slice v n' c')
           have FIN : ((w9.setCell ⟨w.heap.size + 1, 0, none⟩ (.int .i64 T')).setCell ⟨w.heap.size + 1, 1, none⟩ (.slice v n' c')).cell? ⟨w.heap.size, 0, none⟩ = some (.int .i64 T) ∧ ((w9.setCell ⟨w.heap.size + 1, 0, none⟩ (.int .i64 T')).setCell ⟨w.heap.size + 1, 1, none⟩ (.slice v n' c')).cell? ⟨w.heap.size, 1, none⟩ = some (.slice a n cap) ∧ Below w.heap.size w ((w9.setCell ⟨w.heap.size + 1, 0, none⟩ (.int .i64 T')).setCell ⟨w.heap.size + 1, 1, none⟩ (.slice v n' c')) := ⟨(World.cell?_of_block (a := ⟨w.heap.size, 0, none⟩) (E9.2 w.heap.size (by omega))).trans Q0, (World.cell?_of_block (a := ⟨w.heap.size, 1, none⟩) (E9.2 w.heap.size (by omega))).trans Q1, (V9.setCell (by simp) _).setCell (by simp) _⟩
           have HA : Hid _ := And.intro hbb (And.intro ht hf)
           clear hb9 hbb ht hf))
      go_wp2
      refine bodyPost_ret (results_box2 (p := 8) (u := 9) rfl _ _ (w.heap.size + 1) _ _ _ _ rfl E9.1 Try.underlying38 rfl sized26 _ rfl) rfl ?_
      obtain ⟨hbb, ht, hf⟩ := HA.out
      rw [HRC.out] at hbb ht
      refine ⟨T', v, n', c', bb, rfl, FIN.2.2, hbb.trans HE.out.symm, fun hb => ?_, hf⟩
      obtain ⟨g, h1, h2, h3, h4, h5, h6, h7⟩ := ht hb
      have h4' : w7.heap.size + 1 ≤ g := by simpa using h4
      exact ⟨g, h1, h2, h3, by omega, h5, h6, h7.blk (E9.2 g (by omega))⟩

set_option maxRecDepth 8000 in
set_option maxHeartbeats 4000000 in
theorem implReserve_lt (T x y m : Int) (a : Option Addr) (n cap : Nat) (ls : List Lev) (w : World) (h : LevS w a n cap ls) (po : PO T ls) (hx : 0 ≤ x) (hxy : x < y) (hy : y ≤ 1000000000) (hm : 0 ≤ m ∧ m ≤ 1000) :
    Calls Try.prog 88 #[.agg #[.int .i64 T, .slice a n cap], .int .i64 x, .int .i64 y, .int .i64 m] w fun e w' => RsU w w' T (cutL ls x y (-m)) e := by
  have hx1 : okB x = true := inB_mk ⟨by omega, by omega⟩
  have hy1 : okB y = true := inB_mk ⟨by omega, by omega⟩
  have hq : (poB T ls && (okB x && okB y)) = true := by rw [poB_mk po, hx1, hy1]; rfl
  have hlen := h.len
  obtain ⟨W0, hW0⟩ : ∃ W0, W0 = (w.alloc (.cells #[.int .i64 T, .slice a n cap] 38)).alloc (.cells #[.int .i64 0, .slice none 0 0] 38) := ⟨_, rfl⟩
  have B0 : Below w.heap.size w W0 := by rw [hW0]; exact box_below.alloc (by simp) _
  have z0 : w.heap.size + 2 ≤ W0.heap.size := by rw [hW0]; simp
  have P0 : W0.heap[w.heap.size]? = some (.cells #[.int .i64 T, .slice a n cap] 38 (0, 0)) := by rw [hW0]; exact (Below.heap_alloc _ _ _ (by simp)).trans (heap_alloc_new _ _)
  have R0 : W0.heap[w.heap.size + 1]? = some (.cells #[.int .i64 0, .slice none 0 0] 38 (0, 0)) := by rw [hW0]; exact new_at _ _ _ (by simp)
  have LL : Hid (∀ W, Below w.heap.size w W → LevS W a n cap ls) := fun W hb => h.below hb
  clear h
  have hm0 : ¬ m < 0 := by omega
  have hwm : IntKind.i64.wrap (-m) = -m := by rw [IntKind.wrap_i64]; omega
  go_enter Try.func88, Try.ntmps88
  go_wp2_with fail
  rw [← hW0]
  clear hW0
  refine (stretchOk_any T x y a n cap ls _ (LL.out _ B0)).mono ?_
  rw [hq]
  rintro e wr ⟨rfl, hb1⟩
  have C1 : Below w.heap.size w wr := B0.then hb1 B0.size
  have P1 := (hb1.block _ (lt_of_block P0)).trans P0
  have R1 := (hb1.block _ (lt_of_block R0)).trans R0
  clear P0 R0
  obtain ⟨p0, p1, _, _⟩ := boxed P1
  have zB := C1.size
  have zb2 := lt_of_block R1
  have HP1 : Hid _ := P1
  have HR1 : Hid _ := R1
  clear P1 R1
  have KR : Hid (∀ W, Below wr.heap.size wr W → W.heap[w.heap.size + 1]? = some (.cells #[.int .i64 0, .slice none 0 0] 38 (0, 0)) ∧ Below w.heap.size w W) := fun W hW => ⟨(hW.block _ zb2).trans HR1.out, C1.then hW zB⟩
  have HKK : Hid (∀ W, Below wr.heap.size wr W → (W.cell? ⟨w.heap.size, 0, none⟩ = some (.int .i64 T) ∧ W.cell? ⟨w.heap.size, 1, none⟩ = some (.slice a n cap) ∧ Below w.heap.size w W)) := fun W hW => by
    obtain ⟨q0, q1, _, _⟩ := boxed ((hW.block _ (lt_of_block HP1.out)).trans HP1.out)
    exact ⟨q0, q1, C1.then hW zB⟩
  have KB : ∀ {W}, (W.cell? ⟨w.heap.size, 0, none⟩ = some (.int .i64 T) ∧ W.cell? ⟨w.heap.size, 1, none⟩ = some (.slice a n cap) ∧ Below w.heap.size w W) → Below w.heap.size w W := fun h => h.2.2
  have HG0 : Hid (Below wr.heap.size wr wr) := Below.refl _ _
  have HG1 : Hid (Below wr.heap.size wr wr.drew) := (Below.refl _ _).drew
  go_upto_region 3 with fail
  go_region_held3 (fun w' => w'.cell? ⟨w.heap.size, 0, none⟩ = some (.int .i64 T) ∧ w'.cell? ⟨w.heap.size, 1, none⟩ = some (.slice a n cap) ∧ Below w.heap.size w w') (first | with_reducible exact FIN | (refine HKK.out _ ?_; first | with_reducible exact HG1.out | with_reducible exact HG0.out | with_reducible exact SB9)) (first
    | (go_at_call 99
       refine (most_any m hm _).mono ?_
       rintro e w5 ⟨rfl, rfl⟩)
    | (go_at_call 98
       refine (changed_any T x y (-m) a n cap ls _ (LL.out _ (KB (by assumption))) po hx hxy hy (by omega)).mono ?_
       rintro e w9 ⟨T', v, n', c', bb, rfl, hb9, hbb, ht, hf⟩
       have SB9 : Below wr.heap.size wr w9 := by first | exact HG1.out.then hb9 HG1.out.size | exact HG0.out.then hb9 HG0.out.size
       obtain ⟨R9, V9⟩ := KR.out _ SB9
       obtain ⟨r0, r1, f0, f1⟩ := boxed R9
       obtain ⟨Q0, Q1, _⟩ := HKK.out _ SB9
       have E9 := Proofs.Ytcmpenlgkccgkaa.set2 R9 (.int .i64 T') (.slice v n' c')
       have FIN : ((w9.setCell ⟨w.heap.size + 1, 0, none⟩ (.int .i64 T')).setCell ⟨w.heap.size + 1, 1, none⟩ (.slice v n' c')).cell? ⟨w.heap.size, 0, none⟩ = some (.int .i64 T) ∧ ((w9.setCell ⟨w.heap.size + 1, 0, none⟩ (.int .i64 T')).setCell ⟨w.heap.size + 1, 1, none⟩ (.slice v n' c')).cell? ⟨w.heap.size, 1, none⟩ = some (.slice a n cap) ∧ Below w.heap.size w ((w9.setCell ⟨w.heap.size + 1, 0, none⟩ (.int .i64 T')).setCell ⟨w.heap.size + 1, 1, none⟩ (.slice v n' c')) := ⟨(World.cell?_of_block (a := ⟨w.heap.size, 0, none⟩) (E9.2 w.heap.size (by omega))).trans Q0, (World.cell?_of_block (a := ⟨w.heap.size, 1, none⟩) (E9.2 w.heap.size (by omega))).trans Q1, (V9.setCell (by simp) _).setCell (by simp) _⟩
       have HA : Hid _ := And.intro hbb (And.intro ht hf)
       clear hb9 hbb ht hf))
  go_wp2
  refine bodyPost_ret (results_box2 (p := 8) (u := 9) rfl _ _ (w.heap.size + 1) _ _ _ _ rfl E9.1 Try.underlying38 rfl sized26 _ rfl) rfl ?_
  obtain ⟨hbb, ht, hf⟩ := HA.out
  refine ⟨T', v, n', c', bb, rfl, FIN.2.2, hbb, fun hb => ?_, hf⟩
  obtain ⟨g, h1, h2, h3, h4, h5, h6, h7⟩ := ht hb
  have h4' : wr.heap.size ≤ g := h4
  exact ⟨g, h1, h2, h3, by omega, h5, h6, h7.blk (E9.2 g (by omega))⟩

end Go.Proofs.Ytcmpenlgkccgkaa
