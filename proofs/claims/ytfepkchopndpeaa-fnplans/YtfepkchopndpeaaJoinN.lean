/- The program's joined, of some cuts one behind the other. -/
import Derived.Test.YtfepkchopndpeaaPkB
import Derived.Test.YtfepkchopndpeaaResM
namespace Go.Proofs.Ytfepkchopndpeaa
open Go.RowKit

def cut_ (cs : List (List Lev)) (k : Nat) : List Lev := cs[k]?.getD []
theorem flat_s {cs : List (List Lev)} {k : Nat} (h : k < cs.length) : (cs.take (k + 1)).flatten = (cs.take k).flatten ++ cut_ cs k := by
  rw [List.take_succ_eq_append_getElem h, List.flatten_append]
  unfold cut_
  rw [List.getElem?_eq_getElem h]; simp
theorem flat_le {cs : List (List Lev)} {M : Nat} (hm : ∀ k, k < cs.length → (cut_ cs k).length ≤ M) : ∀ k, k ≤ cs.length → ((cs.take k).flatten).length ≤ M * k
  | 0, _ => by simp
  | k + 1, hk => by
    have ih := flat_le hm k (by omega)
    have := hm k (by omega)
    rw [flat_s (by omega), List.length_append, Nat.mul_add]; omega
theorem joinA_take {A l : List Lev} {m : Nat} (h : m < l.length) : joinL [] (A ++ l.take (m + 1)) = addL (joinL [] (A ++ l.take m)) (fr l m) (fe l m) := by
  rw [List.take_succ_eq_append_getElem h, ← List.append_assoc, joinL_app, joinL_cons, joinL_nil, get_fr h, get_fe h]

set_option maxRecDepth 8000 in
set_option maxHeartbeats 2000000 in
theorem joinedN_any (T : Int) (b off N : Nat) (cs : List (List Lev)) (w : World) (hN : cs.length = N) (hN4 : N ≤ 4) (hb : b < w.heap.size) (hm : ∀ k, k < cs.length → (cut_ cs k).length ≤ 1000)
    (hc : ∀ k, k < N → ∃ (al : Option Addr) (nl capl : Nat), w.cell? ⟨b, off + k, none⟩ = some (.slice al nl capl) ∧ LevS w al nl capl (cut_ cs k)) :
    Calls Try.prog 34 #[.int .i64 T, .slice (some ⟨b, off, none⟩) N N] w fun e w' =>
      Below w.heap.size w w' ∧ ((joinL [] cs.flatten).length ≤ 200 → ∃ v, e = .returned (.tuple #[.agg #[.int .i64 T, v], .bool true]) ∧ w'.ownsRow w.heap.size 65 2 v (joinL [] cs.flatten).length (cellsOf (joinL [] cs.flatten))) ∧
        (200 < (joinL [] cs.flatten).length → e = .returned (.tuple #[.agg #[.int .i64 0, .slice none 0 0], .bool false])) := by
  obtain ⟨i1, hj, hj0, hj1, hj2⟩ := info_parts info69
  have hfl := flat_le hm
  go_enter Try.func34, Try.ntmps34
  go_wp2
  obtain ⟨W, hW⟩ : ∃ W, W = (w.alloc (.cells #[.int .i64 0, .slice none 0 0] 26)).alloc (.cells #[] 65) := ⟨_, rfl⟩
  rw [← hW]
  have hW1 : w.heap.size + 2 ≤ W.heap.size := by rw [hW]; simp
  have hR : W.heap[w.heap.size]? = some (.cells #[.int .i64 0, .slice none 0 0] 26 (0, 0)) := by rw [hW]; exact (Below.heap_alloc _ _ _ (by simp)).trans (heap_alloc_new _ _)
  have BW : Below w.heap.size w W := by rw [hW]; exact box_below.alloc (by simp) _
  have own0 : W.ownsRow (w.heap.size + 1) 65 2 (.slice (some ⟨w.heap.size + 1, 0, none⟩) 0 0) 0 [] := by
    rw [hW]
    have := World.ownsRow_made (base := w.heap.size + 1) (e := 65) (size := 2) (w.alloc (.cells #[.int .i64 0, .slice none 0 0] 26)) #[] 0 (by simp) (Nat.zero_le _) rfl
    simpa using this
  have HR : Hid (W.heap[w.heap.size]? = some (.cells #[.int .i64 0, .slice none 0 0] 26 (0, 0))) := hR
  clear hW hR
  go_loopw [6, 15] (fun v i wr => ∃ k : Nat, k ≤ N ∧ i = .int .i64 k ∧ Hid (wr.ownsRow (w.heap.size + 1) 65 2 v (joinL [] (cs.take k).flatten).length (cellsOf (joinL [] (cs.take k).flatten))) ∧ Below (w.heap.size + 1) W wr) (fun _ i _ => N - (intOf i).toNat)
  case atStart => exact ⟨0, by omega, rfl, own0, Below.refl _ _⟩
  case round =>
    obtain ⟨k, hk, rfl, own1, hw⟩ := hrel
    have zw := hw.size
    have Vr : Below w.heap.size w wr := BW.trans (hw.mono (by omega))
    by_cases hlt : k < N
    · obtain ⟨al, nl, capl, hck, h⟩ := hc k hlt
      have hlen := h.len
      have hn := hm k (by omega)
      have hF := flat_s (cs := cs) (k := k) (by omega)
      have hfk := hfl k (by omega)
      have c0 := (Vr.cell (p := ⟨b, off + k, none⟩) hb).trans hck
      obtain ⟨l, hl⟩ : ∃ l, l = cut_ cs k := ⟨_, rfl⟩
      rw [← hl] at h hlen hn hF
      obtain ⟨A, hA⟩ : ∃ A, A = (cs.take k).flatten := ⟨_, rfl⟩
      rw [← hA] at own1 hF hfk
      have hkN : (k : Int) < (N : Int) := by omega
      have HF : Hid ((cs.take (k + 1)).flatten = A ++ l) := hF
      have own1 : Hid (wr.ownsRow (w.heap.size + 1) 65 2 u6 (joinL [] (A ++ l.take 0)).length (cellsOf (joinL [] (A ++ l.take 0)))) := by
        unfold Hid; rw [List.take_zero, List.append_nil]; exact own1
      clear hF hA hl hck
      have hbr : b < wr.heap.size := by omega
      go_wp2
      go_loopw [6, 21] (fun v j wr2 => ∃ m : Nat, m ≤ nl ∧ j = .int .i64 m ∧ Hid (wr2.ownsRow (w.heap.size + 1) 65 2 v (joinL [] (A ++ l.take m)).length (cellsOf (joinL [] (A ++ l.take m)))) ∧ Below (w.heap.size + 1) W wr2) (fun _ j _ => nl - (intOf j).toNat)
      case atStart => exact ⟨0, by omega, rfl, own1, hw⟩
      case round =>
        obtain ⟨m, hm, rfl, own2, hw2⟩ := hrel
        have zw2 := hw2.size
        have V2 : Below w.heap.size w wr := BW.trans (hw2.mono (by omega))
        by_cases hlt2 : m < nl
        · obtain ⟨bl, offl, rfl, hbl, hatl⟩ := h.at_ (by omega)
          obtain ⟨x0, x1⟩ := cells_below (k := m) hatl V2 hbl (by omega)
          have HT := joinA_take (A := A) (l := l) (m := m) (by omega)
          obtain ⟨out, hout⟩ : ∃ out, joinL [] (A ++ l.take m) = out := ⟨_, rfl⟩
          obtain ⟨t, ht⟩ : ∃ t, fr l m = t := ⟨_, rfl⟩
          obtain ⟨f, hf⟩ : ∃ f, fe l m = f := ⟨_, rfl⟩
          have hol : out.length ≤ 50000 := by rw [← hout]; have := joinL_le (A ++ l.take m) []; simp at this; omega
          rw [hout, ht, hf] at HT
          rw [hout] at own2
          rw [ht] at x0
          rw [hf] at x1
          clear hout ht hf
          obtain ⟨va, vcap, rfl⟩ := own_shape own2.out
          have HT1 : Hid (joinL [] (A ++ l.take (m + 1)) = addL out t f) := HT
          clear HT V2
          by_cases hl0 : out.length = 0
          · obtain rfl : out = [] := List.eq_nil_of_length_eq_zero hl0
            have HS : Hid (addL [] t f = [] ++ [(t, f)]) := rfl
            go_wp2
            have gz : (((([] : List Lev).length : Nat) : Int) == 0) = true := rfl
            go_quiet (fail)
            obtain ⟨w5, hw5⟩ : ∃ w5, w5 = (wr.alloc (.cells #[.int .i64 t, .int .i64 f] 65)).drewN nq := ⟨_, rfl⟩
            rw [← hw5]
            have B5 : Below wr.heap.size wr w5 := by rw [hw5]; exact box_below.drewN _
            obtain ⟨l0, l1, z5⟩ := box_cells (w := wr) (v0 := .int .i64 t) (v1 := .int .i64 f) (T := 65) (wi := w5) (by rw [hw5]; exact (Below.refl _ _).drewN _)
            have own5 := own_below own2.out B5
            have hw6 : Below (w.heap.size + 1) W w5 := hw2.then B5 (by omega)
            clear hw5
            clear gz
            go_wp2_with (at_builtin; refine wpList_append_own _ rfl (.tmp 40) (.tmp 42) 24 rfl (w.heap.size + 1) 65 i1 (.agg #[.int .i64 0, .int .i64 0]) 2 16 Try.underlying24 hj hj0 hj1 hj2 rfl (by decide) _ _ _ rfl (own5.alloc _) ⟨w5.heap.size, 0, none⟩ 1 1 [.int .i64 t, .int .i64 f] rfl rfl ?g1 ?g2 ?g3 ?g4 ?g5 ?_)
            case g1 =>
              intro j u hj
              match j, hj with
              | 0, hj => simp at hj; subst hj; simp [Addr.add]
              | 1, hj => simp at hj; subst hj; simp [Addr.add]
            case g2 => intro u hu; simp at hu; rcases hu with rfl | rfl <;> rfl
            case g3 => unfold maxLen; omega
            case g4 => omega
            case g5 => simp; omega
            intro v' w4 hown' hgrow _
            rw [← cellsOf_more] at hown'
            have hown2 : w4.ownsRow (w.heap.size + 1) 65 2 v' ([] ++ [(t, f)]).length (cellsOf ([] ++ [(t, f)])) := by rw [List.length_append]; exact hown'
            have B4 : Below (w.heap.size + 1) W w4 := (hw6.alloc (by omega) _).grown hgrow (by simp; omega) (own_base own5)
            have HO2 : Hid (w4.ownsRow (w.heap.size + 1) 65 2 v' (joinL [] (A ++ l.take (m + 1))).length (cellsOf (joinL [] (A ++ l.take (m + 1))))) := by unfold Hid; rw [HT1.out, HS.out]; exact hown2
            clear hown' hown2 hgrow
            go_wp2
            go_roundw
            case rel => exact ⟨m + 1, by omega, by go_num, HO2, B4⟩
            case measure => simp [intOf]; omega
          · obtain ⟨g2, cap2, hsl, hg21, hg22, hle2, hmx2, hcell⟩ := own_levs own2.out (by omega)
            obtain ⟨rfl, rfl⟩ : va = some ⟨g2, 0, none⟩ ∧ vcap = cap2 := by injection hsl with h1 _ h2; exact ⟨h1, h2⟩
            clear hsl hle2 hmx2
            obtain ⟨la', hla⟩ : ∃ la', fe out (out.length - 1) = la' := ⟨_, rfl⟩
            rw [hla] at hcell
            have hl1 : 0 < out.length := by omega
            by_cases hs : la' = f
            · rw [← hla] at hs
              have HS : Hid (addL out t f = out) := addL_same hl1 hs
              rw [hla] at hs
              subst hs
              clear hla
              go_wp2
              have gz : ((out.length : Int) == 0) = false := beq_eq_false_iff_ne.2 (by omega)
              have q1 : (0 : Int) ≤ (out.length : Int) - 1 := by omega
              have q2 : (out.length : Int) - 1 < (out.length : Int) := by omega
              have q3 : IntKind.i64.wrap ((out.length : Int) - 1) = (out.length : Int) - 1 := by rw [IntKind.wrap_i64]; omega
              have q4 : ((out.length : Int) - 1).toNat = out.length - 1 := by omega
              go_quiet (fail)
              go_wp2
              go_roundw
              case rel => exact ⟨m + 1, by omega, by go_num, (by unfold Hid; rw [HT1.out, HS.out]; exact own_below own2.out (box_below.drewN _)), (hw2.alloc (by omega) _).drewN _⟩
              case measure => simp [intOf]; omega
            · have HS : Hid (addL out t f = out ++ [(t, f)]) := addL_other hl1 (by rw [hla]; exact hs)
              have hs1 : (la' == f) = false := by simpa using hs
              have hs2 : (la' != f) = true := by simpa using hs
              clear hla
              go_wp2
              have gz : ((out.length : Int) == 0) = false := beq_eq_false_iff_ne.2 (by omega)
              have q1 : (0 : Int) ≤ (out.length : Int) - 1 := by omega
              have q2 : (out.length : Int) - 1 < (out.length : Int) := by omega
              have q3 : IntKind.i64.wrap ((out.length : Int) - 1) = (out.length : Int) - 1 := by rw [IntKind.wrap_i64]; omega
              have q4 : ((out.length : Int) - 1).toNat = out.length - 1 := by omega
              go_quiet (fail)
              obtain ⟨w5, hw5⟩ : ∃ w5, w5 = (wr.alloc (.cells #[.int .i64 t, .int .i64 f] 65)).drewN nq := ⟨_, rfl⟩
              rw [← hw5]
              have B5 : Below wr.heap.size wr w5 := by rw [hw5]; exact box_below.drewN _
              obtain ⟨l0, l1, z5⟩ := box_cells (w := wr) (v0 := .int .i64 t) (v1 := .int .i64 f) (T := 65) (wi := w5) (by rw [hw5]; exact (Below.refl _ _).drewN _)
              have own5 := own_below own2.out B5
              have hw6 : Below (w.heap.size + 1) W w5 := hw2.then B5 (by omega)
              clear hw5
              clear q1 q2 q3 q4 gz
              go_wp2_with (at_builtin; refine wpList_append_own _ rfl (.tmp 40) (.tmp 42) 24 rfl (w.heap.size + 1) 65 i1 (.agg #[.int .i64 0, .int .i64 0]) 2 16 Try.underlying24 hj hj0 hj1 hj2 rfl (by decide) _ _ _ rfl (own5.alloc _) ⟨w5.heap.size, 0, none⟩ 1 1 [.int .i64 t, .int .i64 f] rfl rfl ?g1 ?g2 ?g3 ?g4 ?g5 ?_)
              case g1 =>
                intro j u hj
                match j, hj with
                | 0, hj => simp at hj; subst hj; simp [Addr.add]
                | 1, hj => simp at hj; subst hj; simp [Addr.add]
              case g2 => intro u hu; simp at hu; rcases hu with rfl | rfl <;> rfl
              case g3 => unfold maxLen; omega
              case g4 => omega
              case g5 => simp; omega
              intro v' w4 hown' hgrow _
              rw [← cellsOf_more] at hown'
              have hown2 : w4.ownsRow (w.heap.size + 1) 65 2 v' (out ++ [(t, f)]).length (cellsOf (out ++ [(t, f)])) := by rw [List.length_append]; exact hown'
              have B4 : Below (w.heap.size + 1) W w4 := (hw6.alloc (by omega) _).grown hgrow (by simp; omega) (own_base own5)
              have HO2 : Hid (w4.ownsRow (w.heap.size + 1) 65 2 v' (joinL [] (A ++ l.take (m + 1))).length (cellsOf (joinL [] (A ++ l.take (m + 1))))) := by unfold Hid; rw [HT1.out, HS.out]; exact hown2
              clear hown' hown2 hgrow
              go_wp2
              go_roundw
              case rel => exact ⟨m + 1, by omega, by go_num, HO2, B4⟩
              case measure => simp [intOf]; omega
        · have e : nl = m := by omega
          subst e
          have HO2 : Hid (wr.ownsRow (w.heap.size + 1) 65 2 u6 (joinL [] (cs.take (k + 1)).flatten).length (cellsOf (joinL [] (cs.take (k + 1)).flatten))) := by have := own2.out; rw [List.take_of_length_le (by omega)] at this; unfold Hid; rw [HF.out]; exact this
          clear own2
          go_wp2
          go_roundw
          case rel => exact ⟨k + 1, by omega, by go_num, HO2, hw2⟩
          case measure => simp [intOf]; omega
    · obtain rfl : k = N := by omega
      have hkN : ¬ (k : Int) < (k : Int) := by omega
      have own3 : Hid (wr.ownsRow (w.heap.size + 1) 65 2 u6 (joinL [] cs.flatten).length (cellsOf (joinL [] cs.flatten))) := by
        have := own1.out; rw [List.take_of_length_le (by omega)] at this; exact this
      clear own1
      obtain ⟨va, vcap, rfl⟩ := own_shape own3.out
      have hR := (hw.block _ (by omega)).trans HR.out
      obtain ⟨o0, o1, f0, f1⟩ := boxed hR
      by_cases hbig : 200 < (joinL [] cs.flatten).length
      · have HB : Hid (200 < (joinL [] cs.flatten).length) := hbig
        go_wp2
        have hg := blk_set (blk_set hR (.int .i64 0) (j := 0)) (.slice none 0 0) (j := 1)
        refine bodyPost_ret (results_box2 (p := 4) (u := 5) rfl _ _ w.heap.size _ _ _ _ rfl hg Try.underlying26 rfl sized26 _ rfl) rfl ⟨(Vr.setCell (by simp) _).setCell (by simp) _, ?_⟩
        first | exact ⟨fun h => (by have := HB.out; omega), fun _ => rfl⟩ | exact ⟨fun h => (by have := HB.out; omega), rfl⟩ | exact rfl
      · have HB : Hid (¬ 200 < (joinL [] cs.flatten).length) := hbig
        go_wp2
        have hg := blk_set (blk_set hR (.int .i64 T) (j := 0)) (.slice va (joinL [] cs.flatten).length vcap) (j := 1)
        refine bodyPost_ret (results_box2 (p := 4) (u := 5) rfl _ _ w.heap.size _ _ _ _ rfl hg Try.underlying26 rfl sized26 _ rfl) rfl ⟨(Vr.setCell (by simp) _).setCell (by simp) _, ?_⟩
        first | exact ⟨fun _ => ⟨_, rfl, own_low (own_set (a := ⟨w.heap.size, 1, none⟩) (own_set (a := ⟨w.heap.size, 0, none⟩) own3.out (show w.heap.size < w.heap.size + 1 by omega) _) (show w.heap.size < w.heap.size + 1 by omega) _) (by omega)⟩, fun h => absurd h HB.out⟩ | exact fun _ => ⟨_, rfl, own_low (own_set (a := ⟨w.heap.size, 1, none⟩) (own_set (a := ⟨w.heap.size, 0, none⟩) own3.out (show w.heap.size < w.heap.size + 1 by omega) _) (show w.heap.size < w.heap.size + 1 by omega) _) (by omega)⟩ | exact ⟨_, rfl, own_low (own_set (a := ⟨w.heap.size, 1, none⟩) (own_set (a := ⟨w.heap.size, 0, none⟩) own3.out (show w.heap.size < w.heap.size + 1 by omega) _) (show w.heap.size < w.heap.size + 1 by omega) _) (by omega)⟩

end Go.Proofs.Ytfepkchopndpeaa
