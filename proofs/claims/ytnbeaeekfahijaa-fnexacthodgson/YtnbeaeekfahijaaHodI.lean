/- parted and Hodgson of the program. -/
import Derived.Test.YtnbeaeekfahijaaHodX
namespace Go.Proofs.Ytnbeaeekfahijaa
open Go.RowKit Go.Sort

theorem ownR_keep {w w' : World} {base : Nat} {v : Value} {m : Nat} {xs : List Value} (h : w.ownsRow base 31 7 v m xs) (hk : ∀ g, v.ownBlock = some g → w'.heap[g]? = w.heap[g]?) : w'.ownsRow base 31 7 v m xs := by
  refine ⟨h.1, ?_⟩
  rcases h.2 with h | ⟨g, cap, cur, rfl, hg, hgg, r⟩
  · exact .inl h
  · exact .inr ⟨g, cap, cur, rfl, hg, (hk g rfl).trans hgg, r⟩
theorem ownR_lt {w : World} {base : Nat} {v : Value} {m : Nat} {xs : List Value} (h : w.ownsRow base 31 7 v m xs) {g : Nat} (hg : v.ownBlock = some g) : base ≤ g ∧ g < w.heap.size := h.lt g hg
theorem ownR_below {w w' : World} {base : Nat} {v : Value} {m : Nat} {xs : List Value} (h : w.ownsRow base 31 7 v m xs) (hb : Below w.heap.size w w') : w'.ownsRow base 31 7 v m xs :=
  ownR_keep h fun g hg => hb.block g (ownR_lt h hg).2
theorem ownJ_own {w : World} {base g cap : Nat} {ys : List Jb} (h : w.ownsRow base 31 7 (.slice (some ⟨g, 0, none⟩) ys.length cap) ys.length (jcells ys)) : OwnJ w base g cap ys := by
  obtain ⟨g', c', e, O⟩ := ownJ_of (ys := ys) h rfl rfl (fun e => by cases e)
  injection e with e1 _ e3
  injection e1 with e1
  injection e1 with e1 _ _
  subst e1 e3
  exact O

theorem IsNum.at_ {M : List Jb} (hj : JsOk M) {i : Nat} (hi : i < M.length) {r : Int} (h : IsNum M M.length (jg M i).id r) : r = i := by
  rcases h with ⟨_, h⟩ | ⟨k, rfl, hk, e, _⟩
  · exact absurd rfl (h i hi)
  · have mi : jg M i ∈ M := by rw [jg_get hi]; exact List.getElem_mem hi
    have mk : jg M k ∈ M := by rw [jg_get hk]; exact List.getElem_mem hk
    have := hj.inj mk mi e
    rw [jg_get hk, jg_get hi] at this
    have := (List.getElem_inj (js_nodup hj)).1 this
    omega

set_option maxRecDepth 8000 in
set_option maxHeartbeats 8000000 in
theorem parted_any (a : Option Addr) (n cap : Nat) (E : List Jb) (w : World) (h : JobS w a n cap E) (hj : JsOk E) :
    Calls Try.prog 48 #[.slice a n cap] w fun e w' => ∃ l r K R, e = .returned (.tuple #[l, r]) ∧ HSt E E.length K R ∧ w'.ownsRow w.heap.size 31 7 l K.length (jcells K) ∧ w'.ownsRow w.heap.size 31 7 r R.length (jcells R) ∧ (∀ g, l.ownBlock = some g → r.ownBlock ≠ some g) ∧ Below w.heap.size w w' := by
  obtain ⟨i1, hji, hj0, hj1, hj2⟩ := info_parts infoJ
  have hlen := h.len
  have hm := h.mx
  have hle := h.le
  have hn40 : n ≤ 40 := by have := hj.n; omega
  unfold maxLen at hm
  go_enter Try.func48, Try.ntmps48
  go_wp2
  go_loopw [2, 3, 4, 11] (fun l r s i wr => ∃ (k : Nat) (K R : List Jb), k ≤ n ∧ i = .int .i64 k ∧ s = .int .i64 (tot K) ∧ Hid (HSt E k K R) ∧ Hid (wr.ownsRow w.heap.size 31 7 l K.length (jcells K)) ∧ Hid (wr.ownsRow w.heap.size 31 7 r R.length (jcells R)) ∧ Hid (∀ g, l.ownBlock = some g → r.ownBlock ≠ some g) ∧ Below w.heap.size w wr) (fun _ _ _ i _ => n - (intOf i).toNat)
  case atStart => exact ⟨0, [], [], by omega, rfl, rfl, ⟨rfl, rfl⟩, World.ownsRow_nil _ _ _ _, World.ownsRow_nil _ _ _ _, (fun g hg => by cases hg), Below.refl _ _⟩
  case round =>
    obtain ⟨k, K, R, hk, rfl, rfl, HS, HL, HR, HD, hw⟩ := hrel
    by_cases hlt : k < n
    · obtain ⟨b, off, rfl, hbw, hat⟩ := h.at_ (by omega)
      have hlt' : (k : Int) < (n : Int) := by omega
      have hz := hw.size
      have hkl := HS.out.len (by omega)
      have hjM := (HS.out.jsK hj (by omega)).2.2 (by omega)
      have tb := tot_bd (ls := K) (fun x hx => (js_all (jsB_mk (HS.out.jsK hj (by omega)).1)) x hx)
      have jb := jok_bd (hj.ok k (by omega)).1
      have eM : tot (K ++ [jg E k]) = tot K + (jg E k).long := by rw [tot_app]; show tot K + ((jg E k).long + 0) = _; omega
      have hMl : (K ++ [jg E k]).length = K.length + 1 := by simp
      obtain ⟨C0, C1, C2, C3, C4, C5, C6⟩ := (hat.below hw hbw).job (i := k) (by omega)
      -- the two blocks that come: the job's box, and a slice of it
      have A1 : Below wr.heap.size wr (wr.alloc (.cells #[.int .i64 (jg E k).id, .int .i64 (jg E k).cores, .int .i64 (jg E k).long, .int .i64 (jg E k).due, .int .i64 (jg E k).wt, .int .i64 (jg E k).rank, .int .i64 (jg E k).at_] 31)) := box_below
      have A2 : Below wr.heap.size wr ((wr.alloc (.cells #[.int .i64 (jg E k).id, .int .i64 (jg E k).cores, .int .i64 (jg E k).long, .int .i64 (jg E k).due, .int .i64 (jg E k).wt, .int .i64 (jg E k).rank, .int .i64 (jg E k).at_] 31)).alloc (.cells #[.int .i64 (jg E k).id, .int .i64 (jg E k).cores, .int .i64 (jg E k).long, .int .i64 (jg E k).due, .int .i64 (jg E k).wt, .int .i64 (jg E k).rank, .int .i64 (jg E k).at_] 31)) := A1.alloc (by simp) _
      have OA := ownR_below HL.out A2
      have RA := ownR_below HR.out A2
      have bJ : ((wr.alloc (.cells #[.int .i64 (jg E k).id, .int .i64 (jg E k).cores, .int .i64 (jg E k).long, .int .i64 (jg E k).due, .int .i64 (jg E k).wt, .int .i64 (jg E k).rank, .int .i64 (jg E k).at_] 31)).alloc (.cells #[.int .i64 (jg E k).id, .int .i64 (jg E k).cores, .int .i64 (jg E k).long, .int .i64 (jg E k).due, .int .i64 (jg E k).wt, .int .i64 (jg E k).rank, .int .i64 (jg E k).at_] 31)).heap[wr.heap.size]? = some (.cells #[.int .i64 (jg E k).id, .int .i64 (jg E k).cores, .int .i64 (jg E k).long, .int .i64 (jg E k).due, .int .i64 (jg E k).wt, .int .i64 (jg E k).rank, .int .i64 (jg E k).at_] 31 (0, 0)) := (Below.heap_alloc _ _ _ (by simp)).trans (heap_alloc_new _ _)
      have hnew : ∀ q u, (jl (jg E k))[q]? = some u → ((wr.alloc (.cells #[.int .i64 (jg E k).id, .int .i64 (jg E k).cores, .int .i64 (jg E k).long, .int .i64 (jg E k).due, .int .i64 (jg E k).wt, .int .i64 (jg E k).rank, .int .i64 (jg E k).at_] 31)).alloc (.cells #[.int .i64 (jg E k).id, .int .i64 (jg E k).cores, .int .i64 (jg E k).long, .int .i64 (jg E k).due, .int .i64 (jg E k).wt, .int .i64 (jg E k).rank, .int .i64 (jg E k).at_] 31)).cell? ((⟨wr.heap.size + 1, 0, none⟩ : Addr).add q) = some u := by
        intro q u hq
        have := new7_cells' (wr.alloc (.cells #[.int .i64 (jg E k).id, .int .i64 (jg E k).cores, .int .i64 (jg E k).long, .int .i64 (jg E k).due, .int .i64 (jg E k).wt, .int .i64 (jg E k).rank, .int .i64 (jg E k).at_] 31)) (jg E k) 31 q u hq
        rwa [show (wr.alloc (.cells #[.int .i64 (jg E k).id, .int .i64 (jg E k).cores, .int .i64 (jg E k).long, .int .i64 (jg E k).due, .int .i64 (jg E k).wt, .int .i64 (jg E k).rank, .int .i64 (jg E k).at_] 31)).heap.size = wr.heap.size + 1 by simp] at this
      have HN : Hid _ := hnew
      clear hnew
      go_wp2_with (at_builtin; refine wpList_append_own_at _ rfl (.tmp 15) (.tmp 17) 24 rfl w.heap.size 31 i1 (.agg #[.int .i64 0, .int .i64 0, .int .i64 0, .int .i64 0, .int .i64 0, .int .i64 0, .int .i64 0]) 7 56 Try.underlying24 hji hj0 hj1 hj2 rfl (by decide) _ _ _ rfl OA ⟨wr.heap.size + 1, 0, none⟩ 1 1 [.int .i64 (jg E k).id, .int .i64 (jg E k).cores, .int .i64 (jg E k).long, .int .i64 (jg E k).due, .int .i64 (jg E k).wt, .int .i64 (jg E k).rank, .int .i64 (jg E k).at_] rfl rfl HN.out (jl_one (jg E k)) (by unfold maxLen; omega) (by omega) (by simp; omega) ?_)
      intro v3 w3 own3 grow3 nil3 at3
      obtain ⟨g3, c3, rfl, O3⟩ := ownJ_of' (ys := K ++ [jg E k]) own3 (by simp) (by rw [jcells_app]; rfl) nil3
      have lJ := lt_of_block bJ
      have B3 : Below w.heap.size w w3 := (hw.trans (A2.mono hz)).grown grow3 (Nat.le_trans hz A2.size) (fun g hg => (ownR_lt HL.out hg).1)
      have bJ3 : w3.heap[wr.heap.size]? = some (.cells #[.int .i64 (jg E k).id, .int .i64 (jg E k).cores, .int .i64 (jg E k).long, .int .i64 (jg E k).due, .int .i64 (jg E k).wt, .int .i64 (jg E k).rank, .int .i64 (jg E k).at_] 31 (0, 0)) := (grow3.block _ lJ (fun e => by have := (ownR_lt HL.out e.symm).2; omega)).trans bJ
      have R3 : w3.ownsRow w.heap.size 31 7 u3 R.length (jcells R) := ownR_keep RA (fun g hg => grow3.block g (ownR_lt RA hg).2 (fun e => HD.out g e.symm hg))
      have D3 : ∀ g, g3 = g → u3.ownBlock ≠ some g := by
        rintro g rfl hg
        rcases at3 with e | e
        · exact HD.out _ e.symm hg
        · have e' : g3 = _ := Option.some.inj e
          have := (ownR_lt HR.out hg).2
          try simp at e'
          omega
      obtain ⟨⟨J0, J1, J2, J3, J4, J5, J6⟩, _⟩ := blk7 bJ3
      have HR3 : Hid _ := R3
      have HO3 : Hid _ := O3
      have HD3 : Hid _ := D3
      clear own3 grow3 nil3 at3 OA RA A1 A2 HN HL HR bJ R3 O3 D3 C0 C1 C2 C3 C4 C5 C6
      by_cases hc : tot (K ++ [jg E k]) ≤ (jg E k).due
      · have hs : Hid (HSt E (k + 1) (K ++ [jg E k]) R) := ⟨K, R, HS.out, Or.inl ⟨hc, rfl, rfl⟩⟩
        rw [eM] at hc
        have hc' : ¬ (jg E k).due < tot K + (jg E k).long := by omega
        have HM : Hid (tot (K ++ [jg E k]) = tot K + (jg E k).long) := eM
        clear eM
        go_wp2
        go_roundw
        case rel => exact ⟨k + 1, K ++ [jg E k], R, by omega, by go_num, by rw [HM.out], hs, by rw [hMl]; exact (by have := HO3.out.own; rwa [hMl] at this), HR3.out, (fun g hg => HD3.out g (Option.some.inj hg)), B3⟩
        case measure => simp [intOf]; omega
      · have hs : Hid (∀ i, IsFar (K ++ [jg E k]) i → HSt E (k + 1) ((K ++ [jg E k]).eraseIdx i) (R ++ [jg (K ++ [jg E k]) i])) := fun i hi => ⟨K, R, HS.out, Or.inr ⟨hc, i, hi, rfl, rfl⟩⟩
        have hsub : ∀ x ∈ K ++ [jg E k], x ∈ E := fun x hx => by
          rcases List.mem_append.1 hx with hx | hx
          · exact (List.take_sublist k E).subset ((HS.out.perm (by omega)).subset (List.mem_append_left _ hx))
          · rw [List.mem_singleton.1 hx, jg_get (by omega)]; exact List.getElem_mem _
        have wfM : ∀ i, i < (K ++ [jg E k]).length → jwf (jg (K ++ [jg E k]) i) := fun i hi => by
          obtain ⟨q, hq, e⟩ := List.getElem_of_mem (hsub _ (show jg (K ++ [jg E k]) i ∈ _ by rw [jg_get hi]; exact List.getElem_mem hi))
          rw [← e, ← jg_get hq]; exact h.wf q (by omega)
        have okM : ∀ i, i < (K ++ [jg E k]).length → jok (jg (K ++ [jg E k]) i) = true := fun i hi => (hjM.ok i hi).1
        have hM40 := hjM.n
        obtain ⟨M, hMd⟩ : ∃ M, K ++ [jg E k] = M := ⟨_, rfl⟩
        rw [hMd] at hs wfM okM hjM hM40 HO3 hMl eM hc
        clear hMd hsub HS
        have hc' : (jg E k).due < tot K + (jg E k).long := by omega
        have JM : JobS w3 (some ⟨g3, 0, none⟩) M.length c3 M := HO3.out.toS wfM
        rw [← hMl]
        have tk0 : 0 ≤ tot K := tb.1
        have tk1 : tot K ≤ 400000 := by have := tb.2; omega
        have tl0 : 1 ≤ (jg E k).long := jb.1
        have tl1 : (jg E k).long ≤ 10000 := jb.2.1
        have HMl : Hid (M.length = K.length + 1) := hMl
        have hM1 : 1 ≤ M.length := by omega
        have hkR : R.length ≤ 40 := by omega
        have HTM : Hid (tot M = tot K + (jg E k).long) := eM
        clear hMl hkl eM hc
        go_wp2_with fail
        refine (then_make _ _ _).mono ?_
        rintro e w4 ⟨rfl, hw4⟩
        have hb4 : Below w3.heap.size w3 w4 := by rw [hw4]; exact ((Below.refl _ _).alloc (Nat.le_refl _) _).alloc (by simp) _
        have c0 : w4.cell? ⟨w3.heap.size, 0, none⟩ = some (.func (.func 42) #[] #[]) := by rw [hw4]; simp
        have c1 : w4.cell? ⟨w3.heap.size + 1, 0, none⟩ = some (.func (.func 64) #[] #[]) := by rw [hw4]; simp
        clear hw4
        have JM4 := JM.below hb4
        go_wp2_with fail
        refine (maxFunc_any _ M.length c3 M w3.heap.size (w3.heap.size + 1) _ JM4 (by omega) (by omega) okM c0 c1).mono ?_
        rintro e w5 ⟨i, rfl, hfar, hb5⟩
        have hil := hfar.1
        have V5 := hb4.then hb5 hb4.size
        have V6 := V5.alloc V5.size (.cells #[.int .i64 (jg M i).id, .int .i64 (jg M i).cores, .int .i64 (jg M i).long, .int .i64 (jg M i).due, .int .i64 (jg M i).wt, .int .i64 (jg M i).rank, .int .i64 (jg M i).at_] 31)
        have bF := heap_alloc_new w5 (.cells #[.int .i64 (jg M i).id, .int .i64 (jg M i).cores, .int .i64 (jg M i).long, .int .i64 (jg M i).due, .int .i64 (jg M i).wt, .int .i64 (jg M i).rank, .int .i64 (jg M i).at_] 31)
        have z6 : (w5.alloc (.cells #[.int .i64 (jg M i).id, .int .i64 (jg M i).cores, .int .i64 (jg M i).long, .int .i64 (jg M i).due, .int .i64 (jg M i).wt, .int .i64 (jg M i).rank, .int .i64 (jg M i).at_] 31)).heap.size = w5.heap.size + 1 := by simp
        clear c0 c1 JM4
        go_wp2_with fail
        refine (numberOf_any _ M.length c3 M (jg M i).id _ (JM.below V6)).mono ?_
        rintro e w7 ⟨x, rfl, hx, hg7⟩
        obtain rfl := hx.at_ hjM hil
        have hb7 : Below (w5.alloc (.cells #[.int .i64 (jg M i).id, .int .i64 (jg M i).cores, .int .i64 (jg M i).long, .int .i64 (jg M i).due, .int .i64 (jg M i).wt, .int .i64 (jg M i).rank, .int .i64 (jg M i).at_] 31)).heap.size (w5.alloc (.cells #[.int .i64 (jg M i).id, .int .i64 (jg M i).cores, .int .i64 (jg M i).long, .int .i64 (jg M i).due, .int .i64 (jg M i).wt, .int .i64 (jg M i).rank, .int .i64 (jg M i).at_] 31)) w7 := by obtain ⟨q, os, rfl⟩ := hg7; exact below_grow _ _ _
        have V7 := V6.then hb7 V6.size
        have bF7 := (hb7.block _ (by omega)).trans bF
        have O7 := HO3.out.below V7
        have R7 := ownR_below HR3.out V7
        have z7 := V7.size
        clear hg7 hx
        go_wp2_with fail
        refine (delete_any w.heap.size g3 c3 i M _ O7 hil).mono ?_
        rintro e w8 ⟨rfl, O8, G8⟩
        have hg3 := HO3.out.lt
        have z5 := V5.size
        have lF := lt_of_block bF7
        have bF8 := (G8.block _ lF (fun e => by have := Option.some.inj e; omega)).trans bF7
        have R8 : w8.ownsRow w.heap.size 31 7 u3 R.length (jcells R) := ownR_keep R7 (fun g hg => G8.block g (ownR_lt R7 hg).2 (fun e => HD3.out g (Option.some.inj e).symm hg))
        have z8 := G8.size
        have B8 : Below w.heap.size w w8 := (B3.trans (V7.mono B3.size)).grown G8 (Nat.le_trans B3.size z7) (fun g hg => by have e' : g3 = g := Option.some.inj hg; have := HO3.out.base; omega)
        obtain ⟨⟨Q0, Q1, Q2, Q3, Q4, Q5, Q6⟩, _⟩ := blk7 bF8
        have RA := ownR_below R8 (box_below (cs := #[.int .i64 (jg M i).id, .int .i64 (jg M i).cores, .int .i64 (jg M i).long, .int .i64 (jg M i).due, .int .i64 (jg M i).wt, .int .i64 (jg M i).rank, .int .i64 (jg M i).at_]) (T := 31))
        have HN : Hid _ := new7_cells' w8 (jg M i) 31
        have z9 := B8.size
        clear bF bF7 O7 R7 V6 V7 JM
        go_wp2_with (at_builtin; refine wpList_append_own_at _ rfl (.tmp 39) (.tmp 41) 24 rfl w.heap.size 31 i1 (.agg #[.int .i64 0, .int .i64 0, .int .i64 0, .int .i64 0, .int .i64 0, .int .i64 0, .int .i64 0]) 7 56 Try.underlying24 hji hj0 hj1 hj2 rfl (by decide) _ _ _ rfl RA ⟨w8.heap.size, 0, none⟩ 1 1 [.int .i64 (jg M i).id, .int .i64 (jg M i).cores, .int .i64 (jg M i).long, .int .i64 (jg M i).due, .int .i64 (jg M i).wt, .int .i64 (jg M i).rank, .int .i64 (jg M i).at_] rfl rfl HN.out (jl_one (jg M i)) (by unfold maxLen; omega) (by omega) (by simp; omega) ?_)
        intro v10 w10 own10 grow10 nil10 at10
        have lF8 := lt_of_block bF8
        have bF10 := (grow10.block w5.heap.size (by simp; omega) (fun e => by have := (ownR_lt HR3.out e.symm).2; omega)).trans ((Below.heap_alloc _ _ _ lF8).trans bF8)
        have O9 := O8.below (box_below (cs := #[.int .i64 (jg M i).id, .int .i64 (jg M i).cores, .int .i64 (jg M i).long, .int .i64 (jg M i).due, .int .i64 (jg M i).wt, .int .i64 (jg M i).rank, .int .i64 (jg M i).at_]) (T := 31))
        have lO8 := O8.lt
        have O10 : OwnJ w10 w.heap.size g3 c3 (M.eraseIdx i) := O9.keep (grow10.block g3 (by simp; omega) (fun e => HD3.out g3 rfl e.symm)) grow10.size
        have B10 : Below w.heap.size w w10 := (B8.alloc z9 _).grown grow10 (by simp; omega) (fun g hg => (ownR_lt R8 hg).1)
        have D10 : ∀ g, (Value.slice (some ⟨g3, 0, none⟩) (M.length - 1) c3).ownBlock = some g → v10.ownBlock ≠ some g := by
          intro g hg e
          have e3 : g3 = g := Option.some.inj hg
          rcases at10 with e1 | e1
          · exact HD3.out g e3 (e1.symm.trans e)
          · rw [e] at e1
            have e4 : g = _ := Option.some.inj e1
            omega
        have R10 : w10.ownsRow w.heap.size 31 7 v10 (R ++ [jg M i]).length (jcells (R ++ [jg M i])) := by
          rw [jcells_app, List.length_append]; exact own10
        obtain ⟨⟨Y0, Y1, Y2, _, _, _, _⟩, _⟩ := blk7 bF10
        have te := tot_erase hil
        have ml0 : 1 ≤ (jg M i).long := (jok_bd (okM i hil)).1
        have ml1 : (jg M i).long ≤ 10000 := (jok_bd (okM i hil)).2.1
        have hs10 := Hid.out hs i hfar
        have hel : (M.eraseIdx i).length = M.length - 1 := List.length_eraseIdx_of_lt hil
        have HO10 : Hid (w10.ownsRow w.heap.size 31 7 (.slice (some ⟨g3, 0, none⟩) (M.length - 1) c3) (M.eraseIdx i).length (jcells (M.eraseIdx i))) := by rw [← hel]; exact O10.own
        have HR10 : Hid _ := R10
        have HD10 : Hid _ := D10
        have Hs10 : Hid _ := hs10
        have HT : Hid (tot (M.eraseIdx i) = tot K + (jg E k).long - (jg M i).long) := (by have := HTM.out; omega : tot (M.eraseIdx i) = tot K + (jg E k).long - (jg M i).long)
        clear own10 grow10 nil10 at10 RA HN O8 O9 O10 R8 R10 D10 hs hs10 hel te bF8 bF10 Q0 Q1 Q2 Q3 Q4 Q5 Q6 hfar okM wfM
        go_wp2
        go_roundw
        case rel => exact ⟨k + 1, M.eraseIdx i, R ++ [jg M i], by omega, by go_num, by rw [HT.out], Hs10.out, HO10.out, HR10.out, HD10.out, B10⟩
        case measure => simp [intOf]; omega
    · have e : k = n := by omega
      subst e
      go_wp2
      exact bodyPost_ret (v := .tuple #[u2, u3]) (by simp [results, Try.results48, go_sem]) rfl ⟨u2, u3, K, R, rfl, by rw [hlen]; exact HS.out, HL.out, HR.out, HD.out, hw⟩

end Go.Proofs.Ytnbeaeekfahijaa
