/- The program's chapter 13, twelfth part: Waits. -/
import Derived.Test.YtdgfkcobhhlfbaaGreatPe
import Derived.Test.YtdgfkcobhhlfbaaGreatStateS8
import Derived.Test.YtdgfkcobhhlfbaaGreatJobQI
import Derived.Test.YtdgfkcobhhlfbaaGreatJobMk
namespace Go.Proofs.YtdgfkcobhhlfbaaGreat
open Go.RowKit Go.Sort

theorem JobB.own {w : World} {B n : Nat} {ys : List Jb} {base : Nat} (h : JobB w B n n ys) (hl : ys.length = n) (hb : base ≤ B) (hn : n ≤ maxLen) : OwnJ w base B n ys := by
  have hlt := h.lt
  obtain ⟨cur, h1, h2, h3⟩ := h
  have hc := jcells_len ys
  refine ⟨⟨by rw [hc], .inr ⟨B, n, cur, by rw [hl], hb, h1, by omega, hn, h2, ?_⟩⟩, by omega, hn, hb, hlt⟩
  rw [hl]
  have hs : cur.toList.length = n * 7 := by simpa using h2
  rw [List.take_of_length_le (by omega)]
  apply List.ext_getElem?
  intro j
  by_cases hj : j < n * 7
  · have a := h3 (j / 7) (by omega) (j % 7) (by omega)
    have b := jcells_at ys (j / 7) (j % 7) (by omega) (by omega)
    rw [show j / 7 * 7 + j % 7 = j by omega] at a b
    rw [b, ← a]; simp
  · rw [List.getElem?_eq_none (by omega), List.getElem?_eq_none (by omega)]

theorem jb_wt (ls : List En) : jbK (inK ls 1 ls.length) (inK ls 1 ls.length).length = wtK ls ls.length := by
  unfold jbK inK wtK
  rw [List.take_length]

set_option maxRecDepth 8000 in
set_option maxHeartbeats 4000000 in
theorem implWaits_any (s : St) (na : Option Addr) (nc : Nat) (ea : Option Addr) (ec : Nat) (w : World) (h : StS w s na nc ea ec) (hs : stSmall s) (ys : List Jb) (hy : IsW s ys) :
    Calls Tryz.prog 7 #[stV s na nc ea ec] w fun e w' => ∃ v c, e = .returned (.slice v ys.length c) ∧ LJb w' w.heap.size v ys.length c ys ∧ Below w.heap.size w w' := by
  have hwf := h.en.wf
  have hs2 := hs.2.1
  have C1 : ∀ W, Below w.heap.size w W → _ := fun W hW => implStateOk_any s na nc ea ec W (h.below hW) hs
  have C2 : ∀ W, Below w.heap.size w W → _ := fun W hW => implIn_any s 1 na nc ea ec W (h.below hW) hs2
  unfold stV at C1 C2 ⊢
  obtain ⟨W0, hW0⟩ : ∃ W0, W0 = w.alloc (.cells #[.int .i64 s.now, .slice na s.nodes.length nc, .slice ea s.ents.length ec, .int .i64 s.next, .int .i64 s.eps] 32) := ⟨_, rfl⟩
  have B0 : Below w.heap.size w W0 := by rw [hW0]; exact box_below0
  have x0 : W0.heap[w.heap.size]? = some (.cells #[.int .i64 s.now, .slice na s.nodes.length nc, .slice ea s.ents.length ec, .int .i64 s.next, .int .i64 s.eps] 32 (0, 0)) := by rw [hW0]; exact heap_alloc_new _ _
  have l0 := lt_of_block x0
  have HT : Hid (∀ X, Below W0.heap.size W0 X → Box5 X w.heap.size (.int .i64 s.now) (.slice na s.nodes.length nc) (.slice ea s.ents.length ec) (.int .i64 s.next) (.int .i64 s.eps)) := fun X hX => box5 ((hX.block _ l0).trans x0)
  obtain ⟨p0, p1, p2, p3, p4, _, _, _, _, _⟩ := HT.out _ (Below.refl _ _)
  clear h hs x0 l0
  rcases q1 : soB s with _ | _
  · have E : ys = [] := hy.uniq (Or.inl ⟨q1, rfl⟩)
    subst E
    rw [q1] at C1
    clear C2 hy
    go_enter Tryz.func7, Tryz.ntmps7
    go_upto_region 1 with fail
    rw [← hW0]
    clear hW0
    go_wp2_with (go_at_call 19; refine (C1 _ B0).mono ?_; rintro e1 w1 ⟨rfl, hb1⟩)
    go_ret
    exact ⟨none, 0, rfl, ⟨rfl, Or.inl ⟨rfl, rfl, rfl⟩⟩, B0.then hb1 B0.size⟩
  · rw [q1] at C1
    have HY : Hid (∀ zs, IsQ (wtK s.ents s.ents.length) zs → ys = zs) := fun zs hz => hy.uniq (Or.inr ⟨q1, hz⟩)
    clear hy
    have hwf2 := wtK_wf hwf
    go_enter Tryz.func7, Tryz.ntmps7
    go_upto_region 1 with fail
    rw [← hW0]
    clear hW0
    go_upto_region 3 with (go_at_call 19; refine (C1 _ B0).mono ?_; rintro e1 w1 ⟨rfl, hb1⟩)
    have B1 := B0.then hb1 B0.size
    obtain ⟨a0, a1, a2, a3, a4, _, _, _, _, _⟩ := HT.out _ hb1
    have hin := inK_le (ls := s.ents) (p := 1) (Nat.le_refl s.ents.length)
    have HW : Hid (jbK (inK s.ents 1 s.ents.length) (inK s.ents 1 s.ents.length).length = wtK s.ents s.ents.length) := jb_wt s.ents
    clear C1 p0 p1 p2 p3 p4
    rcases q2 : jsB (wtK s.ents s.ents.length) with _ | _
    · have E : ys = [] := HY.out [] (Or.inl ⟨q2, rfl⟩)
      subst E
      clear HY
      go_wp2_with (first
        | (go_at_call 22; refine (C2 _ B1).mono ?_; rintro e2 w2 ⟨g, c, rfl, hE, hb2⟩; have B2 := B1.then hb2 B1.size)
        | (go_at_call 21; refine (implJobsOf_any _ _ _ _ _ hE (by omega)).mono ?_; rintro e3 w3 ⟨g3, c3, rfl, hO, hb3⟩; have B3 := B2.then hb3 B2.size; have hJ := ownJ_toS hO (fun i hi => hE.wf i hi); rw [HW.out] at hJ)
        | (go_at_call 20; refine (implQueue_no _ _ _ _ _ hJ q2).mono ?_; rintro e4 w4 ⟨rfl, hb4⟩))
      go_ret
      exact ⟨none, 0, rfl, ⟨rfl, Or.inl ⟨rfl, rfl, rfl⟩⟩, B3.then hb4 B3.size⟩
    · go_wp2_with (first
        | (go_at_call 22; refine (C2 _ B1).mono ?_; rintro e2 w2 ⟨g, c, rfl, hE, hb2⟩; have B2 := B1.then hb2 B1.size)
        | (go_at_call 21; refine (implJobsOf_any _ _ _ _ _ hE (by omega)).mono ?_; rintro e3 w3 ⟨g3, c3, rfl, hO, hb3⟩; have B3 := B2.then hb3 B2.size; have hJ := ownJ_toS hO (fun i hi => hE.wf i hi); rw [HW.out] at hJ)
        | (go_at_call 20; refine (implQueue_yes _ _ _ _ _ hJ q2).mono ?_; rintro e4 w4 ⟨g4, zs, rfl, hg4, hJB, hzl, hzq, hb4⟩))
      have hE' := HY.out zs hzq
      subst hE'
      have hsz := B3.size
      go_ret
      exact ⟨some ⟨g4, 0, none⟩, (inK s.ents 1 s.ents.length).length, by rw [hzl]; rfl, ⟨rfl, Or.inr ⟨g4, rfl, hJB.own hzl (by omega) (by unfold maxLen; omega)⟩⟩, B3.then hb4 B3.size⟩

end Go.Proofs.YtdgfkcobhhlfbaaGreat
