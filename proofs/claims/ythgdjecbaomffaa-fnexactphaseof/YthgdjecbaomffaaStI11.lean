/- The program's chapter 13, eleventh part: PhaseOf. -/
import Derived.Test.YthgdjecbaomffaaStI9
namespace Go.Proofs.Ythgdjecbaomffaa
open Go.RowKit Go.Sort Go.Maps

theorem lit_int {i c : Int} (h : (DataW.lit (Lit.int .i64 i) : DataW Unit) = .lit (.int .i64 c)) : c = i := by cases h; rfl
theorem isFd_ex (ls : List En) (id : Int) : (∃ i : Nat, i < ls.length ∧ (eng ls i).job.id = id) ∨ ∀ i, i < ls.length → (eng ls i).job.id ≠ id := by
  by_cases h : ∃ i : Nat, i < ls.length ∧ (eng ls i).job.id = id
  · exact Or.inl h
  · exact Or.inr fun i hi e => h ⟨i, hi, e⟩
theorem isFd_first {ls : List En} {id : Int} : ∀ n, n ≤ ls.length → (∃ i : Nat, i < n ∧ (eng ls i).job.id = id ∧ ∀ j, j < i → (eng ls j).job.id ≠ id) ∨ ∀ i, i < n → (eng ls i).job.id ≠ id
  | 0, _ => Or.inr fun i hi => by omega
  | n + 1, h => by
    rcases isFd_first (ls := ls) (id := id) n (by omega) with ⟨i, h1, h2, h3⟩ | h1
    · exact Or.inl ⟨i, by omega, h2, h3⟩
    · by_cases q : (eng ls n).job.id = id
      · exact Or.inl ⟨n, by omega, q, h1⟩
      · exact Or.inr fun i hi => by
          by_cases e : i = n
          · subst e; exact q
          · exact h1 i (by omega)
theorem isFd_some (ls : List En) (id : Int) : ∃ r, IsFd ls id r := by
  rcases isFd_first (ls := ls) (id := id) ls.length (Nat.le_refl _) with ⟨i, h1, h2, h3⟩ | h1
  · exact ⟨i, Or.inr ⟨i, h1, rfl, h2, h3⟩⟩
  · exact ⟨-1, Or.inl ⟨rfl, h1⟩⟩
theorem SOk.un {s : St} (h : SOk s) : ∀ i, i < s.ents.length → ∀ j, j < i → (eng s.ents j).job.id ≠ (eng s.ents i).job.id := fun i hi j hj => by
  have := (h.js.ok i (by rw [jbK_len (Nat.le_refl _)]; exact hi)).2 j hj
  rwa [jbK_at (by omega) (Nat.le_refl _), jbK_at hi (Nat.le_refl _)] at this
theorem zeroI (w : World) : (zeroValue 3).run Try.prog w = .ok (.int .i64 0) w := by kernel_rfl

set_option maxRecDepth 8000 in
set_option maxHeartbeats 4000000 in
theorem implPhaseOf_any (s : St) (id : Int) (hid : (Lit.int .i64 id).wf = true) (na : Option Addr) (nc : Nat) (ea : Option Addr) (ec : Nat) (w : World) (h : StS w s na nc ea ec) (hs : stSmall s) :
    Calls Try.prog 26 #[stV s na nc ea ec, .int .i64 id] w fun e w' => ∃ r, e = .returned (.int .i64 r) ∧ IsPh s id r ∧ Below w.heap.size w w' := by
  have hs2 := hs.2.1
  have hwf := h.en.wf
  have hmx := h.en.mx
  have hle := h.en.le
  unfold maxLen at hmx
  have hmm := @run_makeMap Try.prog
  have C1 : ∀ W, Below w.heap.size w W → _ := fun W hW => implStateOk_any s na nc ea ec W (h.below hW) hs
  have CF : ∀ W b, Below w.heap.size w W → W.heap[b]? = some (Obj.map #[] 0) → _ := fun W b hW hm => filled_any ea s.ents.length ec s.ents b #[] 0 W (h.en.below hW) hm hs2
  have HE : Hid (∀ W, Below w.heap.size w W → EntS W ea s.ents.length ec s.ents) := fun W hW => h.en.below hW
  unfold stV at C1 ⊢
  obtain ⟨W0, hW0⟩ : ∃ W0, W0 = w.alloc (.cells #[.int .i64 s.now, .slice na s.nodes.length nc, .slice ea s.ents.length ec, .int .i64 s.next, .int .i64 s.eps] 31) := ⟨_, rfl⟩
  have B0 : Below w.heap.size w W0 := by rw [hW0]; exact box_below0
  have x0 : W0.heap[w.heap.size]? = some (.cells #[.int .i64 s.now, .slice na s.nodes.length nc, .slice ea s.ents.length ec, .int .i64 s.next, .int .i64 s.eps] 31 (0, 0)) := by rw [hW0]; exact heap_alloc_new _ _
  have l0 := lt_of_block x0
  have HT : Hid (∀ X, Below W0.heap.size W0 X → Box5 X w.heap.size (.int .i64 s.now) (.slice na s.nodes.length nc) (.slice ea s.ents.length ec) (.int .i64 s.next) (.int .i64 s.eps)) := fun X hX => box5 ((hX.block _ l0).trans x0)
  obtain ⟨p0, p1, p2, p3, p4, _, _, _, _, _⟩ := HT.out _ (Below.refl _ _)
  clear h hs x0
  rcases q1 : soB s with _ | _
  · obtain ⟨r9, hr9⟩ := isFd_some s.ents id
    have HI : Hid (IsPh s id 0) := ⟨r9, hr9, Or.inl ⟨q1, rfl⟩⟩
    rw [q1] at C1
    clear hr9 CF HE
    go_enter Try.func26, Try.ntmps26
    go_upto_region 1 with fail
    rw [← hW0]
    clear hW0
    go_wp2_with (go_at_call 10; refine (C1 _ B0).mono ?_; rintro e1 w1 ⟨rfl, hb1⟩)
    go_ret
    exact ⟨0, rfl, HI.out, B0.then hb1 B0.size⟩
  · have so := soB_t q1
    have HSO : Hid (SOk s) := so
    rw [q1] at C1
    go_enter Try.func26, Try.ntmps26
    go_upto_region 1 with fail
    rw [← hW0]
    clear hW0
    go_upto_region 3 with (go_at_call 10; refine (C1 _ B0).mono ?_; rintro e1 w1 ⟨rfl, hb1⟩)
    have B1 := B0.then hb1 B0.size
    have D2 : Below W0.heap.size W0 (w1.alloc (.map #[] 0)) := hb1.alloc hb1.size _
    have B2 : Below w.heap.size w (w1.alloc (.map #[] 0)) := B0.then D2 B0.size
    obtain ⟨_, _, c2, _, _, _, _, _, _, _⟩ := HT.out _ D2
    have hnew : (w1.alloc (.map #[] 0)).heap[w1.heap.size]? = some (.map #[] 0) := (MapKept.heap_alloc w1 _).1
    have C3 := CF (w1.alloc (.map #[] 0)) w1.heap.size B2 hnew
    have l1 : w.heap.size < w1.heap.size := Nat.lt_of_lt_of_le l0 hb1.size
    have hns : some w.heap.size ≠ some w1.heap.size := fun q => by have := Option.some.inj q; omega
    clear C1 CF p0 p1 p2 p3 p4 so
    rcases isFd_first (ls := s.ents) (id := id) s.ents.length (Nat.le_refl _) with ⟨i, hi, hii, hj⟩ | hno
    · obtain ⟨hy1, hy2⟩ := plD_yes hwf HSO.out.un hid wf0 (i := i) (x := id) (y := 0) ⟨hii, Or.inl rfl⟩ s.ents.length (Nat.le_refl _) hi
      have HI : Hid (IsPh s id (eng s.ents i).ph) := ⟨i, Or.inr ⟨i, hi, rfl, hii, hj⟩, Or.inr (Or.inr ⟨q1, i, rfl, hi, rfl⟩)⟩
      have hi' : (i : Int) < (s.ents.length : Int) := by omega
      have hi0 : (0 : Int) ≤ (i : Int) := by omega
      clear hii hj q1
      go_wp2_with (first
        | (go_at_call 51; refine C3.mono ?_; rintro e3 w3 ⟨rfl, hP3, hg3⟩; have z2 := hg3.cell c2 hns; have B3 := B2.grown hg3 B2.size (fun k9 q9 => by have := Option.some.inj q9; omega); unfold PlM at hP3; obtain ⟨bb, off, hbo, hbw, hat⟩ := (HE.out _ B3).at_ (by omega); obtain ⟨v, m, E⟩ := hat.row hi; have d7 := E.c7; clear hat E; rw [hbo] at z2)
        | (at_lookup; refine wpList_lookup_own_ok_int _ rfl _ _ 78 rfl 81 3 .i64 lawM Try.underlying78 Try.underlying3 (zeroI _) w1.heap.size (2 * s.ents.length) (plD s.ents s.ents.length) rfl hP3 _ (mkL id 0) rfl (mkL_is hid wf0) ?_; intro c9 hat9 hwc9; rw [hy1]; rw [hy2] at hat9; have hc9 := lit_int hat9; subst hc9))
      go_ret
      exact ⟨_, rfl, HI.out, B3⟩
    · have hn1 := plD_no hwf hid wf0 (x := id) (y := 0) s.ents.length (Nat.le_refl _) (fun i hi q => hno i hi q.1)
      have HI : Hid (IsPh s id 0) := ⟨-1, Or.inl ⟨rfl, hno⟩, Or.inr (Or.inl ⟨by omega, rfl⟩)⟩
      clear hno q1
      go_wp2_with (first
        | (go_at_call 51; refine C3.mono ?_; rintro e3 w3 ⟨rfl, hP3, hg3⟩; have B3 := B2.grown hg3 B2.size (fun k9 q9 => by have := Option.some.inj q9; omega); unfold PlM at hP3)
        | (at_lookup; refine wpList_lookup_own_ok_int _ rfl _ _ 78 rfl 81 3 .i64 lawM Try.underlying78 Try.underlying3 (zeroI _) w1.heap.size (2 * s.ents.length) (plD s.ents s.ents.length) rfl hP3 _ (mkL id 0) rfl (mkL_is hid wf0) ?_; intro c9 hat9 hwc9; rw [hn1]))
      go_ret
      exact ⟨0, rfl, HI.out, B3⟩

end Go.Proofs.Ythgdjecbaomffaa
