/- Chapter 13's model: InUse, Waits. -/
import Derived.Test.YthgdjecbaomffaaStateS5
namespace Go.Proofs.Ythgdjecbaomffaa
open Go.RowKit Go.Sort

/-- what is told to be in use -/
noncomputable def iuA (s : St) : List Int := if soB s = true then iuK s s.ents.length else []
theorem lint_nil (w : World) (base : Nat) (h : base ≤ w.heap.size) : LInt (w.alloc (.cells #[] 2)) base (some ⟨w.heap.size, 0, none⟩) 0 0 [] :=
  ⟨rfl, Or.inr ⟨_, rfl, h, ⟨#[], heap_alloc_new _ _, Nat.zero_le _, fun i hi => by omega⟩, Nat.le_refl _, Nat.zero_le _⟩⟩

set_option maxHeartbeats 2000000 in
theorem specInUse_any (s : St) (na : Option Addr) (nc : Nat) (ea : Option Addr) (ec : Nat) (w : World) (h : StS w s na nc ea ec) (hs : stSmall s) :
    Calls Try.prog 20 #[stV s na nc ea ec] w fun e w' => ∃ v c, e = .returned (.slice v (iuA s).length c) ∧ LInt w' w.heap.size v (iuA s).length c (iuA s) ∧ Below w.heap.size w w' := by
  have CS := fun W hW => specStateOk_any s na nc ea ec W hW hs
  have CU := fun W hW => l13InUse_any s na nc ea ec W hW hs
  unfold stV at CS CU ⊢
  obtain ⟨W0, hW0⟩ : ∃ W0, W0 = w.alloc (.cells #[.int .i64 s.now, .slice na s.nodes.length nc, .slice ea s.ents.length ec, .int .i64 s.next, .int .i64 s.eps] 31) := ⟨_, rfl⟩
  have B0 : Below w.heap.size w W0 := by rw [hW0]; exact box_below0
  have x0 : W0.heap[w.heap.size]? = some (.cells #[.int .i64 s.now, .slice na s.nodes.length nc, .slice ea s.ents.length ec, .int .i64 s.next, .int .i64 s.eps] 31 (0, 0)) := by rw [hW0]; exact heap_alloc_new _ _
  have l0 := lt_of_block x0
  have HX : Hid (∀ W, Below W0.heap.size W0 W → Box5 W w.heap.size (.int .i64 s.now) (.slice na s.nodes.length nc) (.slice ea s.ents.length ec) (.int .i64 s.next) (.int .i64 s.eps)) := fun W hW => box5 ((hW.block _ l0).trans x0)
  have HSS : Hid (∀ W, Below W0.heap.size W0 W → StS W s na nc ea ec) := fun W hW => h.below (B0.then hW B0.size)
  obtain ⟨c0, c1, c2, c3, c4, _, _, _, _, _⟩ := box5 x0
  obtain ⟨u, hu⟩ : ∃ u, u = iuA s := ⟨_, rfl⟩
  have HU : Hid (u = iuA s) := hu
  rw [← hu]
  clear hu
  go_enter Try.func20, Try.ntmps20
  go_upto_region 1 with fail
  rw [← hW0]
  clear hW0 x0 l0 h
  rcases hso : soB s with _ | _
  · have E : u = [] := HU.out.trans (by unfold iuA; rw [hso]; rfl)
    subst E
    rw [hso] at CS
    go_wp2_with (go_at_call 8; refine (CS _ (HSS.out _ (Below.refl _ _))).mono ?_; rintro e w2 ⟨rfl, hb2⟩; have H2 : Hid (Below W0.heap.size W0 w2) := hb2; clear hb2)
    go_ret
    exact ⟨some ⟨w2.heap.size, 0, none⟩, 0, rfl, lint_nil w2 _ (B0.then H2.out B0.size).size, (B0.then H2.out B0.size).alloc (B0.then H2.out B0.size).size _⟩
  · have E : Hid (u = iuK s s.ents.length) := HU.out.trans (by unfold iuA; rw [hso]; rfl)
    rw [hso] at CS
    rw [← E.out] at CU
    go_wp2_with (first
      | (go_at_call 8; refine (CS _ (HSS.out _ (Below.refl _ _))).mono ?_; rintro e w2 ⟨rfl, hb2⟩; have H2 : Hid (Below W0.heap.size W0 w2) := hb2; clear hb2 c0 c1 c2 c3 c4; obtain ⟨c0, c1, c2, c3, c4, _, _, _, _, _⟩ := HX.out _ H2.out)
      | (go_at_call 34; refine (CU _ (HSS.out _ H2.out)).mono ?_; rintro e w3 ⟨v3, c3', rfl, L3, hb3⟩; have H3 : Hid (Below w2.heap.size w2 w3) := hb3; clear hb3))
    go_ret
    have Z2 := B0.then H2.out B0.size
    exact ⟨v3, c3', rfl, L3.low Z2.size, Z2.then H3.out Z2.size⟩

/-- the jobs that wait among the first k -/
def wtK (ls : List En) (k : Nat) : List Jb := ((ls.take k).filter fun e => e.ph == 1).map (·.job)
theorem wtK_yes {ls : List En} {k : Nat} (hk : k < ls.length) (h : (eng ls k).ph = 1) : wtK ls (k + 1) = wtK ls k ++ [(eng ls k).job] := by
  unfold wtK
  have h' : ((ls[k]).ph == 1) = true := by rw [← eng_get hk]; simpa using h
  rw [List.take_succ_eq_append_getElem hk, List.filter_append, List.map_append, ← eng_get hk]
  rw [eng_get hk]
  simp [h']
theorem wtK_no {ls : List En} {k : Nat} (hk : k < ls.length) (h : (eng ls k).ph ≠ 1) : wtK ls (k + 1) = wtK ls k := by
  unfold wtK
  have h' : ((ls[k]).ph == 1) = false := by rw [← eng_get hk]; simpa using h
  rw [List.take_succ_eq_append_getElem hk, List.filter_append]
  simp [h']
theorem wtK_le {ls : List En} {k : Nat} (hk : k ≤ ls.length) : (wtK ls k).length ≤ k := by
  unfold wtK
  rw [List.length_map]
  refine Nat.le_trans (List.length_filter_le _ _) ?_
  rw [List.length_take]; omega
theorem wtK_mem {ls : List En} {k : Nat} {j : Jb} (h : j ∈ wtK ls k) : ∃ i, i < ls.length ∧ j = (eng ls i).job := by
  unfold wtK at h
  obtain ⟨e, he, rfl⟩ := List.mem_map.1 h
  obtain ⟨i, hi, rfl⟩ := List.getElem_of_mem (List.mem_of_mem_take (List.mem_filter.1 he).1)
  exact ⟨i, hi, by rw [eng_get hi]⟩
theorem wtK_wf {ls : List En} (hw : ∀ i, i < ls.length → enwf (eng ls i)) : ∀ i, i < (wtK ls ls.length).length → jwf (jg (wtK ls ls.length) i) := fun i hi => by
  rw [jg_get hi]
  obtain ⟨j, hj, e⟩ := wtK_mem (List.getElem_mem hi)
  rw [e]
  intro c hc
  have := (hw j hj).1 c (by omega)
  unfold enc at this
  rwa [if_pos hc] at this

end Go.Proofs.Ythgdjecbaomffaa
