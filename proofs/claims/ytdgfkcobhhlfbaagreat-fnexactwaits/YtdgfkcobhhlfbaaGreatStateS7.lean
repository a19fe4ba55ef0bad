/- Chapter 13's model: InUse, Waits. -/
import Derived.Test.YtdgfkcobhhlfbaaGreatStateS5
namespace Go.Proofs.YtdgfkcobhhlfbaaGreat
open Go.RowKit Go.Sort

/-- what is told to be in use -/
noncomputable def iuA (s : St) : List Int := if soB s = true then iuK s s.ents.length else []
theorem lint_nil (w : World) (base : Nat) (h : base ≤ w.heap.size) : LInt (w.alloc (.cells #[] 2)) base (some ⟨w.heap.size, 0, none⟩) 0 0 [] :=
  ⟨rfl, Or.inr ⟨_, rfl, h, ⟨#[], heap_alloc_new _ _, Nat.zero_le _, fun i hi => by omega⟩, Nat.le_refl _, Nat.zero_le _⟩⟩

/-- the jobs that wait among the first k -/
def wtK (ls : List En) (k : Nat) : List Jb := ((ls.take k).filter fun e => e.ph == 1).map (·.job)
theorem wtK_yes {ls : List En} {k : Nat} (hk : k < ls.length) (h : (eng ls k).ph = 1) : wtK ls (k + 1) = wtK ls k ++ [(eng ls k).job] := by
  unfold wtK
  have h' : ((ls[k]).ph == 1) = true := by rw [← eng_get hk]; simpa using h
  rw [List.take_succ_eq_append_getElem hk, List.filter_append, List.map_append, ← eng_get hk]
  rw [eng_get hk]
  simp [h']
theorem wtK_no {ls : List En} {k : Nat} (hk : k < ls.length) (h : (eng ls k).ph ≠ 1) : wtK ls (k + 1) = wtK ls k := by
  unfold wtK
  have h' : ((ls[k]).ph == 1) = false := by rw [← eng_get hk]; simpa using h
  rw [List.take_succ_eq_append_getElem hk, List.filter_append]
  simp [h']
theorem wtK_le {ls : List En} {k : Nat} (hk : k ≤ ls.length) : (wtK ls k).length ≤ k := by
  unfold wtK
  rw [List.length_map]
  refine Nat.le_trans (List.length_filter_le _ _) ?_
  rw [List.length_take]; omega
theorem wtK_mem {ls : List En} {k : Nat} {j : Jb} (h : j ∈ wtK ls k) : ∃ i, i < ls.length ∧ j = (eng ls i).job := by
  unfold wtK at h
  obtain ⟨e, he, rfl⟩ := List.mem_map.1 h
  obtain ⟨i, hi, rfl⟩ := List.getElem_of_mem (List.mem_of_mem_take (List.mem_filter.1 he).1)
  exact ⟨i, hi, by rw [eng_get hi]⟩
theorem wtK_wf {ls : List En} (hw : ∀ i, i < ls.length → enwf (eng ls i)) : ∀ i, i < (wtK ls ls.length).length → jwf (jg (wtK ls ls.length) i) := fun i hi => by
  rw [jg_get hi]
  obtain ⟨j, hj, e⟩ := wtK_mem (List.getElem_mem hi)
  rw [e]
  intro c hc
  have := (hw j hj).1 c (by omega)
  unfold enc at this
  rwa [if_pos hc] at this

set_option maxRecDepth 8000 in
set_option maxHeartbeats 4000000 in
theorem l13Waits_any (s : St) (na : Option Addr) (nc : Nat) (ea : Option Addr) (ec : Nat) (w : World) (h : StS w s na nc ea ec) (hs : s.ents.length ≤ 1048576) :
    Calls Tryz.prog 16 #[stV s na nc ea ec] w fun e w' => ∃ v m c ys, e = .returned (.slice v m c) ∧ JobS w' v m c ys ∧ IsQ (wtK s.ents s.ents.length) ys ∧ Below w.heap.size w w' := by
  obtain ⟨i1, hj, hj0, hj1, hj2⟩ := info_parts infoJ
  have hmx := h.en.mx
  have hle := h.en.le
  unfold maxLen at hmx
  have hew := h.en.wf
  unfold stV
  obtain ⟨W0, hW0⟩ : ∃ W0, W0 = (w.alloc (.cells #[.int .i64 s.now, .slice na s.nodes.length nc, .slice ea s.ents.length ec, .int .i64 s.next, .int .i64 s.eps] 32)).alloc (.cells #[] 49) := ⟨_, rfl⟩
  have B0 : Below w.heap.size w W0 := by rw [hW0]; exact box_below0.alloc (by simp) _
  have x0 : W0.heap[w.heap.size]? = some (.cells #[.int .i64 s.now, .slice na s.nodes.length nc, .slice ea s.ents.length ec, .int .i64 s.next, .int .i64 s.eps] 32 (0, 0)) := by rw [hW0]; exact (Below.heap_alloc _ _ _ (by simp)).trans (heap_alloc_new _ _)
  have l0 := lt_of_block x0
  have O0 : OwnJ W0 w.heap.size (w.heap.size + 1) 0 [] := by
    have := World.ownsRow_made (base := w.heap.size) (e := 49) (size := 7) (w.alloc (.cells #[.int .i64 s.now, .slice na s.nodes.length nc, .slice ea s.ents.length ec, .int .i64 s.next, .int .i64 s.eps] 32)) #[] 0 (by simp) (Nat.zero_le _) rfl
    have e : (w.alloc (.cells #[.int .i64 s.now, .slice na s.nodes.length nc, .slice ea s.ents.length ec, .int .i64 s.next, .int .i64 s.eps] 32)).heap.size = w.heap.size + 1 := by simp
    rw [e] at this
    rw [hW0]
    exact ⟨this, Nat.le_refl _, Nat.zero_le _, by omega, by simp⟩
  have HX : Hid (∀ W, Below W0.heap.size W0 W → Box5 W w.heap.size (.int .i64 s.now) (.slice na s.nodes.length nc) (.slice ea s.ents.length ec) (.int .i64 s.next) (.int .i64 s.eps)) := fun W hW => box5 ((hW.block _ l0).trans x0)
  have HE : Hid (∀ W, Below w.heap.size w W → EntS W ea s.ents.length ec s.ents) := fun W hW => h.en.below hW
  have HXW : Hid (∀ W, W.heap[w.heap.size]? = W0.heap[w.heap.size]? → Box5 W w.heap.size (.int .i64 s.now) (.slice na s.nodes.length nc) (.slice ea s.ents.length ec) (.int .i64 s.next) (.int .i64 s.eps)) := fun W hW => box5 (hW.trans x0)
  go_enter Tryz.func16, Tryz.ntmps16
  go_upto_region 2 with fail
  rw [← hW0]
  clear hW0 x0 l0 h
  go_wp2
  go_loopw [3, 4] (fun ov i wr => ∃ (k m g c : Nat), k ≤ s.ents.length ∧ Hid (m = (wtK s.ents k).length) ∧ i = .int .i64 k ∧ ov = .slice (some ⟨g, 0, none⟩) m c ∧ w.heap.size < g ∧ Hid (OwnJ wr w.heap.size g c (wtK s.ents k)) ∧ wr.heap[w.heap.size]? = W0.heap[w.heap.size]? ∧ Below w.heap.size w wr) (fun _ i _ => s.ents.length - (intOf i).toNat)
  case atStart => exact ⟨0, 0, _, 0, by omega, rfl, rfl, rfl, by omega, O0, rfl, B0⟩
  case round =>
    obtain ⟨k, m, g, c, hk, HML, rfl, rfl, hg, HO, hx, hw⟩ := hrel
    rename World => wr
    clear O0
    obtain ⟨c0, c1, c2, c3, c4, _, _, _, _, _⟩ := HXW.out wr hx
    by_cases hlt : k < s.ents.length
    · obtain ⟨b, off, rfl, hbw, hat⟩ := (HE.out _ hw).at_ (by omega)
      obtain ⟨v, pm, E⟩ := hat.row (i := k) hlt
      obtain ⟨d0, d1, d2, d3, d4, d5, d6, d7, d8, d9, d10, hps⟩ := E
      have hlt' : (k : Int) < (s.ents.length : Int) := by omega
      have hmk : m ≤ k := by rw [HML.out]; exact wtK_le hk
      have own5 := HO.out.own
      have hgl := HO.out.lt
      have z5 := hw.size
      rw [← HML.out] at own5
      clear hat hps
      by_cases hph : (eng s.ents k).ph = 1
      rotate_left
      · have hph' : ((eng s.ents k).ph == 1) = false := by simpa using hph
        have HJ : Hid (wtK s.ents (k + 1) = wtK s.ents k) := wtK_no hlt hph
        clear own5 hph
        go_wp2
        exact ⟨⟨k + 1, m, g, c, by omega, by rw [HJ.out]; exact HML.out, by go_num, rfl, hg, by rw [HJ.out]; exact HO, hx, hw⟩, by simp [intOf]; omega⟩
      have hph' : ((eng s.ents k).ph == 1) = true := by simpa using hph
      have HJ : Hid (wtK s.ents (k + 1) = wtK s.ents k ++ [(eng s.ents k).job]) := wtK_yes hlt hph
      clear hph
      go_wp2_with (at_builtin; refine wpList_append_own_at _ rfl (.tmp 20) (.tmp 27) 27 rfl w.heap.size 49 i1 (.agg #[.int .i64 0, .int .i64 0, .int .i64 0, .int .i64 0, .int .i64 0, .int .i64 0, .int .i64 0]) 7 56 Tryz.underlying27 hj hj0 hj1 hj2 rfl (by decide) _ _ _ rfl (own5.alloc _) ⟨wr.heap.size, 0, none⟩ 1 1 (jl (eng s.ents k).job) rfl rfl (nj7_plain _ _ _) (jl_one _) (by unfold maxLen; omega) (by omega) (by simp; omega) ?_)
      intro v' w4 hown' hgrow _ hat'
      have B4 : Below w.heap.size w w4 := (hw.alloc z5 _).grown hgrow (by simp; omega) (fun r q => by simp [Value.ownBlock] at q; omega)
      have hv : v' ≠ .slice none 0 0 := fun e => by
        rcases hown'.2 with ⟨_, h0⟩ | ⟨g3, c3, _, e3, _⟩
        · omega
        · rw [e3] at e; cases e
      have x4 : w4.heap[w.heap.size]? = W0.heap[w.heap.size]? := (hgrow.block _ (by simp; omega) (by simp [Value.ownBlock]; omega)).trans ((Below.heap_alloc _ _ _ (by omega)).trans hx)
      obtain ⟨g3, c3', e3, O3⟩ := ownJ_of' (ys := wtK s.ents (k + 1)) hown' (by rw [HJ.out, List.length_append, ← HML.out]; rfl) (by rw [HJ.out, jcells_app]; rfl) hv
      subst e3
      have hg3 : w.heap.size < g3 := by
        rcases hat' with e | e
        · simp [Value.ownBlock] at e; omega
        · simp [Value.ownBlock] at e; omega
      have HO3 : Hid (OwnJ w4 w.heap.size g3 c3' (wtK s.ents (k + 1))) := O3
      clear O3 hown' hgrow hv own5 hat'
      go_wp2
      exact ⟨⟨k + 1, m + 1, g3, c3', by omega, by rw [HJ.out, List.length_append, ← HML.out]; rfl, by go_num, rfl, hg3, HO3, x4, B4⟩, by simp [intOf]; omega⟩
    · obtain rfl : k = s.ents.length := by omega
      have hnn : ¬ (s.ents.length : Int) < (s.ents.length : Int) := by omega
      have JS := HO.out.toS (wtK_wf hew)
      rw [← HML.out] at JS
      clear HML
      obtain ⟨ls, hls⟩ : ∃ ls, ls = wtK s.ents s.ents.length := ⟨_, rfl⟩
      rw [← hls] at JS
      have HLS : Hid (ls = wtK s.ents s.ents.length) := hls
      clear hls HO
      have CQ := specQueue_any _ _ _ ls wr JS
      go_wp2_with (go_at_call 36; refine CQ.mono ?_; rintro e w5 ⟨v5, m5, c5, ys, rfl, J5, Q5, hb5⟩; have HQ5 : Hid (IsQ ls ys) := Q5; clear Q5)
      go_ret
      exact ⟨v5, m5, c5, ys, rfl, J5, by rw [← HLS.out]; exact HQ5.out, hw.then hb5 hw.size⟩


end Go.Proofs.YtdgfkcobhhlfbaaGreat
