/- Chapter 13's model: the Jobs of a State; the cores in use. -/
import Derived.Test.YthgdjecbaomffaaStateS
import Derived.Test.YthgdjecbaomffaaJobQS
namespace Go.Proofs.Ythgdjecbaomffaa
open Go.RowKit Go.Sort

/-- the jobs of the first k entries -/
def jbK (ls : List En) (k : Nat) : List Jb := (ls.take k).map (·.job)
theorem jbK_s {ls : List En} {k : Nat} (hk : k < ls.length) : jbK ls (k + 1) = jbK ls k ++ [(eng ls k).job] := by
  unfold jbK
  rw [List.take_succ_eq_append_getElem hk, List.map_append, ← eng_get hk]; rfl
theorem jbK_len {ls : List En} {k : Nat} (hk : k ≤ ls.length) : (jbK ls k).length = k := by unfold jbK; simp; omega
theorem jbK_at {ls : List En} {k i : Nat} (hi : i < k) (hk : k ≤ ls.length) : jg (jbK ls k) i = (eng ls i).job := by
  have h2 : i < ls.length := by omega
  unfold jg jbK
  rw [List.getElem?_map, List.getElem?_take_of_lt hi, List.getElem?_eq_getElem h2, ← eng_get h2]; rfl

theorem nj7_plain (W : World) (j : Jb) (T : TypeId) : ∀ i u, (jl j)[i]? = some u → (W.alloc (.cells #[.int .i64 j.id, .int .i64 j.cores, .int .i64 j.long, .int .i64 j.due, .int .i64 j.wt, .int .i64 j.rank, .int .i64 j.at_] T)).cell? ((⟨W.heap.size, 0, none⟩ : Addr).add i) = some u := by
  intro i u hi
  have hadd : (⟨W.heap.size, 0, none⟩ : Addr).add i = ⟨W.heap.size, i, none⟩ := by unfold Addr.add; split <;> simp_all
  rw [hadd, Joins.cell_alloc_mark_at _ _ _ _ _ _ rfl]
  show (List.toArray (jl j))[i]? = _
  rw [List.getElem?_toArray]
  exact hi

set_option maxRecDepth 8000 in
set_option maxHeartbeats 2000000 in
theorem l13Jobs_any (s : St) (na : Option Addr) (nc : Nat) (ea : Option Addr) (ec : Nat) (w : World) (h : StS w s na nc ea ec) (hs : s.ents.length ≤ 1048576) :
    Calls Try.prog 31 #[stV s na nc ea ec] w fun e w' => ∃ g c, e = .returned (.slice (some ⟨g, 0, none⟩) s.ents.length c) ∧ OwnJ w' w.heap.size g c (jbK s.ents s.ents.length) ∧ Below w.heap.size w w' := by
  obtain ⟨i1, hj, hj0, hj1, hj2⟩ := info_parts infoJ
  have hmx := h.en.mx
  have hle := h.en.le
  unfold maxLen at hmx
  unfold stV
  obtain ⟨W0, hW0⟩ : ∃ W0, W0 = (w.alloc (.cells #[.int .i64 s.now, .slice na s.nodes.length nc, .slice ea s.ents.length ec, .int .i64 s.next, .int .i64 s.eps] 31)).alloc (.cells #[] 56) := ⟨_, rfl⟩
  have B0 : Below w.heap.size w W0 := by rw [hW0]; exact box_below0.alloc (by simp) _
  have x0 : W0.heap[w.heap.size]? = some (.cells #[.int .i64 s.now, .slice na s.nodes.length nc, .slice ea s.ents.length ec, .int .i64 s.next, .int .i64 s.eps] 31 (0, 0)) := by rw [hW0]; exact (Below.heap_alloc _ _ _ (by simp)).trans (heap_alloc_new _ _)
  have l0 := lt_of_block x0
  have O0 : OwnJ W0 w.heap.size (w.heap.size + 1) 0 [] := by
    have := World.ownsRow_made (base := w.heap.size) (e := 56) (size := 7) (w.alloc (.cells #[.int .i64 s.now, .slice na s.nodes.length nc, .slice ea s.ents.length ec, .int .i64 s.next, .int .i64 s.eps] 31)) #[] 0 (by simp) (Nat.zero_le _) rfl
    have e : (w.alloc (.cells #[.int .i64 s.now, .slice na s.nodes.length nc, .slice ea s.ents.length ec, .int .i64 s.next, .int .i64 s.eps] 31)).heap.size = w.heap.size + 1 := by simp
    rw [e] at this
    rw [hW0]
    exact ⟨this, Nat.le_refl _, Nat.zero_le _, by omega, by simp⟩
  have HX : Hid (∀ W, Below W0.heap.size W0 W → Box5 W w.heap.size (.int .i64 s.now) (.slice na s.nodes.length nc) (.slice ea s.ents.length ec) (.int .i64 s.next) (.int .i64 s.eps)) := fun W hW => box5 ((hW.block _ l0).trans x0)
  have HE : Hid (∀ W, Below w.heap.size w W → EntS W ea s.ents.length ec s.ents) := fun W hW => h.en.below hW
  have HXW : Hid (∀ W, W.heap[w.heap.size]? = W0.heap[w.heap.size]? → Box5 W w.heap.size (.int .i64 s.now) (.slice na s.nodes.length nc) (.slice ea s.ents.length ec) (.int .i64 s.next) (.int .i64 s.eps)) := fun W hW => box5 (hW.trans x0)
  go_enter Try.func31, Try.ntmps31
  go_upto_region 2 with fail
  rw [← hW0]
  clear hW0 x0 l0 h
  go_wp2
  go_loopw [3, 4] (fun ov i wr => ∃ (k g c : Nat), k ≤ s.ents.length ∧ i = .int .i64 k ∧ ov = .slice (some ⟨g, 0, none⟩) k c ∧ w.heap.size < g ∧ Hid (OwnJ wr w.heap.size g c (jbK s.ents k)) ∧ wr.heap[w.heap.size]? = W0.heap[w.heap.size]? ∧ Below w.heap.size w wr) (fun _ i _ => s.ents.length - (intOf i).toNat)
  case atStart => exact ⟨0, _, 0, by omega, rfl, rfl, by omega, O0, rfl, B0⟩
  case round =>
    obtain ⟨k, g, c, hk, rfl, rfl, hg, HO, hx, hw⟩ := hrel
    rename World => wr
    clear O0
    obtain ⟨c0, c1, c2, c3, c4, _, _, _, _, _⟩ := HXW.out wr hx
    by_cases hlt : k < s.ents.length
    · obtain ⟨b, off, rfl, hbw, hat⟩ := (HE.out _ hw).at_ (by omega)
      obtain ⟨v, m, E⟩ := hat.row (i := k) hlt
      obtain ⟨d0, d1, d2, d3, d4, d5, d6, d7, d8, d9, d10, hps⟩ := E
      have hlt' : (k : Int) < (s.ents.length : Int) := by omega
      have HJ : Hid (jbK s.ents (k + 1) = jbK s.ents k ++ [(eng s.ents k).job]) := jbK_s hlt
      have hjl := jbK_len hk
      have own5 := HO.out.own
      have hgl := HO.out.lt
      have z5 := hw.size
      rw [hjl] at own5
      clear hat hps
      go_wp2_with (at_builtin; refine wpList_append_own_at _ rfl (.tmp 13) (.tmp 20) 53 rfl w.heap.size 56 i1 (.agg #[.int .i64 0, .int .i64 0, .int .i64 0, .int .i64 0, .int .i64 0, .int .i64 0, .int .i64 0]) 7 56 Try.underlying53 hj hj0 hj1 hj2 rfl (by decide) _ _ _ rfl (own5.alloc _) ⟨wr.heap.size, 0, none⟩ 1 1 (jl (eng s.ents k).job) rfl rfl (nj7_plain _ _ _) (jl_one _) (by unfold maxLen; omega) (by omega) (by simp; omega) ?_)
      intro v' w4 hown' hgrow _ hat'
      have B4 : Below w.heap.size w w4 := (hw.alloc z5 _).grown hgrow (by simp; omega) (fun r q => by simp [Value.ownBlock] at q; omega)
      have hv : v' ≠ .slice none 0 0 := fun e => by
        rcases hown'.2 with ⟨_, h0⟩ | ⟨g3, c3, _, e3, _⟩
        · omega
        · rw [e3] at e; cases e
      have x4 : w4.heap[w.heap.size]? = W0.heap[w.heap.size]? := (hgrow.block _ (by simp; omega) (by simp [Value.ownBlock]; omega)).trans ((Below.heap_alloc _ _ _ (by omega)).trans hx)
      obtain ⟨g3, c3', e3, O3⟩ := ownJ_of' (ys := jbK s.ents (k + 1)) hown' (by rw [HJ.out, List.length_append, hjl]; rfl) (by rw [HJ.out, jcells_app]; rfl) hv
      subst e3
      have hg3 : w.heap.size < g3 := by
        rcases hat' with e | e
        · simp [Value.ownBlock] at e; omega
        · simp [Value.ownBlock] at e; omega
      have HO3 : Hid (OwnJ w4 w.heap.size g3 c3' (jbK s.ents (k + 1))) := O3
      clear O3 hown' hgrow hv own5 hat'
      go_wp2
      exact ⟨⟨k + 1, g3, c3', by omega, by go_num, rfl, hg3, HO3, x4, B4⟩, by simp [intOf]; omega⟩
    · obtain rfl : k = s.ents.length := by omega
      have hnn : ¬ (s.ents.length : Int) < (s.ents.length : Int) := by omega
      go_wp2
      go_ret
      exact ⟨g, c, rfl, HO.out, hw⟩

/-- what the first k entries have in use of each node -/
noncomputable def iuK (s : St) : Nat → List Int
  | 0 => List.replicate s.nodes.length 0
  | k + 1 => if (eng s.ents k).ph = 2 then (chF (iuK s k) (eng s.ents k).ps 1).getD [] else iuK s k
theorem iuK_len (s : St) : ∀ k, (iuK s k).length ≤ s.nodes.length
  | 0 => by simp [iuK]
  | k + 1 => by
    have ih := iuK_len s k
    simp only [iuK]
    split
    · exact Nat.le_trans (chF_len _ _ _) ih
    · exact ih

set_option maxRecDepth 8000 in
set_option maxHeartbeats 2000000 in
theorem l13InUse_any (s : St) (na : Option Addr) (nc : Nat) (ea : Option Addr) (ec : Nat) (w : World) (h : StS w s na nc ea ec) (hs : stSmall s) :
    Calls Try.prog 34 #[stV s na nc ea ec] w fun e w' => ∃ v c, e = .returned (.slice v (iuK s s.ents.length).length c) ∧ LInt w' w.heap.size v (iuK s s.ents.length).length c (iuK s s.ents.length) ∧ Below w.heap.size w w' := by
  obtain ⟨hs1, hs2, hs3⟩ := hs
  have hmx := h.en.mx
  have hle := h.en.le
  unfold maxLen at hmx
  unfold stV
  obtain ⟨W0, hW0⟩ : ∃ W0, W0 = w.alloc (.cells #[.int .i64 s.now, .slice na s.nodes.length nc, .slice ea s.ents.length ec, .int .i64 s.next, .int .i64 s.eps] 31) := ⟨_, rfl⟩
  have B0 : Below w.heap.size w W0 := by rw [hW0]; exact box_below0
  have x0 : W0.heap[w.heap.size]? = some (.cells #[.int .i64 s.now, .slice na s.nodes.length nc, .slice ea s.ents.length ec, .int .i64 s.next, .int .i64 s.eps] 31 (0, 0)) := by rw [hW0]; exact heap_alloc_new _ _
  have l0 := lt_of_block x0
  have hmk := run_makeM s.nodes.length hs1 W0
  obtain ⟨W1, hW1⟩ : ∃ W1, W1 = W0.alloc (.cells (madeCells #[.int .i64 0] s.nodes.length) 2) := ⟨_, rfl⟩
  have b01 : Below W0.heap.size W0 W1 := by rw [hW1]; exact box_below0
  have B1 : Below w.heap.size w W1 := B0.then b01 B0.size
  have L1 : LInt W1 w.heap.size (some ⟨W0.heap.size, 0, none⟩) s.nodes.length s.nodes.length (iuK s 0) := by
    rw [hW1]
    refine ⟨by simp [iuK], Or.inr ⟨_, rfl, B0.size, ?_, Nat.le_refl _, by unfold maxLen; omega⟩⟩
    have := (LdB.made W0 s.nodes.length).toB
    simpa [iuK] using this
  have x1 := (b01.block _ l0).trans x0
  have l1 := lt_of_block x1
  have HX : Hid (∀ W, Below W1.heap.size W1 W → Box5 W w.heap.size (.int .i64 s.now) (.slice na s.nodes.length nc) (.slice ea s.ents.length ec) (.int .i64 s.next) (.int .i64 s.eps)) := fun W hW => box5 ((hW.block _ l1).trans x1)
  have HE : Hid (∀ W, Below w.heap.size w W → EntS W ea s.ents.length ec s.ents) := fun W hW => h.en.below hW
  obtain ⟨c0, c1, c2, c3, c4, _, _, _, _, _⟩ := box5 x0
  rw [← hW1] at hmk
  go_enter Try.func34, Try.ntmps34
  go_upto_region 1 with fail
  rw [← hW0]
  clear hW0 x0 l0 h x1 l1 hW1
  go_upto_region 2 with fail
  clear hmk c0 c1 c2 c3 c4
  generalize hz9 : s.nodes.length = nn at L1 ⊢
  have HNN : Hid (s.nodes.length = nn) := hz9
  clear hz9
  go_wp2
  go_loopw [3, 4] (fun ov i wr => ∃ (k : Nat) (v : Option Addr) (n c : Nat), k ≤ s.ents.length ∧ i = .int .i64 k ∧ ov = .slice v n c ∧ Hid (LInt wr w.heap.size v n c (iuK s k)) ∧ Below W1.heap.size W1 wr) (fun _ i _ => s.ents.length - (intOf i).toNat)
  case atStart => exact ⟨0, _, _, _, by omega, rfl, rfl, L1, Below.refl _ _⟩
  case round =>
    obtain ⟨k, v, n, c, hk, rfl, rfl, HL, hw1⟩ := hrel
    rename World => wr
    clear L1
    have hw := B1.then hw1 B1.size
    obtain ⟨c0, c1, c2, c3, c4, _, _, _, _, _⟩ := HX.out wr hw1
    by_cases hlt : k < s.ents.length
    · obtain ⟨b, off, rfl, hbw, hat⟩ := (HE.out _ hw).at_ (by omega)
      obtain ⟨pv, pm, E⟩ := hat.row (i := k) hlt
      obtain ⟨d0, d1, d2, d3, d4, d5, d6, d7, d8, d9, d10, hps⟩ := E
      have hlt' : (k : Int) < (s.ents.length : Int) := by omega
      clear hat
      by_cases hph : (eng s.ents k).ph = 2
      · have hp' : ((eng s.ents k).ph == 2) = true := by simpa using hph
        have HI : Hid (iuK s (k + 1) = (chF (iuK s k) (eng s.ents k).ps 1).getD []) := by unfold Hid; simp only [iuK]; rw [if_pos hph]
        have hnl := HL.out.1
        have hil := iuK_len s k
        have hsk := hs3 k hlt
        have hnc : v = none → c = 0 := fun e => by
          rcases HL.out.2 with ⟨_, h2, _⟩ | ⟨g, h2, _⟩
          · exact h2
          · rw [h2] at e; cases e
        have hLS := HL.out.toS
        obtain ⟨u2, hu2⟩ : ∃ u2, u2 = iuK s (k + 1) := ⟨_, rfl⟩
        have HU2 : Hid (iuK s (k + 1) = u2) := hu2.symm
        have HI2 := HI.out
        rw [← hu2] at HI2
        generalize iuK s k = u at hnl hil hLS HI2
        have CT := specTaken_any v pv n c (eng s.ents k).ps.length pm u (eng s.ents k).ps wr hLS hps hnc (by omega) (by omega)
        rw [← HI2] at CT
        clear hph hps hu2 HI2 HI hLS hnc hnl hil HL
        go_wp2_with (go_at_call 54; refine CT.mono ?_; rintro e w2 ⟨v2, c2', rfl, hL2, hb2⟩)
        exact ⟨⟨k + 1, v2, _, c2', by omega, by go_num, rfl, by rw [HU2.out]; exact hL2.low hw.size, hw1.then hb2 hw1.size⟩, by simp [intOf]; omega⟩
      · have hp' : ((eng s.ents k).ph == 2) = false := by simpa using hph
        have HI : Hid (iuK s (k + 1) = iuK s k) := by unfold Hid; simp only [iuK]; rw [if_neg hph]
        clear hph hps
        go_wp2
        exact ⟨⟨k + 1, v, n, c, by omega, by go_num, rfl, by rw [HI.out]; exact HL, hw1⟩, by simp [intOf]; omega⟩
    · obtain rfl : k = s.ents.length := by omega
      have hnn : ¬ (s.ents.length : Int) < (s.ents.length : Int) := by omega
      have hl9 := HL.out.1
      go_wp2
      go_ret
      exact ⟨v, c, by rw [← hl9]; rfl, by rw [← hl9]; exact HL.out, hw⟩

end Go.Proofs.Ythgdjecbaomffaa
