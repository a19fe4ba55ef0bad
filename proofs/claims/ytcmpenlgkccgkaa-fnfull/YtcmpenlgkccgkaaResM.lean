/- A reservation: what is ahead, the changed middle and what is behind, joined, is what the model cuts: plain mathematics. -/
import Derived.Test.YtcmpenlgkccgkaaAreaMath
namespace Go.Proofs.Ytcmpenlgkccgkaa
open Go.RowKit

/-- what is there from a on, ahead of b -/
theorem PO.cpd_val {T : Int} {ls : List Lev} (po : PO T ls) {a b τ : Int} (ha : 0 ≤ a) (hab : a < b) (hb : b ≤ 1000000000) (h : a ≤ τ) (d : Int) : lastV d (cpd ls a b) τ = atI ls (min τ (b - 1)) := by
  have hlen : (cpd ls a b).length = lvl ls (b - 1) + 1 - lvl ls a := by rw [cpd_len]; exact po.dur_len ha hab
  obtain ⟨t, ht⟩ : ∃ t, t = min τ (b - 1) := ⟨_, rfl⟩
  have m1 := po.lvl_mono ha (t := t) (by omega)
  have m2 := po.lvl_mono (s := t) (t := b - 1) (by omega) (by omega)
  obtain ⟨j, hj⟩ : ∃ j, j = lvl ls t - lvl ls a := ⟨_, rfl⟩
  have hjl : j < (cpd ls a b).length := by omega
  obtain ⟨s1, s2, s3⟩ := po.lvl_spec (t := t) (by omega)
  obtain ⟨n1, n2, n3, n4, n5⟩ := po.cpd_nxt ha hab hb hjl
  have e : cpd ls a b = (cpd ls a b).take j ++ [(cpd ls a b)[j]] ++ (cpd ls a b).drop (j + 1) := by
    rw [← List.take_succ_eq_append_getElem hjl, List.take_append_drop]
  have hf : fr (cpd ls a b) j ≤ τ := by
    rcases Nat.eq_zero_or_pos j with c | c
    · rw [c, cpd_fr0 (by rw [← cpd_len]; omega)]; exact h
    · obtain ⟨i, rfl⟩ : ∃ i, j = i + 1 := ⟨j - 1, by omega⟩
      rw [cpd_fr, dur_fr hab (by omega), show lvl ls a + (i + 1) = lvl ls t by omega]; omega
  have h1 : lastV d (cpd ls a b) τ = lastV d ((cpd ls a b).take j ++ [(cpd ls a b)[j]] ++ (cpd ls a b).drop (j + 1)) τ := congrArg (fun l => lastV d l τ) e
  rw [h1, lastV_app, lastV_gt, lastV_snoc, if_pos (by rw [get_fr hjl]; exact hf), get_fe hjl, n5, ← ht]
  · unfold atI; rw [show lvl ls a + j = lvl ls t by omega]
  · intro m hm
    obtain ⟨i, hi, rfl⟩ := List.getElem_of_mem hm
    have hi' : j + 1 + i < (cpd ls a b).length := by simp at hi; omega
    rw [List.getElem_drop, get_fr hi', show j + 1 + i = j + i + 1 by omega, cpd_fr, dur_fr hab (by omega)]
    have s4 := s3 (lvl ls a + (j + i + 1)) (by omega) (by have := (po.lvl_spec (t := b - 1) (by omega)).1; omega)
    have s5 := (po.lvl_spec (t := b - 1) (by omega)).2.1
    have s6 := po.le (i := lvl ls a + (j + i + 1)) (j := lvl ls (b - 1)) (by omega) (po.lvl_spec (t := b - 1) (by omega)).1
    omega
theorem PO.cpd_early {T : Int} {ls : List Lev} (po : PO T ls) {a b τ : Int} (ha : 0 ≤ a) (hb : b ≤ 1000000000) (h : τ < a) (d : Int) : lastV d (cpd ls a b) τ = d := by
  refine lastV_gt _ _ _ fun m hm => ?_
  obtain ⟨i, hi, rfl⟩ := List.getElem_of_mem hm
  by_cases hab : a < b
  · obtain ⟨n1, n2, n3, n4, n5⟩ := po.cpd_nxt ha hab hb hi
    rw [get_fr hi]; omega
  · rw [cpd_len, dur_nil (by omega)] at hi; cases hi

def upL (more : Int) (l : List Lev) : List Lev := l.map fun m => (m.1, m.2 + more)
theorem upL_len (more : Int) (l : List Lev) : (upL more l).length = l.length := List.length_map _
theorem upL_fr {more : Int} {l : List Lev} {i : Nat} (h : i < l.length) : fr (upL more l) i = fr l i := by
  unfold fr upL; rw [List.getElem?_map, List.getElem?_eq_getElem h]; rfl
theorem upL_fe {more : Int} {l : List Lev} {i : Nat} (h : i < l.length) : fe (upL more l) i = fe l i + more := by
  unfold fe upL; rw [List.getElem?_map, List.getElem?_eq_getElem h]; rfl
theorem upL_val (more τ : Int) : ∀ (l : List Lev) (d : Int), lastV (d + more) (upL more l) τ = lastV d l τ + more
  | [], d => rfl
  | m :: l, d => by
    show lastV (if m.1 ≤ τ then m.2 + more else d + more) (upL more l) τ = lastV (if m.1 ≤ τ then m.2 else d) l τ + more
    by_cases c : m.1 ≤ τ
    · rw [if_pos c, if_pos c]; exact upL_val more τ l _
    · rw [if_neg c, if_neg c]; exact upL_val more τ l _

/-- ahead, the changed middle, behind -/
def rawR (ls : List Lev) (x y more : Int) : List Lev := cpd ls 0 x ++ (upL more (cpd ls x y) ++ cpd ls y 1000000000)

theorem PO.cpd_mem {T : Int} {ls : List Lev} (po : PO T ls) {a b : Int} (ha : 0 ≤ a) (hb : b ≤ 1000000000) {m : Lev} (hm : m ∈ cpd ls a b) : a ≤ m.1 ∧ m.1 < b ∧ m.2 = atI ls m.1 ∧ 0 ≤ m.2 ∧ m.2 ≤ T := by
  obtain ⟨i, hi, rfl⟩ := List.getElem_of_mem hm
  by_cases hab : a < b
  · obtain ⟨n1, n2, n3, n4, n5⟩ := po.cpd_nxt ha hab hb hi
    have hlt := (po.lvl_spec (t := fr (cpd ls a b) i) (by omega)).1
    have := po.el _ hlt
    rw [get_fr hi, get_fe hi]
    refine ⟨n3, n4, ?_, ?_⟩
    · unfold atI; rw [n2]; exact n5
    · rw [n5, ← n2]; exact ⟨this.2.1, this.2.2⟩
  · rw [cpd_len, dur_nil (by omega)] at hi; cases hi
theorem PO.cpd_rise {T : Int} {ls : List Lev} (po : PO T ls) {a b : Int} (ha : 0 ≤ a) (_hb : b ≤ 1000000000) : (cpd ls a b).Pairwise fun p q => p.1 < q.1 := by
  rw [List.pairwise_iff_getElem]
  intro i j hi hj hij
  rw [get_fr hi, get_fr hj]
  by_cases hab : a < b
  · have hlen : (cpd ls a b).length = lvl ls (b - 1) + 1 - lvl ls a := by rw [cpd_len]; exact po.dur_len ha hab
    have s1 := (po.lvl_spec (t := b - 1) (by omega)).1
    obtain ⟨k, rfl⟩ : ∃ k, j = k + 1 := ⟨j - 1, by omega⟩
    rw [cpd_fr, dur_fr hab (by omega)]
    cases i with
    | zero =>
      rw [cpd_fr0 (by rw [← cpd_len]; omega)]
      exact (po.lvl_spec ha).2.2 _ (by omega) (by omega)
    | succ i =>
      rw [cpd_fr, dur_fr hab (by omega)]
      exact po.lt (by omega) (by omega)
  · rw [cpd_len, dur_nil (by omega)] at hi; cases hi
theorem upL_mem {more : Int} {l : List Lev} {m : Lev} (h : m ∈ upL more l) : ∃ k ∈ l, m = (k.1, k.2 + more) := by
  obtain ⟨k, h1, h2⟩ := List.mem_map.1 h
  exact ⟨k, h1, h2.symm⟩
theorem raw_mem {T : Int} {ls : List Lev} (po : PO T ls) {x y more : Int} (hx : 0 ≤ x) (hxy : x < y) (hy : y ≤ 1000000000) {m : Lev} (hm : m ∈ rawR ls x y more) : 0 ≤ m.1 ∧ m.1 < 1000000000 ∧ ((0 ≤ m.2 ∧ m.2 ≤ T) ∨ ∃ k ∈ cpd ls x y, m = (k.1, k.2 + more)) := by
  unfold rawR at hm
  rcases List.mem_append.1 hm with h | h
  · have := po.cpd_mem (Int.le_refl _) (by omega) h
    exact ⟨by omega, by omega, Or.inl (by omega)⟩
  · rcases List.mem_append.1 h with h | h
    · obtain ⟨k, h1, rfl⟩ := upL_mem h
      have := po.cpd_mem hx hy h1
      exact ⟨by show 0 ≤ k.1; omega, by show k.1 < _; omega, Or.inr ⟨k, h1, rfl⟩⟩
    · have := po.cpd_mem (by omega) (Int.le_refl _) h
      exact ⟨by omega, by omega, Or.inl (by omega)⟩
theorem raw_rise {T : Int} {ls : List Lev} (po : PO T ls) {x y more : Int} (hx : 0 ≤ x) (hxy : x < y) (hy : y ≤ 1000000000) : (rawR ls x y more).Pairwise fun p q => p.1 < q.1 := by
  have hB : (upL more (cpd ls x y)).Pairwise fun p q => p.1 < q.1 := by
    unfold upL
    rw [List.pairwise_map]
    exact po.cpd_rise hx hy
  unfold rawR
  rw [List.pairwise_append, List.pairwise_append]
  refine ⟨po.cpd_rise (Int.le_refl _) (by omega), ⟨hB, po.cpd_rise (by omega) (Int.le_refl _), ?_⟩, ?_⟩
  · intro p hp q hq
    obtain ⟨k, h1, rfl⟩ := upL_mem hp
    have a1 := po.cpd_mem hx hy h1
    have a2 := po.cpd_mem (by omega) (Int.le_refl _) hq
    show k.1 < q.1; omega
  · intro p hp q hq
    have a1 := po.cpd_mem (Int.le_refl _) (by omega) hp
    rcases List.mem_append.1 hq with hq | hq
    · obtain ⟨k, h1, rfl⟩ := upL_mem hq
      have a2 := po.cpd_mem hx hy h1
      show p.1 < k.1; omega
    · have a2 := po.cpd_mem (by omega) (Int.le_refl _) hq
      omega
theorem raw_val {T : Int} {ls : List Lev} (po : PO T ls) {x y more : Int} (hx : 0 ≤ x) (hxy : x < y) (hy : y ≤ 1000000000) {τ : Int} (h0 : 0 ≤ τ) (h1 : τ < 1000000000) (d : Int) : lastV d (rawR ls x y more) τ = freeC ls x y more τ := by
  unfold rawR
  rw [lastV_app, lastV_app]
  unfold freeC
  by_cases c : τ < x
  · rw [po.cpd_early (by omega) (Int.le_refl _) (by omega), if_neg (by omega)]
    have e := upL_val more τ (cpd ls x y) (lastV d (cpd ls 0 x) τ - more)
    rw [show lastV d (cpd ls 0 x) τ - more + more = lastV d (cpd ls 0 x) τ by omega] at e
    rw [e, po.cpd_early hx hy c, po.cpd_val (Int.le_refl _) (by omega) (by omega) h0, show min τ (x - 1) = τ by omega]
    omega
  · by_cases c2 : τ < y
    · rw [po.cpd_early (by omega) (Int.le_refl _) (by omega), if_pos (by omega)]
      have e := upL_val more τ (cpd ls x y) (lastV d (cpd ls 0 x) τ - more)
      rw [show lastV d (cpd ls 0 x) τ - more + more = lastV d (cpd ls 0 x) τ by omega] at e
      rw [e, po.cpd_val hx hxy hy (by omega), show min τ (y - 1) = τ by omega]
    · rw [po.cpd_val (by omega) (by omega) (Int.le_refl _) (by omega), if_neg (by omega), show min τ (1000000000 - 1) = τ by omega]

/-- levels behind t that rise, each unlike the one ahead of it, the first unlike v -/
def Gd : Int → Int → List Lev → Prop
  | _, _, [] => True
  | t, v, m :: r => t < m.1 ∧ m.1 < 1000000000 ∧ m.2 ≠ v ∧ Gd m.1 m.2 r
theorem Gd.gt : ∀ {l : List Lev} {t v : Int}, Gd t v l → ∀ m ∈ l, t < m.1
  | [], _, _, _, m, hm => by cases hm
  | a :: r, t, v, h, m, hm => by
    obtain ⟨h1, _, _, h4⟩ := h
    rcases List.mem_cons.1 hm with rfl | hm
    · exact h1
    · have := Gd.gt h4 m hm; omega
theorem gd_uniq : ∀ {l r : List Lev} {t v : Int}, Gd t v l → Gd t v r → (∀ τ, t < τ → τ < 1000000000 → lastV v l τ = lastV v r τ) → l = r
  | [], [], _, _, _, _, _ => rfl
  | [], b :: r, t, v, _, hr, h => by
    obtain ⟨h1, h2, h3, h4⟩ := hr
    have e := h b.1 h1 h2
    have e2 : lastV v (b :: r) b.1 = b.2 := by
      show lastV (if b.1 ≤ b.1 then b.2 else v) r b.1 = b.2
      rw [if_pos (Int.le_refl _), lastV_gt _ _ _ h4.gt]
    rw [e2] at e
    exact absurd e.symm h3
  | a :: l, [], t, v, hl, _, h => by
    obtain ⟨h1, h2, h3, h4⟩ := hl
    have e := h a.1 h1 h2
    have e2 : lastV v (a :: l) a.1 = a.2 := by
      show lastV (if a.1 ≤ a.1 then a.2 else v) l a.1 = a.2
      rw [if_pos (Int.le_refl _), lastV_gt _ _ _ h4.gt]
    rw [e2] at e
    exact absurd e h3
  | a :: l, b :: r, t, v, hl, hr, h => by
    obtain ⟨h1, h2, h3, h4⟩ := hl
    obtain ⟨g1, g2, g3, g4⟩ := hr
    have A : ∀ τ, lastV v (a :: l) τ = lastV (if a.1 ≤ τ then a.2 else v) l τ := fun _ => rfl
    have B : ∀ τ, lastV v (b :: r) τ = lastV (if b.1 ≤ τ then b.2 else v) r τ := fun _ => rfl
    have e1 : a.1 = b.1 := by
      rcases Int.lt_trichotomy a.1 b.1 with c | c | c
      · have e := h a.1 h1 h2
        rw [A, B, if_pos (Int.le_refl _), if_neg (by omega), lastV_gt _ _ _ h4.gt, lastV_gt _ _ _ (fun m hm => by have := g4.gt m hm; omega)] at e
        exact absurd e h3
      · exact c
      · have e := h b.1 g1 g2
        rw [A, B, if_neg (by omega), if_pos (Int.le_refl _), lastV_gt _ _ _ g4.gt, lastV_gt _ _ _ (fun m hm => by have := h4.gt m hm; omega)] at e
        exact absurd e.symm g3
    have e2 : a.2 = b.2 := by
      have e := h a.1 h1 h2
      rw [A, B, if_pos (Int.le_refl _), if_pos (by omega), lastV_gt _ _ _ h4.gt, lastV_gt _ _ _ (fun m hm => by have := g4.gt m hm; omega)] at e
      exact e
    have e3 : a = b := Prod.ext e1 e2
    subst e3
    rw [gd_uniq h4 g4 fun τ h5 h6 => by
      have e := h τ (by omega) h6
      rw [A, B, if_pos (by omega)] at e
      exact e]
theorem good_gd : ∀ {l : List Lev} {t v : Int}, goodL l → (∀ m ∈ l, m.1 < 1000000000) → (0 < l.length → t < fr l 0 ∧ fe l 0 ≠ v) → Gd t v l
  | [], _, _, _, _, _ => trivial
  | a :: r, t, v, h, hb, h0 => by
    obtain ⟨h1, h2⟩ := h0 (by simp)
    refine ⟨h1, hb a List.mem_cons_self, h2, good_gd (fun i hi => ?_) (fun m hm => hb m (List.mem_cons_of_mem _ hm)) fun hr => ?_⟩
    · have := h (i + 1) (by simp; omega)
      exact this
    · have := h 0 (by simp; omega)
      exact ⟨this.1, fun e => this.2 e.symm⟩

theorem cutGo_good (ls : List Lev) (ts : List Int) (x y more : Int) : ∀ (g : Nat) (last : Int) (out : List Lev), goodL out → (∀ m ∈ out, m.1 ≤ last) → (∀ m ∈ out, m.1 < 1000000000) → (0 < out.length → fr out 0 = 0) → (out.length = 0 → nextT ts last = 0) →
    goodL (cutGo ls ts x y more g last out) ∧ (∀ m ∈ cutGo ls ts x y more g last out, m.1 < 1000000000) ∧ (0 < (cutGo ls ts x y more g last out).length → fr (cutGo ls ts x y more g last out) 0 = 0)
  | 0, _, out, h, _, hb, h0, _ => ⟨h, hb, h0⟩
  | g + 1, last, out, h, hl, hb, h0, hz => by
    by_cases c : nextT ts last = 1000000000
    · rw [cutGo_end c]; exact ⟨h, hb, h0⟩
    · have s := nextT_spec ts last c
      rw [cutGo_step c]
      obtain ⟨g1, g2, g3, g4⟩ := addL_good (t := nextT ts last) (f := freeC ls x y more (nextT ts last)) h (fun m hm => by have := hl m hm; omega)
      have h00 : fr (addL out (nextT ts last) (freeC ls x y more (nextT ts last))) 0 = 0 := by
        by_cases e : 0 < out.length
        · rw [g4 e]; exact h0 e
        · obtain rfl : out = [] := List.eq_nil_of_length_eq_zero (by omega)
          rw [addL_nil]; exact hz rfl
      refine cutGo_good ls ts x y more g _ _ g1 (fun m hm => ?_) (fun m hm => ?_) (fun _ => h00) (fun e => by omega)
      · rcases g2 m hm with h3 | rfl
        · have := hl m h3; omega
        · exact Int.le_refl _
      · rcases g2 m hm with h3 | rfl
        · exact hb m h3
        · exact s.2.2
theorem cutL_first {T : Int} {ls : List Lev} (po : PO T ls) {x y : Int} (_hx : 0 ≤ x) (_hy : 0 ≤ y) : nextT (timesC ls x y) (-1) = 0 := by
  have n1 := po.n1
  have h1 := nextT_min (ts := timesC ls x y) (last := -1) (s := fr ls 0) (by
    unfold timesC
    exact List.mem_append_left _ (List.mem_map.2 ⟨ls[0], List.getElem_mem (by omega), get_fr (by omega)⟩)) (by rw [po.z]; omega)
  rw [po.z] at h1
  have s := nextT_spec (timesC ls x y) (-1) (by omega)
  omega
theorem cutL_val {T : Int} {ls : List Lev} (po : PO T ls) {x y more d τ : Int} (hx : 0 ≤ x) (hy : 0 ≤ y) (h0 : 0 ≤ τ) (h1 : τ < 1000000000) : lastV d (cutL ls x y more) τ = freeC ls x y more τ := by
  refine cutGo_at po h1 _ (-1) [] ?_ (by omega) ?_ (fun m hm => by cases hm)
  · have h2 : behind (timesC ls x y) (-1) ≤ (timesC ls x y).length := List.length_filter_le _ _
    rw [timesC_len] at h2
    omega
  · rw [cutL_first po hx hy]; exact h0

theorem joinL_first : ∀ (l out : List Lev), 0 < out.length → l.Pairwise (fun a b => a.1 < b.1) → (∀ m ∈ out, ∀ x ∈ l, m.1 < x.1) → goodL out → 0 < (joinL out l).length ∧ fr (joinL out l) 0 = fr out 0 := fun l out h0 hp hlt hg => (joinL_good l out hg hlt hp).2 h0

/-- joined it is the model's -/
theorem raw_cut {T : Int} {ls : List Lev} (po : PO T ls) {x y more : Int} (hx : 0 ≤ x) (hxy : x < y) (hy : y ≤ 1000000000) : joinL [] (rawR ls x y more) = cutL ls x y more := by
  have hp := raw_rise po (more := more) hx hxy hy
  obtain ⟨c1, c2, c3⟩ := cutGo_good ls (timesC ls x y) x y more (ls.length + 3) (-1) [] (fun i hi => by simp at hi) (fun m hm => by cases hm) (fun m hm => by cases hm) (fun h => by simp at h) (fun _ => cutL_first po hx (by omega))
  have c1' : goodL (cutL ls x y more) := c1
  have c2' : ∀ m ∈ cutL ls x y more, m.1 < 1000000000 := c2
  have c3' : 0 < (cutL ls x y more).length → fr (cutL ls x y more) 0 = 0 := c3
  have j1 := (joinL_good (rawR ls x y more) [] (fun i hi => by simp at hi) (fun m hm => by cases hm) hp).1
  have j2 : ∀ m ∈ joinL [] (rawR ls x y more), 0 ≤ m.1 ∧ m.1 < 1000000000 := fun m hm => by
    rcases joinL_mem _ _ _ hm with h | h
    · cases h
    · have := raw_mem po hx hxy hy h; exact ⟨this.1, this.2.1⟩
  obtain ⟨v, hv⟩ : ∃ v, v = 1 + max (fe (cutL ls x y more) 0) (fe (joinL [] (rawR ls x y more)) 0) := ⟨_, rfl⟩
  refine gd_uniq (t := -1) (v := v) (good_gd j1 (fun m hm => (j2 m hm).2) fun h => ⟨?_, by omega⟩) (good_gd c1' c2' fun h => ⟨by rw [c3' h]; omega, by omega⟩) fun τ h1 h2 => ?_
  · obtain ⟨m, hm, e⟩ := fr_mem h
    rw [← e]; have := (j2 m hm).1; omega
  · rw [joinL_val v τ _ [] (fun m hm => by cases hm) hp, List.nil_append, raw_val po hx hxy hy (by omega) h2, cutL_val po hx (by omega) (by omega) h2]

/-- the middle may be changed so -/
def midOk (T : Int) (l : List Lev) (more : Int) (k : Nat) : Prop := ∀ i, i < k → 0 ≤ fe l i + more ∧ fe l i + more ≤ T

theorem cut_bad {T : Int} {ls : List Lev} (po : PO T ls) {x y more : Int} (hx : 0 ≤ x) (hxy : x < y) (hy : y ≤ 1000000000) {i : Nat} (hi : i < (cpd ls x y).length) (h : ¬ (0 ≤ fe (cpd ls x y) i + more ∧ fe (cpd ls x y) i + more ≤ T)) : poB T (cutL ls x y more) = false := by
  refine poB_no fun pc => h ?_
  have hm := po.cpd_mem hx hy (List.getElem_mem hi)
  rw [get_fr hi, get_fe hi] at hm
  have e := cut_at po pc (τ := fr (cpd ls x y) i) (by omega) (by omega)
  have hp := (pc.lvl_spec (t := fr (cpd ls x y) i) (by omega)).1
  have hel := pc.el _ hp
  unfold freeC at e
  rw [if_pos (by omega), ← hm.2.2.1] at e
  unfold atI at e
  omega
theorem cut_ok {T : Int} {ls : List Lev} (po : PO T ls) {x y more : Int} (hx : 0 ≤ x) (hxy : x < y) (hy : y ≤ 1000000000) (h : midOk T (cpd ls x y) more (cpd ls x y).length) : poB T (cutL ls x y more) = decide ((cutL ls x y more).length ≤ 200) := by
  have hp := raw_rise po (more := more) hx hxy hy
  have e := raw_cut po (more := more) hx hxy hy
  by_cases hl : (cutL ls x y more).length ≤ 200
  · rw [decide_eq_true hl]
    obtain ⟨c1, c2, c3⟩ := cutGo_good ls (timesC ls x y) x y more (ls.length + 3) (-1) [] (fun i hi => by simp at hi) (fun m hm => by cases hm) (fun m hm => by cases hm) (fun h => by simp at h) (fun _ => cutL_first po hx (by omega))
    have c1' : goodL (cutL ls x y more) := c1
    have c3' : 0 < (cutL ls x y more).length → fr (cutL ls x y more) 0 = 0 := c3
    have n1 : 0 < (cutL ls x y more).length := by
      rcases Nat.eq_zero_or_pos (cutL ls x y more).length with z | z
      · have z0 := List.eq_nil_of_length_eq_zero z
        have v1 := cutL_val po (y := y) (more := more) (d := freeC ls x y more 0 + 1) (τ := 0) hx (by omega) (by omega) (by omega)
        rw [z0] at v1
        have : freeC ls x y more 0 + 1 = freeC ls x y more 0 := v1
        omega
      · exact z
    refine poB_mk ⟨po.t0, po.t1, n1, hl, c3' n1, fun i hi => ?_, fun i hi => c1' i hi⟩
    have hm : (cutL ls x y more)[i] ∈ joinL [] (rawR ls x y more) := by rw [e]; exact List.getElem_mem hi
    rcases joinL_mem _ _ _ hm with hm | hm
    · cases hm
    · have q := raw_mem po hx hxy hy hm
      rw [get_fr hi, get_fe hi] at q
      refine ⟨q.2.1, ?_⟩
      rcases q.2.2 with q | ⟨k, hk, q⟩
      · exact q
      · obtain ⟨j, hj, rfl⟩ := List.getElem_of_mem hk
        have := h j hj
        have e2 : fe (cutL ls x y more) i = fe (cpd ls x y) j + more := by
          rw [← get_fe hi, q, ← get_fe hj]
        omega
  · rw [decide_eq_false hl]
    exact poB_no fun p => hl p.n2
theorem resB_cut {T : Int} {ls : List Lev} (po : PO T ls) {x y m : Int} (hx : 0 ≤ x) (hxy : x < y) (hy : y ≤ 1000000000) (hm : 0 ≤ m ∧ m ≤ 1000) : resB T ls x y m = poB T (cutL ls x y (-m)) := by
  unfold resB chgL
  rw [if_neg (by omega), poB_mk po]
  have e1 : okB x = true := inB_mk ⟨by omega, by omega⟩
  have e2 : okB y = true := inB_mk ⟨by omega, by omega⟩
  have e3 : inB m 0 1000 = true := inB_mk ⟨by omega, by omega⟩
  rw [e1, e2, e3]; rfl

/-- joined alone, right levels are the same -/
theorem joinL_self {T : Int} {ls : List Lev} (po : PO T ls) : joinL [] ls = ls := by
  have n1 := po.n1
  have key : ∀ k, k ≤ ls.length → joinL [] (ls.take k) = ls.take k := by
    intro k
    induction k with
    | zero => intro _; rfl
    | succ k ih =>
      intro hk
      have hk' : k < ls.length := by omega
      rw [List.take_succ_eq_append_getElem hk', joinL_app, ih (by omega), joinL_cons, joinL_nil]
      rcases Nat.eq_zero_or_pos k with e | e
      · subst e; rfl
      · have hl : (ls.take k).length = k := by rw [List.length_take]; omega
        rw [addL_other (by omega)]
        rw [hl]
        have e1 : fe (ls.take k) (k - 1) = fe ls (k - 1) := by unfold fe; rw [List.getElem?_take_of_lt (by omega)]
        rw [e1, get_fe hk']
        have := (po.st (k - 1) (by omega)).2
        rwa [show k - 1 + 1 = k by omega] at this
  have := key ls.length (Nat.le_refl _)
  rwa [List.take_length] at this

end Go.Proofs.Ytcmpenlgkccgkaa
