/- Areas: of parts, and of what was cut; the lower of two, the other way round: plain mathematics. -/
import Derived.Test.YtcmpenlgkccgkaaPkB
import Derived.Test.YtcmpenlgkccgkaaPkA
import Derived.Test.YtcmpenlgkccgkaaResv3
import Derived.Test.YtcmpenlgkccgkaaPkC
namespace Go.Proofs.Ytcmpenlgkccgkaa
open Go.RowKit

theorem nextT_le (last : Int) : ∀ (ts : List Int) (m s : Int), s ∈ ts → last < s → ts.foldl (fun m t => if last < t then min m t else m) m ≤ s
  | [], _, s, h, _ => by cases h
  | t :: r, m, s, h, hs => by
    simp only [List.foldl_cons]
    rcases List.mem_cons.1 h with rfl | h
    · rw [if_pos hs]
      have := (nextT_fold last r (min m s)).1
      omega
    · exact nextT_le last r _ s h hs
theorem nextT_min {ts : List Int} {last s : Int} (h : s ∈ ts) (hs : last < s) : nextT ts last ≤ s := nextT_le last ts _ s h hs

theorem cutGo_keep (ls : List Lev) (ts : List Int) (x y more d τ : Int) : ∀ (g : Nat) (last : Int) (out : List Lev), τ < nextT ts last → (∀ m ∈ out, m.1 ≤ last) → lastV d (cutGo ls ts x y more g last out) τ = lastV d out τ
  | 0, _, _, _, _ => rfl
  | g + 1, last, out, h, ho => by
    by_cases c : nextT ts last = 1000000000
    · rw [cutGo_end c]
    · have s := nextT_spec ts last c
      rw [cutGo_step c]
      obtain ⟨v1, v2⟩ := addL_val d τ (out := out) (x := (nextT ts last, freeC ls x y more (nextT ts last))) (fun m hm => by have := ho m hm; show m.1 < nextT ts last; omega)
      have h2 : τ < nextT ts (nextT ts last) := by
        by_cases c2 : nextT ts (nextT ts last) = 1000000000
        · omega
        · have := (nextT_spec ts _ c2).2.1; omega
      rw [cutGo_keep ls ts x y more d τ g _ _ h2 (fun m hm => by
        rcases v2 m hm with h3 | rfl
        · have := ho m h3; omega
        · exact Int.le_refl _), v1, lastV_snoc, if_neg (by show ¬ nextT ts last ≤ τ; omega)]

theorem freeC_same {T : Int} {ls : List Lev} (po : PO T ls) {x y more a b : Int} (ha : 0 ≤ a) (hab : a ≤ b) (h : b < nextT (timesC ls x y) a) : freeC ls x y more a = freeC ls x y more b := by
  have hx : ¬ (a < x ∧ x ≤ b) := fun h1 => by have := nextT_min (ts := timesC ls x y) (last := a) (s := x) (by simp [timesC]) h1.1; omega
  have hy : ¬ (a < y ∧ y ≤ b) := fun h1 => by have := nextT_min (ts := timesC ls x y) (last := a) (s := y) (by simp [timesC]) h1.1; omega
  obtain ⟨a1, a2, a3⟩ := po.lvl_spec ha
  have e : lvl ls b = lvl ls a := po.lvl_eq (by omega) a1 (by omega) (fun hn => by
    have h1 := a3 (lvl ls a + 1) (by omega) hn
    have := nextT_min (ts := timesC ls x y) (last := a) (s := fr ls (lvl ls a + 1)) (by
      unfold timesC
      exact List.mem_append_left _ (List.mem_map.2 ⟨ls[lvl ls a + 1], List.getElem_mem hn, get_fr hn⟩)) h1
    omega)
  unfold freeC atI
  rw [e]
  by_cases c : x ≤ a ∧ a ≤ y - 1
  · rw [if_pos c, if_pos (by omega)]
  · rw [if_neg c, if_neg (by omega)]

theorem cutGo_at {T : Int} {ls : List Lev} (po : PO T ls) {x y more d τ : Int} (hτ : τ < 1000000000) : ∀ (g : Nat) (last : Int) (out : List Lev), behind (timesC ls x y) last < g → -1 ≤ last → nextT (timesC ls x y) last ≤ τ → (∀ m ∈ out, m.1 ≤ last) → lastV d (cutGo ls (timesC ls x y) x y more g last out) τ = freeC ls x y more τ
  | 0, _, _, hg, _, _, _ => by omega
  | g + 1, last, out, hg, hl, h, ho => by
    have c : nextT (timesC ls x y) last ≠ 1000000000 := by omega
    have s := nextT_spec _ last c
    rw [cutGo_step c]
    obtain ⟨v1, v2⟩ := addL_val d τ (out := out) (x := (nextT (timesC ls x y) last, freeC ls x y more (nextT (timesC ls x y) last))) (fun m hm => by have := ho m hm; show m.1 < nextT (timesC ls x y) last; omega)
    have hm : ∀ m ∈ addL out (nextT (timesC ls x y) last) (freeC ls x y more (nextT (timesC ls x y) last)), m.1 ≤ nextT (timesC ls x y) last := fun m hm => by
      rcases v2 m hm with h3 | rfl
      · have := ho m h3; omega
      · exact Int.le_refl _
    by_cases c2 : nextT (timesC ls x y) (nextT (timesC ls x y) last) ≤ τ
    · exact cutGo_at po hτ g _ _ (by have := behind_lt _ last c; omega) (by omega) c2 hm
    · rw [cutGo_keep ls _ x y more d τ g _ _ (by omega) hm, v1, lastV_snoc, if_pos (show nextT (timesC ls x y) last ≤ τ from h)]
      exact freeC_same po (by omega) h (by omega)

/-- what a cut has at each time -/
theorem cut_at {T : Int} {ls : List Lev} (po : PO T ls) {x y more : Int} (pc : PO T (cutL ls x y more)) {τ : Int} (h0 : 0 ≤ τ) (h1 : τ < 1000000000) : atI (cutL ls x y more) τ = freeC ls x y more τ := by
  rw [← pc.at_last h0 0]
  have n1 := po.n1
  refine cutGo_at po h1 _ (-1) [] ?_ (by omega) ?_ (fun m hm => by cases hm)
  · have h2 : behind (timesC ls x y) (-1) ≤ (timesC ls x y).length := List.length_filter_le _ _
    rw [timesC_len] at h2
    omega
  · have := nextT_min (ts := timesC ls x y) (last := -1) (s := fr ls 0) (by
      unfold timesC
      exact List.mem_append_left _ (List.mem_map.2 ⟨ls[0], List.getElem_mem (by omega), get_fr (by omega)⟩)) (by rw [po.z]; omega)
    rw [po.z] at this
    omega

theorem span_part {a b x m y : Int} (h : a ≤ b) (h1 : x ≤ m) (h2 : m ≤ y) : max 0 (min b m - max a x) + max 0 (min b y - max a m) = max 0 (min b y - max a x) := by omega
theorem PO.nxt_gt {T : Int} {ls : List Lev} (po : PO T ls) {i : Nat} (h : i < ls.length) : fr ls i < nxt ls i 1000000000 := by
  by_cases c : i + 1 < ls.length
  · rw [nxt_in c]; exact (po.st i c).1
  · rw [nxt_out c]; exact (po.el i h).1

/-- an area is that of its parts -/
theorem area_part {T : Int} {ls : List Lev} (po : PO T ls) {x m y : Int} (h1 : x ≤ m) (h2 : m ≤ y) : ∀ k, k ≤ ls.length → areaIn ls x m k + areaIn ls m y k = areaIn ls x y k
  | 0, _ => rfl
  | k + 1, hk => by
    have ih := area_part po h1 h2 k (by omega)
    have g := po.nxt_gt (show k < ls.length by omega)
    have s : spanI ls x y k = spanI ls x m k + spanI ls m y k := by unfold spanI; rw [span_part (by omega) h1 h2]
    show areaIn ls x m k + fe ls k * spanI ls x m k + (areaIn ls m y k + fe ls k * spanI ls m y k) = areaIn ls x y k + fe ls k * spanI ls x y k
    rw [s, Int.mul_add, ← ih]
    omega

theorem area_unit {T : Int} {ls : List Lev} (po : PO T ls) {t : Int} (h : 0 ≤ t) (h2 : t < 1000000000) : ∀ k, k ≤ ls.length → areaIn ls t (t + 1) k = if lvl ls t < k then atI ls t else 0
  | 0, _ => by rw [if_neg (by omega)]; rfl
  | k + 1, hk => by
    have ih := area_unit po h h2 k (by omega)
    obtain ⟨a1, a2, a3⟩ := po.lvl_spec h
    show areaIn ls t (t + 1) k + fe ls k * spanI ls t (t + 1) k = _
    rw [ih]
    rcases Nat.lt_trichotomy k (lvl ls t) with c | c | c
    · have hn : nxt ls k 1000000000 ≤ t := by
        rw [nxt_in (by omega)]
        by_cases e : k + 1 = lvl ls t
        · rw [e]; exact a2
        · have := po.lt (i := k + 1) (j := lvl ls t) (by omega) a1; omega
      have s : spanI ls t (t + 1) k = 0 := by unfold spanI; omega
      rw [s, if_neg (by omega), if_neg (by omega), Int.mul_zero, Int.add_zero]
    · have hn : t < nxt ls k 1000000000 := by
        by_cases c2 : k + 1 < ls.length
        · rw [nxt_in c2]; exact a3 (k + 1) (by omega) c2
        · rw [nxt_out c2]; exact h2
      rw [← c] at a2
      have s : spanI ls t (t + 1) k = 1 := by unfold spanI; omega
      rw [s, if_neg (by omega), if_pos (by omega), Int.mul_one, Int.zero_add]
      unfold atI
      rw [c]
    · have := a3 k c (by omega)
      have s : spanI ls t (t + 1) k = 0 := by unfold spanI; omega
      rw [s, if_pos (by omega), if_pos (by omega), Int.mul_zero, Int.add_zero]

theorem area_none {T : Int} {ls : List Lev} (po : PO T ls) (x : Int) : areaIn ls x x ls.length = 0 := by
  have := area_part po (Int.le_refl x) (Int.le_refl x) ls.length (Nat.le_refl _)
  omega

/-- what a reservation takes -/
theorem area_cut {T : Int} {ls : List Lev} (po : PO T ls) {x y more : Int} (pc : PO T (cutL ls x y more)) (hx : 0 ≤ x) (hy : y ≤ 1000000000) : ∀ k : Nat, x + (k : Int) ≤ y →
    areaIn (cutL ls x y more) x (x + k) (cutL ls x y more).length = areaIn ls x (x + k) ls.length + more * k
  | 0, _ => by
    simp only [Int.ofNat_zero, Int.add_zero, Int.mul_zero]
    rw [area_none pc, area_none po]
  | k + 1, h => by
    have ih := area_cut po pc hx hy k (by omega)
    have p1 := area_part pc (x := x) (m := x + (k : Int)) (y := x + (k : Int) + 1) (by omega) (by omega) _ (Nat.le_refl _)
    have p2 := area_part po (x := x) (m := x + (k : Int)) (y := x + (k : Int) + 1) (by omega) (by omega) _ (Nat.le_refl _)
    rw [area_unit pc (by omega) (by omega) _ (Nat.le_refl _), if_pos (pc.lvl_spec (by omega)).1] at p1
    rw [area_unit po (by omega) (by omega) _ (Nat.le_refl _), if_pos (po.lvl_spec (by omega)).1] at p2
    rw [cut_at po pc (by omega) (by omega)] at p1
    have f : freeC ls x y more (x + (k : Int)) = atI ls (x + (k : Int)) + more := by unfold freeC; rw [if_pos (by omega)]
    rw [f] at p1
    have e : x + ((k + 1 : Nat) : Int) = x + (k : Int) + 1 := by omega
    have e2 : more * ((k + 1 : Nat) : Int) = more * (k : Int) + more := by rw [Int.natCast_add, Int.mul_add]; simp
    rw [e, e2]
    omega

theorem area_took {T : Int} {ls : List Lev} (po : PO T ls) {x y n : Int} (pc : PO T (cutL ls x y (-n))) (hx : 0 ≤ x) (h : x < y) (hy : y ≤ 1000000000) :
    areaIn ls x y ls.length - areaIn (cutL ls x y (-n)) x y (cutL ls x y (-n)).length = n * (y - x) := by
  have := area_cut po pc hx hy (y - x).toNat (by omega)
  rw [show x + ((y - x).toNat : Int) = y by omega, show ((y - x).toNat : Int) = y - x by omega] at this
  rw [this, Int.neg_mul]
  omega

theorem lowAt_comm (la lb : List Lev) (t : Int) : lowAt lb la t = lowAt la lb t := by unfold lowAt; omega
theorem stepT_comm (la lb : List Lev) (t : Int) : stepT lb la t = stepT la lb t := by unfold stepT; omega
theorem LowR.same {la lb : List Lev} {t : Int} {l : List Lev} (h : LowR la lb t l) : ∀ {l'}, LowR lb la t l' → l = l' := by
  induction h with
  | stop t h => intro l' g; rw [g.inv.2 h]
  | step t l h _ ih =>
    intro l' g
    obtain ⟨l2, rfl, g2⟩ := g.inv.1 h
    rw [stepT_comm] at g2
    rw [lowAt_comm, ih g2]
theorem lowL_comm {Ta Tb : Int} {la lb : List Lev} (pa : PO Ta la) (pb : PO Tb lb) : lowL lb la = lowL la lb := by
  have h1 := low_all pa pb la.length 0 (Nat.zero_add _)
  have h2 := low_all pb pa lb.length 0 (Nat.zero_add _)
  have n1 := pa.n1
  have n2 := pb.n1
  rw [if_pos (by omega), pa.z] at h1
  rw [if_pos (by omega), pb.z] at h2
  unfold lowL
  rw [h1.same h2]
theorem lowB_comm {Ta Tb : Int} {la lb : List Lev} (h : lowB Ta Tb la lb = true) : lowB Tb Ta lb la = true := by
  unfold lowB at h ⊢
  simp only [Bool.and_eq_true, decide_eq_true_eq] at h ⊢
  rw [lowL_comm (poB_t h.1.1) (poB_t h.1.2)]
  exact ⟨⟨h.1.2, h.1.1⟩, h.2⟩

theorem area_tot {T : Int} {ls : List Lev} (po : PO T ls) (x y : Int) : 0 ≤ areaIn ls x y ls.length ∧ areaIn ls x y ls.length ≤ 1000000000000 := by
  have n1 := po.n1
  obtain ⟨k, hk⟩ : ∃ k, ls.length = k + 1 := ⟨ls.length - 1, by omega⟩
  obtain ⟨i1, i2, i3, i4⟩ := area_bd po (x := x) (y := y) k (by omega)
  rw [hk]
  show 0 ≤ areaIn ls x y k + fe ls k * spanI ls x y k ∧ areaIn ls x y k + fe ls k * spanI ls x y k ≤ _
  rw [nxt_out (by omega)] at i4
  omega

/-- both parts of an area, told -/
theorem areaF_part {T : Int} {ls : List Lev} {x m y s : Int} (hv : (poB T ls && (okB x && okB y)) = true) (h1 : x ≤ m) (h2 : m ≤ y) (hs : areaF T ls x y = s) : IntKind.i64.wrap (areaF T ls x m + areaF T ls m y) = s ∧ 0 ≤ s := by
  have hv' := hv
  simp only [Bool.and_eq_true] at hv'
  obtain ⟨hp, hx, hy⟩ := hv'
  have po := poB_t hp
  obtain ⟨x0, x1⟩ := okB_t hx
  obtain ⟨y0, y1⟩ := okB_t hy
  have hm : okB m = true := by unfold okB inB; simp; omega
  rw [areaF_t hv] at hs
  rw [areaF_t (by rw [hp, hx, hm]; rfl), areaF_t (by rw [hp, hm, hy]; rfl), area_part po h1 h2 _ (Nat.le_refl _), hs]
  have := area_tot po x y
  rw [hs] at this
  exact ⟨by rw [IntKind.wrap_i64]; omega, this.1⟩

/-- what a reservation takes, told -/
theorem areaF_took {T : Int} {ls : List Lev} {x y n : Int} (h : resB T ls x y n = true) (hxy : x < y) :
    IntKind.i64.wrap (areaF T ls x y - areaF T (chgL ls x y (-n)) x y) = n * (y - x) ∧ IntKind.i64.wrap (n * (y - x)) = n * (y - x) ∧ IntKind.i64.wrap (y - x) = y - x := by
  unfold resB at h
  simp only [Bool.and_eq_true] at h
  obtain ⟨⟨hp, hx, hy, hn⟩, hc⟩ := h
  have po := poB_t hp
  obtain ⟨x0, x1⟩ := okB_t hx
  obtain ⟨y0, y1⟩ := okB_t hy
  have hn := inB_t hn
  have e : chgL ls x y (-n) = cutL ls x y (-n) := by unfold chgL; rw [if_neg (by omega)]
  rw [e] at hc ⊢
  have pc := poB_t hc
  rw [areaF_t (by rw [hp, hx, hy]; rfl), areaF_t (by rw [hc, hx, hy]; rfl), area_took po pc x0 hxy y1]
  have b0 := mul_bd (a := n) (b := y - x) (c := y - x) (by omega) (by omega) (by omega) (by omega)
  refine ⟨?_, ?_, ?_⟩ <;> rw [IntKind.wrap_i64] <;> omega

end Go.Proofs.Ytcmpenlgkccgkaa
