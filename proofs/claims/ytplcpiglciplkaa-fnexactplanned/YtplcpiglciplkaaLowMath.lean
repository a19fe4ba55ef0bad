/- The lower of two right profiles is right wherever it is short enough. -/
import Derived.Test.YtplcpiglciplkaaLowNo
namespace Go.Proofs.Ytplcpiglciplkaa
open Go.RowKit

/-- neighbours rise and are unlike -/
def goodL (out : List Lev) : Prop := ∀ i, i + 1 < out.length → fr out i < fr out (i + 1) ∧ fe out i ≠ fe out (i + 1)

theorem fr_app_l {a b : List Lev} {i : Nat} (h : i < a.length) : fr (a ++ b) i = fr a i := by unfold fr; rw [List.getElem?_append_left h]
theorem fe_app_l {a b : List Lev} {i : Nat} (h : i < a.length) : fe (a ++ b) i = fe a i := by unfold fe; rw [List.getElem?_append_left h]
theorem fr_app_r {a : List Lev} {x : Lev} : fr (a ++ [x]) a.length = x.1 := by unfold fr; simp
theorem fe_app_r {a : List Lev} {x : Lev} : fe (a ++ [x]) a.length = x.2 := by unfold fe; simp
theorem fr_mem {a : List Lev} {i : Nat} (h : i < a.length) : ∃ m ∈ a, m.1 = fr a i := ⟨a[i], List.getElem_mem h, get_fr h⟩

theorem addL_good {out : List Lev} {t f : Int} (h : goodL out) (ht : ∀ m ∈ out, m.1 < t) : goodL (addL out t f) ∧ (∀ m ∈ addL out t f, m ∈ out ∨ m = (t, f)) ∧ 0 < (addL out t f).length ∧ (0 < out.length → fr (addL out t f) 0 = fr out 0) := by
  by_cases h0 : 0 < out.length
  · by_cases hs : fe out (out.length - 1) = f
    · rw [addL_same h0 hs]
      exact ⟨h, fun m hm => Or.inl hm, h0, fun _ => rfl⟩
    · rw [addL_other h0 hs]
      refine ⟨fun i hi => ?_, fun m hm => ?_, by simp, fun _ => fr_app_l h0⟩
      · have hl : (out ++ [(t, f)]).length = out.length + 1 := by simp
        by_cases hc : i + 1 < out.length
        · rw [fr_app_l (by omega), fr_app_l hc, fe_app_l (by omega), fe_app_l hc]
          exact h i hc
        · obtain rfl : i = out.length - 1 := by omega
          have e : out.length - 1 + 1 = out.length := by omega
          rw [e, fr_app_r, fe_app_r, fr_app_l (by omega), fe_app_l (by omega)]
          obtain ⟨m, hm, e2⟩ := fr_mem (a := out) (i := out.length - 1) (by omega)
          exact ⟨by rw [← e2]; exact ht m hm, hs⟩
      · rcases List.mem_append.1 hm with h1 | h1
        · exact Or.inl h1
        · exact Or.inr (List.mem_singleton.1 h1)
  · obtain rfl : out = [] := List.eq_nil_of_length_eq_zero (by omega)
    rw [addL_nil]
    exact ⟨fun i hi => by simp at hi, fun m hm => Or.inr (List.mem_singleton.1 hm), by simp, fun h => by simp at h⟩

theorem joinL_good : ∀ (l out : List Lev), goodL out → (∀ m ∈ out, ∀ x ∈ l, m.1 < x.1) → l.Pairwise (fun a b => a.1 < b.1) → goodL (joinL out l) ∧ (0 < out.length → 0 < (joinL out l).length ∧ fr (joinL out l) 0 = fr out 0)
  | [], out, h, _, _ => ⟨h, fun h0 => ⟨h0, rfl⟩⟩
  | x :: l, out, h, hlt, hp => by
    rw [joinL_cons]
    obtain ⟨hp1, hp2⟩ := List.pairwise_cons.1 hp
    obtain ⟨g1, g2, g3, g4⟩ := addL_good (t := x.1) (f := x.2) h (fun m hm => hlt m hm x List.mem_cons_self)
    have ih := joinL_good l (addL out x.1 x.2) g1 (fun m hm y hy => by
      rcases g2 m hm with h1 | h1
      · exact hlt m h1 y (List.mem_cons_of_mem _ hy)
      · rw [h1]; exact hp1 y hy) hp2
    exact ⟨ih.1, fun h0 => ⟨(ih.2 g3).1, by rw [(ih.2 g3).2, g4 h0]⟩⟩

theorem LowR.rise {Ta Tb : Int} {la lb : List Lev} (pa : PO Ta la) (pb : PO Tb lb) {t : Int} {l : List Lev} (h : LowR la lb t l) (ht : 0 ≤ t) :
    l.Pairwise (fun a b => a.1 < b.1) ∧ (∀ m ∈ l, t ≤ m.1) ∧ ∀ m ∈ l, 0 ≤ m.1 ∧ m.1 < 1000000000 ∧ 0 ≤ m.2 ∧ m.2 ≤ min Ta Tb := by
  induction h with
  | stop _ _ => exact ⟨List.Pairwise.nil, (fun m hm => by cases hm), (fun m hm => by cases hm)⟩
  | step t l h h2 ih =>
    have la1 := pa.lvl_spec ht
    have lb1 := pb.lvl_spec ht
    have ea := pa.el _ la1.1
    have eb := pb.el _ lb1.1
    have hs : t < stepT la lb t := by
      unfold stepT
      have ha : t < nxt la (lvl la t) 1000000000 := by
        by_cases hn : lvl la t + 1 < la.length
        · rw [nxt_in hn]; exact la1.2.2 _ (by omega) hn
        · rw [nxt_out hn]; exact h
      have hb : t < nxt lb (lvl lb t) 1000000000 := by
        by_cases hn : lvl lb t + 1 < lb.length
        · rw [nxt_in hn]; exact lb1.2.2 _ (by omega) hn
        · rw [nxt_out hn]; exact h
      omega
    obtain ⟨i1, i2, i3⟩ := ih (by omega)
    refine ⟨List.pairwise_cons.2 ⟨fun m hm => ?_, i1⟩, fun m hm => ?_, fun m hm => ?_⟩
    · have := i2 m hm; show t < m.1; omega
    · rcases List.mem_cons.1 hm with rfl | hm
      · exact Int.le_refl _
      · have := i2 m hm; omega
    · rcases List.mem_cons.1 hm with rfl | hm
      · unfold lowAt atI
        show 0 ≤ t ∧ t < 1000000000 ∧ _
        refine ⟨ht, h, ?_, ?_⟩
        · show 0 ≤ min _ _; omega
        · show min _ _ ≤ _; omega
      · exact i3 m hm

theorem lowL_po {Ta Tb : Int} {la lb : List Lev} (pa : PO Ta la) (pb : PO Tb lb) (hl : (lowL la lb).length ≤ 200) : PO (min Ta Tb) (lowL la lb) := by
  have h1 := low_all pa pb la.length 0 (Nat.zero_add _)
  have n1 := pa.n1
  rw [if_pos (by omega), pa.z] at h1
  obtain ⟨r1, r2, r3⟩ := h1.rise pa pb (Int.le_refl _)
  obtain ⟨l', hl', _⟩ := h1.inv.1 (by omega)
  have hj : lowL la lb = joinL [(0, lowAt la lb 0)] l' := by unfold lowL; rw [hl']; rfl
  have hg : goodL (joinL [(0, lowAt la lb 0)] l') ∧ (0 < ([(0, lowAt la lb 0)] : List Lev).length → _) := joinL_good l' [(0, lowAt la lb 0)] (fun i hi => by simp at hi) (by
    intro m hm x hx
    rw [List.mem_singleton.1 hm]
    rw [hl'] at r1
    exact (List.pairwise_cons.1 r1).1 x hx) (by rw [hl'] at r1; exact (List.pairwise_cons.1 r1).2)
  have hz := hg.2 (by simp)
  have ta := pa.t0
  have tb := pb.t0
  have ta1 := pa.t1
  refine ⟨by omega, by omega, by rw [hj]; exact hz.1, hl, by rw [hj, hz.2]; rfl, fun i hi => ?_, fun i hi => ?_⟩
  · have hm : (lowL la lb)[i] ∈ rawFrom la lb la.length 0 := by
      rcases joinL_mem _ _ _ (List.getElem_mem hi) with h | h
      · cases h
      · exact h
    have := r3 _ hm
    rw [get_fr hi, get_fe hi] at this
    omega
  · rw [hj] at hi ⊢
    exact hg.1 i hi

theorem lowL_poB {Ta Tb : Int} {la lb : List Lev} (pa : PO Ta la) (pb : PO Tb lb) : poB (min Ta Tb) (lowL la lb) = decide ((lowL la lb).length ≤ 200) := by
  by_cases h : (lowL la lb).length ≤ 200
  · rw [poB_mk (lowL_po pa pb h)]; simp [h]
  · rw [poB_no fun p => h p.n2]; simp [h]

end Go.Proofs.Ytplcpiglciplkaa
