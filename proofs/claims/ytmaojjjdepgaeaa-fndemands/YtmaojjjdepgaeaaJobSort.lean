/- The sort of the program: its own row, copied and sorted by the library. -/
import Derived.Test.YtmaojjjdepgaeaaJobRows
import Derived.Test.YtmaojjjdepgaeaaCopy2
import Derived.Test.YtmaojjjdepgaeaaSort
namespace Go.Proofs.Ytmaojjjdepgaeaa
open Go.RowKit Go.Sort

theorem sizedJ : (Try.prog.info? 49).map (·.size) = some 7 := by kernel_rfl

/-- 'copy' of all jobs of a slice into a row of the call's own that is as long -/
theorem run_copy_jobs {w : World} (ty : TypeId) (B m cap : Nat) (sp : Option Addr) (l : List Jb) (hL : JobS w sp m cap l) (cur : Array Value) (hg : w.heap[B]? = some (.cells cur 49 (0, 0))) (hcs : cur.size = m * 7) :
    ∃ w', (Builtin.copy_ #[24, 24] ty #[.slice (some ⟨B, 0, none⟩) m m, .slice sp m cap]).run Try.prog w = .ok (.int .i64 m) w' ∧ JobB w' B m m l ∧ Only B w w' := by
  by_cases h0 : m = 0
  · subst h0
    have hrun := run_copy_noneK (P := Try.prog) 7 w 24 24 ty 49 (some ⟨B, 0, none⟩) sp 0 0 0 cap Try.underlying24 sizedJ rfl
    exact ⟨w, hrun, ⟨cur, hg, hcs, fun i hi => by omega⟩, Only.refl _ _⟩
  · obtain ⟨b, off, rfl, hb, hat⟩ := hL.at_ (by omega)
    have hl := hL.len
    have hc := jcells_len l
    have hsrc : ∀ j v, (jcells l)[j]? = some v → w.cell? ((⟨b, off, none⟩ : Addr).add j) = some v := by
      intro j v hj
      obtain ⟨h1, rfl⟩ := jcells_get hj
      have hadd : (⟨b, off, none⟩ : Addr).add j = ⟨b, off + j, none⟩ := by unfold Addr.add; split <;> simp_all
      rw [hadd, ← hat (j / 7) h1 (j % 7) (by omega), show off + j / 7 * 7 + j % 7 = off + j by omega]
    have hrun := run_copy_rowK (P := Try.prog) 7 w 24 24 ty 49 B 0 m m ⟨b, off, none⟩ m cap m cur 49 (jcells l) Try.underlying24 sizedJ hg (by simp) (by omega) hsrc (by omega) (jcells_one l)
    have e : (cur.toList.take 0 ++ jcells l ++ cur.toList.drop (0 + (jcells l).length)).toArray = (jcells l).toArray := by
      rw [List.take_zero, List.nil_append, List.drop_eq_nil_of_le (by simp; omega), List.append_nil]
    rw [e] at hrun
    refine ⟨_, hrun, ⟨(jcells l).toArray, setRow_heap w B _ _ _ _ hg, by simp; omega, fun i hi c hc7 => ?_⟩, ⟨rfl, rfl, rfl, by simp [World.setRow], fun k hk => setRow_other w B k _ hk⟩⟩
    have := jcells_at l i c (by omega) hc7
    simpa using this

theorem JobB.holds [Inhabited Jb] {w : World} {B n : Nat} {ls : List Jb} (h : JobB w B n n ls) (hl : ls.length = n) : HoldsK jl 7 w B 0 ls.toArray := by
  obtain ⟨cur, h1, h2, h3⟩ := h
  intro j hj
  have hj' : j < n * 7 := by simpa [hl] using hj
  rw [get_flatK _ _ _ _ (by simpa [hl] using hj'), Nat.zero_add]
  have hc := h3 (j / 7) (by omega) (j % 7) (by omega)
  rw [show j / 7 * 7 + j % 7 = j by omega] at hc
  refine ⟨?_, free_of_blk j h1⟩
  rw [← jg_arr _ _ (by simp; omega), jl_at _ _ (by omega)]
  simp [World.cell?, h1, hc]

theorem sorted_blk [Inhabited Jb] {w : World} {B n q : Nat} {ls : List Jb} {d' : Array Jb} {os : Array Obj} (h : JobB w B n n ls) (hl : ls.length = n) (hd : d'.size = n) : JobB (sortWorldK jl 7 w B 0 q d' os) B n n d'.toList := by
  have hB := h.lt
  have hH := holdsK_sortWorldK_c jl 7 w B 0 ls.toArray d' q os (h.holds hl) hB (by simp [hl, hd])
  obtain ⟨cur, h1, h2, _⟩ := h
  have hb : ∃ cur', (sortWorldK jl 7 w B 0 q d' os).heap[B]? = some (.cells cur' 49 (0, 0)) ∧ cur'.size = n * 7 := by
    have e : (sortWorldK jl 7 w B 0 q d' os).heap = w.heap.modify B (onCells (putCells id 0 (flatK jl 7 d'))) ++ os := rfl
    rw [e, Array.getElem?_append, if_pos (by simpa using hB), Array.getElem?_modify, if_pos rfl, h1]
    refine ⟨_, rfl, ?_⟩
    show (Array.mapIdx _ cur).size = n * 7
    rw [Array.size_mapIdx, h2]
  obtain ⟨cur', g1, g2⟩ := hb
  refine ⟨cur', g1, g2, fun i hi c hc => ?_⟩
  have := (hH.cell (i := i) (c := c) (by omega) hc).1
  rw [jl_at _ _ hc, ← jg_arr _ _ (by omega), Nat.zero_add] at this
  simpa [World.cell?, g1] using this

def jcmp (x y : Jb) : Int := inQ x.id x.rank x.at_ y.id y.rank y.at_
theorem ltOf_jcmp : ltOf jcmp = jlt := by
  funext x y
  exact inQ_ahead _ _ _ _ _ _

end Go.Proofs.Ytmaojjjdepgaeaa
