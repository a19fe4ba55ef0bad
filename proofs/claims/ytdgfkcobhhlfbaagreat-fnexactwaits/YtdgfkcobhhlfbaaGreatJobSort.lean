/- The sort of the program: its own row, copied and sorted by the library. -/
import Derived.Test.YtdgfkcobhhlfbaaGreatPa
import Derived.Test.YtdgfkcobhhlfbaaGreatPb
import Derived.Test.YtdgfkcobhhlfbaaGreatSort
namespace Go.Proofs.YtdgfkcobhhlfbaaGreat
open Go.RowKit Go.Sort

theorem sizedJ : (Tryz.prog.info? 49).map (·.size) = some 7 := by kernel_rfl

/-- 'copy' of all jobs of a slice into a row of the call's own that is as long -/
theorem run_copy_jobs {w : World} (ty : TypeId) (B m cap : Nat) (sp : Option Addr) (l : List Jb) (hL : JobS w sp m cap l) (cur : Array Value) (hg : w.heap[B]? = some (.cells cur 49 (0, 0))) (hcs : cur.size = m * 7) :
    ∃ w', (Builtin.copy_ #[27, 27] ty #[.slice (some ⟨B, 0, none⟩) m m, .slice sp m cap]).run Tryz.prog w = .ok (.int .i64 m) w' ∧ JobB w' B m m l ∧ Only B w w' := by
  by_cases h0 : m = 0
  · subst h0
    have hrun := run_copy_noneK (P := Tryz.prog) 7 w 27 27 ty 49 (some ⟨B, 0, none⟩) sp 0 0 0 cap Tryz.underlying27 sizedJ rfl
    exact ⟨w, hrun, ⟨cur, hg, hcs, fun i hi => by omega⟩, Only.refl _ _⟩
  · obtain ⟨b, off, rfl, hb, hat⟩ := hL.at_ (by omega)
    have hl := hL.len
    have hc := jcells_len l
    have hsrc : ∀ j v, (jcells l)[j]? = some v → w.cell? ((⟨b, off, none⟩ : Addr).add j) = some v := by
      intro j v hj
      obtain ⟨h1, rfl⟩ := jcells_get hj
      have hadd : (⟨b, off, none⟩ : Addr).add j = ⟨b, off + j, none⟩ := by unfold Addr.add; split <;> simp_all
      rw [hadd, ← hat (j / 7) h1 (j % 7) (by omega), show off + j / 7 * 7 + j % 7 = off + j by omega]
    have hrun := run_copy_rowK (P := Tryz.prog) 7 w 27 27 ty 49 B 0 m m ⟨b, off, none⟩ m cap m cur 49 (jcells l) Tryz.underlying27 sizedJ hg (by simp) (by omega) hsrc (by omega) (jcells_one l)
    have e : (cur.toList.take 0 ++ jcells l ++ cur.toList.drop (0 + (jcells l).length)).toArray = (jcells l).toArray := by
      rw [List.take_zero, List.nil_append, List.drop_eq_nil_of_le (by simp; omega), List.append_nil]
    rw [e] at hrun
    refine ⟨_, hrun, ⟨(jcells l).toArray, setRow_heap w B _ _ _ _ hg, by simp; omega, fun i hi c hc7 => ?_⟩, ⟨rfl, rfl, rfl, by simp [World.setRow], fun k hk => setRow_other w B k _ hk⟩⟩
    have := jcells_at l i c (by omega) hc7
    simpa using this

theorem JobB.holds [Inhabited Jb] {w : World} {B n : Nat} {ls : List Jb} (h : JobB w B n n ls) (hl : ls.length = n) : HoldsK jl 7 w B 0 ls.toArray := by
  obtain ⟨cur, h1, h2, h3⟩ := h
  intro j hj
  have hj' : j < n * 7 := by simpa [hl] using hj
  rw [get_flatK _ _ _ _ (by simpa [hl] using hj'), Nat.zero_add]
  have hc := h3 (j / 7) (by omega) (j % 7) (by omega)
  rw [show j / 7 * 7 + j % 7 = j by omega] at hc
  refine ⟨?_, free_of_blk j h1⟩
  rw [← jg_arr _ _ (by simp; omega), jl_at _ _ (by omega)]
  simp [World.cell?, h1, hc]

theorem sorted_blk [Inhabited Jb] {w : World} {B n q : Nat} {ls : List Jb} {d' : Array Jb} {os : Array Obj} (h : JobB w B n n ls) (hl : ls.length = n) (hd : d'.size = n) : JobB (sortWorldK jl 7 w B 0 q d' os) B n n d'.toList := by
  have hB := h.lt
  have hH := holdsK_sortWorldK_c jl 7 w B 0 ls.toArray d' q os (h.holds hl) hB (by simp [hl, hd])
  obtain ⟨cur, h1, h2, _⟩ := h
  have hb : ∃ cur', (sortWorldK jl 7 w B 0 q d' os).heap[B]? = some (.cells cur' 49 (0, 0)) ∧ cur'.size = n * 7 := by
    have e : (sortWorldK jl 7 w B 0 q d' os).heap = w.heap.modify B (onCells (putCells id 0 (flatK jl 7 d'))) ++ os := rfl
    rw [e, Array.getElem?_append, if_pos (by simpa using hB), Array.getElem?_modify, if_pos rfl, h1]
    refine ⟨_, rfl, ?_⟩
    show (Array.mapIdx _ cur).size = n * 7
    rw [Array.size_mapIdx, h2]
  obtain ⟨cur', g1, g2⟩ := hb
  refine ⟨cur', g1, g2, fun i hi c hc => ?_⟩
  have := (hH.cell (i := i) (c := c) (by omega) hc).1
  rw [jl_at _ _ hc, ← jg_arr _ _ (by omega), Nat.zero_add] at this
  simpa [World.cell?, g1] using this

def jcmp (x y : Jb) : Int := inQ x.id x.rank x.at_ y.id y.rank y.at_
theorem ltOf_jcmp : ltOf jcmp = jlt := by
  funext x y
  exact inQ_ahead _ _ _ _ _ _

theorem inQ_enters (args : Array Value) (w : World) : (callFunc 46 args).run Tryz.prog w = .ok (.enter 46 args) w := enters_of Tryz.func46 (by kernel_rfl) rfl args w

theorem sortFunc_any (B n : Nat) (ls : List Jb) (w : World) (h : JobB w B n n ls) (hl : ls.length = n) (hn : n ≤ 1048576) :
    Calls Tryz.prog 70 #[.slice (some ⟨B, 0, none⟩) n n, .func (.func 46) #[] #[]] w fun e w' =>
      e = .returned (.tuple #[]) ∧ ∃ ls', ls'.Perm ls ∧ ls'.length = n ∧ jsorted ls' ∧ JobB w' B n n ls' ∧ Below B w w' := by
  have hsz : ls.toArray.size = n := by simpa using hl
  haveI : Inhabited Jb := ⟨jb0⟩
  have hS := AnyQ.slices_SortFunc Tryz.sortJob 7 (fun _ => by kernel_rfl) (fun _ => by kernel_rfl) jl jl_len jl_one jcmp (by rw [ltOf_jcmp]; exact swo_jlt) 46 #[] B 0 n ls.toArray w inQ_enters
    (fun m os dk _ x y => inQueue_any _ _ _ _ _ _ _ _ _ _ _ _ _ _ _) (h.holds hl) h.lt (by omega)
  change Calls Tryz.prog 70 _ _ _ at hS
  rw [hsz, ltOf_jcmp] at hS
  refine hS.mono ?_
  rintro e w' ⟨rfl, d', q, os, ⟨hp1, _, hp3⟩, hso, rfl⟩
  have hd : d'.size = n := by omega
  refine ⟨rfl, d'.toList, ?_, by simpa using hd, ?_, sorted_blk h hl hd, ?_⟩
  · rw [← hd] at hp3
    have e1 : (d'.extract 0 d'.size).toList = d'.toList := by simp
    have e2 : (ls.toArray.extract 0 d'.size).toList = ls := by rw [hd, ← hsz]; simp
    rwa [e1, e2] at hp3
  · intro i j hij hj
    have hj2 : d'.toList.length = d'.size := by simp
    rw [jg_arr _ _ (by omega), jg_arr _ _ (by omega)]
    exact hso i j (Nat.zero_le _) hij (by have : d'.toList.length = d'.size := by simp
                                          omega)
  · refine ⟨rfl, rfl, rfl, ?_, fun k hk => ?_⟩
    · simp [sortWorldK, putRowK, putRow, mapBlock, Sort.ahead]
    · have e : (sortWorldK jl 7 w B 0 q d' os).heap = w.heap.modify B (onCells (putCells id 0 (flatK jl 7 d'))) ++ os := rfl
      have hB := h.lt
      rw [e, Array.getElem?_append, if_pos (by simp; omega), Array.getElem?_modify, if_neg (by omega)]

set_option maxHeartbeats 1000000 in
theorem implSorted_any (a : Option Addr) (n cap : Nat) (ls : List Jb) (w : World) (h : JobS w a n cap ls) (hn : n ≤ 1048576) :
    Calls Tryz.prog 47 #[.func (.func 46) #[] #[], .slice a n cap] w fun e w' =>
      ∃ B ls', e = .returned (.slice (some ⟨B, 0, none⟩) n n) ∧ w.heap.size ≤ B ∧ ls'.Perm ls ∧ ls'.length = n ∧ jsorted ls' ∧ JobB w' B n n ls' ∧ Below w.heap.size w w' := by
  have hlen := h.len
  have hmk : ∀ wx : World, (Instr.makeSlice 27 (.int .i64 (n : Int)) (.int .i64 (n : Int))).run Tryz.prog wx = .ok (.slice (some ⟨wx.heap.size, 0, none⟩) n n) (wx.alloc (.cells (madeCells #[.int .i64 0, .int .i64 0, .int .i64 0, .int .i64 0, .int .i64 0, .int .i64 0, .int .i64 0] (n * 7)) 49)) := fun wx => run_makeJobs n hn wx
  obtain ⟨w2, hcp, hL, ho⟩ := run_copy_jobs 3 w.heap.size n cap a ls (h.below (box_below (cs := madeCells #[.int .i64 0, .int .i64 0, .int .i64 0, .int .i64 0, .int .i64 0, .int .i64 0, .int .i64 0] (n * 7)) (T := 49))) _ (by rw [heap_alloc_new]) (by simp [size_madeCells])
  have hS := sortFunc_any w.heap.size n ls w2 hL hlen hn
  have B2 : Below w.heap.size w w2 := box_below.trans (ho.below (Nat.le_refl _))
  clear hL ho
  go_enter Tryz.func47, Tryz.ntmps47
  go_wp2_with (go_at_call 70; refine hS.mono ?_; rintro e w' ⟨rfl, ls', hp, hl', hso, hB, hb⟩)
  go_ret
  exact ⟨_, ls', rfl, Nat.le_refl _, hp, hl', hso, hB, B2.trans hb⟩

end Go.Proofs.YtdgfkcobhhlfbaaGreat
