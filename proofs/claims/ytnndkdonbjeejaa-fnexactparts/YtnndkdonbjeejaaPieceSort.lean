/- Rows of Piece, copied and sorted by whatever compares them. -/
import Derived.Test.YtnndkdonbjeejaaPieceRow
import Derived.Test.YtnndkdonbjeejaaCmp
import Derived.Test.YtnndkdonbjeejaaCopy2
import Derived.Test.YtnndkdonbjeejaaSort
namespace Go.Proofs.Ytnndkdonbjeejaa
open Go.RowKit Go.Sort

theorem sizedPiece : (Try.prog.info? 56).map (·.size) = some 4 := by kernel_rfl

/-- 'copy' of all jobs of a slice into a row of the call's own that is as long -/
theorem run_copy_Piece {w : World} (ty : TypeId) (B m cap : Nat) (sp : Option Addr) (l : List Pc) (hL : PieceS w sp m cap l) (cur : Array Value) (hg : w.heap[B]? = some (.cells cur 56 (0, 0))) (hcs : cur.size = m * 4) :
    ∃ w', (Builtin.copy_ #[27, 27] ty #[.slice (some ⟨B, 0, none⟩) m m, .slice sp m cap]).run Try.prog w = .ok (.int .i64 m) w' ∧ PieceB w' B m m l ∧ Only B w w' := by
  by_cases h0 : m = 0
  · subst h0
    have hrun := run_copy_noneK (P := Try.prog) 4 w 27 27 ty 56 (some ⟨B, 0, none⟩) sp 0 0 0 cap Try.underlying27 sizedPiece rfl
    exact ⟨w, hrun, ⟨cur, hg, hcs, fun i hi => by omega⟩, Only.refl _ _⟩
  · obtain ⟨b, off, rfl, hb, hat⟩ := hL.at_ (by omega)
    have hl := hL.len
    have hc := pccells_len l
    have hsrc : ∀ j v, (pccells l)[j]? = some v → w.cell? ((⟨b, off, none⟩ : Addr).add j) = some v := by
      intro j v hj
      obtain ⟨h1, rfl⟩ := pccells_get hj
      have hadd : (⟨b, off, none⟩ : Addr).add j = ⟨b, off + j, none⟩ := by unfold Addr.add; split <;> simp_all
      rw [hadd, ← hat (j / 4) h1 (j % 4) (by omega), show off + j / 4 * 4 + j % 4 = off + j by omega]
    have hrun := run_copy_rowK (P := Try.prog) 4 w 27 27 ty 56 B 0 m m ⟨b, off, none⟩ m cap m cur 56 (pccells l) Try.underlying27 sizedPiece hg (by simp) (by omega) hsrc (by omega) (pccells_one l)
    have e : (cur.toList.take 0 ++ pccells l ++ cur.toList.drop (0 + (pccells l).length)).toArray = (pccells l).toArray := by
      rw [List.take_zero, List.nil_append, List.drop_eq_nil_of_le (by simp; omega), List.append_nil]
    rw [e] at hrun
    refine ⟨_, hrun, ⟨(pccells l).toArray, setRow_heap w B _ _ _ _ hg, by simp; omega, fun i hi c hc7 => ?_⟩, ⟨rfl, rfl, rfl, by simp [World.setRow], fun k hk => setRow_other w B k _ hk⟩⟩
    have := pccells_at l i c (by omega) hc7
    simpa using this

theorem PieceB.holds [Inhabited Pc] {w : World} {B n : Nat} {ls : List Pc} (h : PieceB w B n n ls) (hl : ls.length = n) : HoldsK pcl 4 w B 0 ls.toArray := by
  obtain ⟨cur, h1, h2, h3⟩ := h
  intro j hj
  have hj' : j < n * 4 := by simpa [hl] using hj
  rw [get_flatK _ _ _ _ (by simpa [hl] using hj'), Nat.zero_add]
  have hc := h3 (j / 4) (by omega) (j % 4) (by omega)
  rw [show j / 4 * 4 + j % 4 = j by omega] at hc
  refine ⟨?_, free_of_blk j h1⟩
  rw [← pcg_arr _ _ (by simp; omega), pcl_at _ _ (by omega)]
  simp [World.cell?, h1, hc]

theorem sorted_blkPiece [Inhabited Pc] {w : World} {B n q : Nat} {ls : List Pc} {d' : Array Pc} {os : Array Obj} (h : PieceB w B n n ls) (hl : ls.length = n) (hd : d'.size = n) : PieceB (sortWorldK pcl 4 w B 0 q d' os) B n n d'.toList := by
  have hB := h.lt
  have hH := holdsK_sortWorldK_c pcl 4 w B 0 ls.toArray d' q os (h.holds hl) hB (by simp [hl, hd])
  obtain ⟨cur, h1, h2, _⟩ := h
  have hb : ∃ cur', (sortWorldK pcl 4 w B 0 q d' os).heap[B]? = some (.cells cur' 56 (0, 0)) ∧ cur'.size = n * 4 := by
    have e : (sortWorldK pcl 4 w B 0 q d' os).heap = w.heap.modify B (onCells (putCells id 0 (flatK pcl 4 d'))) ++ os := rfl
    rw [e, Array.getElem?_append, if_pos (by simpa using hB), Array.getElem?_modify, if_pos rfl, h1]
    refine ⟨_, rfl, ?_⟩
    show (Array.mapIdx _ cur).size = n * 4
    rw [Array.size_mapIdx, h2]
  obtain ⟨cur', g1, g2⟩ := hb
  refine ⟨cur', g1, g2, fun i hi c hc => ?_⟩
  have := (hH.cell (i := i) (c := c) (by omega) hc).1
  rw [pcl_at _ _ hc, ← pcg_arr _ _ (by omega), Nat.zero_add] at this
  simpa [World.cell?, g1] using this

theorem sortW_keepPiece [Inhabited Pc] (w : World) (B q : Nat) (d : Array Pc) (os : Array Obj) (hB : B < w.heap.size) : Below B w (sortWorldK pcl 4 w B 0 q d os) ∧ ∀ k, k < w.heap.size → k ≠ B → (sortWorldK pcl 4 w B 0 q d os).heap[k]? = w.heap[k]? := by
  have e : (sortWorldK pcl 4 w B 0 q d os).heap = w.heap.modify B (onCells (putCells id 0 (flatK pcl 4 d))) ++ os := rfl
  have h : ∀ k, k < w.heap.size → k ≠ B → (sortWorldK pcl 4 w B 0 q d os).heap[k]? = w.heap[k]? := fun k hk hne => by
    rw [e, Array.getElem?_append, if_pos (by simpa using hk), Array.getElem?_modify, if_neg (Ne.symm hne)]
  exact ⟨⟨rfl, rfl, rfl, by rw [e]; simp, fun k hk => h k (by omega) (by omega)⟩, h⟩

set_option maxHeartbeats 1000000 in
theorem sortPiece_any (c : Pc → Pc → Int) (hS : SWO (ltOf c)) (g : Nat) (cb : Array Value) (eg : ∀ args w, (callFunc g args).run Try.prog w = .ok (.enter g args) w) (B n : Nat) (ls : List Pc) (w : World) (h : PieceB w B n n ls) (hl : ls.length = n) (hn : n ≤ 1048576)
    (hc : ∀ W, (∀ k, k < w.heap.size → k ≠ B → W.heap[k]? = w.heap[k]?) → ∀ x y : Pc, Calls Try.prog g (#[.agg (pcl x).toArray, .agg (pcl y).toArray] ++ cb) W fun e w' => e = .returned (.int .i64 (c x y)) ∧ GrS W w') :
    Calls Try.prog 72 #[.slice (some ⟨B, 0, none⟩) n n, .func (.func g) #[] cb] w fun e w' =>
      e = .returned (.tuple #[]) ∧ ∃ ls', ls'.Perm ls ∧ ls'.length = n ∧ ls'.Pairwise (fun x y => decide (c y x < 0) = false) ∧ PieceB w' B n n ls' ∧ Below B w w' := by
  have hsz : ls.toArray.size = n := by simpa using hl
  haveI : Inhabited Pc := ⟨pc0⟩
  have hS := AnyQ.slices_SortFunc Try.sortJob 4 (fun _ => by kernel_rfl) (fun _ => by kernel_rfl) pcl pcl_len pcl_one c hS g cb B 0 n ls.toArray w eg
    (fun m os dk _ x y => hc _ (sortW_keepPiece w B m _ os h.lt).2 x y) (h.holds hl) h.lt (by omega)
  change Calls Try.prog 72 _ _ _ at hS
  rw [hsz] at hS
  refine hS.mono ?_
  rintro e w' ⟨rfl, d', q, os, ⟨hp1, _, hp3⟩, hso, rfl⟩
  have hd : d'.size = n := by omega
  refine ⟨rfl, d'.toList, ?_, by simpa using hd, ?_, sorted_blkPiece h hl hd, (sortW_keepPiece w B q _ os h.lt).1⟩
  · rw [← hd] at hp3
    have e1 : (d'.extract 0 d'.size).toList = d'.toList := by simp
    have e2 : (ls.toArray.extract 0 d'.size).toList = ls := by rw [hd, ← hsz]; simp
    rwa [e1, e2] at hp3
  · rw [List.pairwise_iff_getElem]
    intro i j hi hj hij
    have hj' : j < d'.size := by simpa using hj
    have hi' : i < d'.size := by simpa using hi
    have := hso i j (Nat.zero_le _) hij (by omega)
    unfold ltOf at this
    rw [getElem!_pos d' i hi', getElem!_pos d' j hj'] at this
    simpa using this

set_option maxHeartbeats 1000000 in
theorem sortedPiece_any (c : Pc → Pc → Int) (hS : SWO (ltOf c)) (g : Nat) (cb : Array Value) (eg : ∀ args w, (callFunc g args).run Try.prog w = .ok (.enter g args) w) (a : Option Addr) (n cap : Nat) (ls : List Pc) (w : World) (h : PieceS w a n cap ls) (hn : n ≤ 1048576)
    (hc : ∀ W, (∀ k, k < w.heap.size → W.heap[k]? = w.heap[k]?) → ∀ x y : Pc, Calls Try.prog g (#[.agg (pcl x).toArray, .agg (pcl y).toArray] ++ cb) W fun e w' => e = .returned (.int .i64 (c x y)) ∧ GrS W w') :
    Calls Try.prog 62 #[.func (.func g) #[] cb, .slice a n cap] w fun e w' =>
      ∃ B ls', e = .returned (.slice (some ⟨B, 0, none⟩) n n) ∧ w.heap.size ≤ B ∧ ls'.Perm ls ∧ ls'.length = n ∧ ls'.Pairwise (fun x y => decide (c y x < 0) = false) ∧ PieceB w' B n n ls' ∧ Below w.heap.size w w' := by
  have hlen := h.len
  have hmk : ∀ wx : World, (Instr.makeSlice 27 (.int .i64 (n : Int)) (.int .i64 (n : Int))).run Try.prog wx = .ok (.slice (some ⟨wx.heap.size, 0, none⟩) n n) (wx.alloc (.cells (madeCells #[.int .i64 0, .int .i64 0, .int .i64 0, .int .i64 0] (n * 4)) 56)) := fun wx => run_makePieces n hn wx
  obtain ⟨w2, hcp, hL, ho⟩ := run_copy_Piece 3 w.heap.size n cap a ls (h.below (box_below (cs := madeCells #[.int .i64 0, .int .i64 0, .int .i64 0, .int .i64 0] (n * 4)) (T := 56))) _ (by rw [heap_alloc_new]) (by simp [size_madeCells])
  have B2 : Below w.heap.size w w2 := box_below.trans (ho.below (Nat.le_refl _))
  have hS := sortPiece_any c hS g cb eg w.heap.size n ls w2 hL hlen hn (fun W hk => hc W (fun k hk' => (hk k (Nat.lt_of_lt_of_le hk' B2.size) (by omega)).trans (B2.block k hk')))
  clear hL ho hc
  go_enter Try.func62, Try.ntmps62
  go_wp2_with (go_at_call 72; refine hS.mono ?_; rintro e w' ⟨rfl, ls', hp, hl', hso, hB, hb⟩)
  go_ret
  exact ⟨_, ls', rfl, Nat.le_refl _, hp, hl', hso, hB, B2.trans hb⟩

end Go.Proofs.Ytnndkdonbjeejaa
