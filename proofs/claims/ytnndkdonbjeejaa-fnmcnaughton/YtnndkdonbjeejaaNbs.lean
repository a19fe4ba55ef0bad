/- Several texts in one. -/
import Derived.Test.YtnndkdonbjeejaaPieceRow
import Derived.Test.YtnndkdonbjeejaaCmp
import Derived.Test.YtnndkdonbjeejaaCopy2
import Derived.Test.YtnndkdonbjeejaaSort
import Derived.Test.YtnndkdonbjeejaaPieceAp
import Derived.Deep.RegionHeld3
/- Rows of Piece, copied and sorted by whatever compares them. -/
namespace Go.Proofs.Ytnndkdonbjeejaa
open Go.RowKit Go.Sort

theorem sizedPiece : (Try.prog.info? 56).map (·.size) = some 4 := by kernel_rfl

/-- 'copy' of all jobs of a slice into a row of the call's own that is as long -/
theorem run_copy_Piece {w : World} (ty : TypeId) (B m cap : Nat) (sp : Option Addr) (l : List Pc) (hL : PieceS w sp m cap l) (cur : Array Value) (hg : w.heap[B]? = some (.cells cur 56 (0, 0))) (hcs : cur.size = m * 4) :
    ∃ w', (Builtin.copy_ #[27, 27] ty #[.slice (some ⟨B, 0, none⟩) m m, .slice sp m cap]).run Try.prog w = .ok (.int .i64 m) w' ∧ PieceB w' B m m l ∧ Only B w w' := by
  by_cases h0 : m = 0
  · subst h0
    have hrun := run_copy_noneK (P := Try.prog) 4 w 27 27 ty 56 (some ⟨B, 0, none⟩) sp 0 0 0 cap Try.underlying27 sizedPiece rfl
    exact ⟨w, hrun, ⟨cur, hg, hcs, fun i hi => by omega⟩, Only.refl _ _⟩
  · obtain ⟨b, off, rfl, hb, hat⟩ := hL.at_ (by omega)
    have hl := hL.len
    have hc := pccells_len l
    have hsrc : ∀ j v, (pccells l)[j]? = some v → w.cell? ((⟨b, off, none⟩ : Addr).add j) = some v := by
      intro j v hj
      obtain ⟨h1, rfl⟩ := pccells_get hj
      have hadd : (⟨b, off, none⟩ : Addr).add j = ⟨b, off + j, none⟩ := by unfold Addr.add; split <;> simp_all
      rw [hadd, ← hat (j / 4) h1 (j % 4) (by omega), show off + j / 4 * 4 + j % 4 = off + j by omega]
    have hrun := run_copy_rowK (P := Try.prog) 4 w 27 27 ty 56 B 0 m m ⟨b, off, none⟩ m cap m cur 56 (pccells l) Try.underlying27 sizedPiece hg (by simp) (by omega) hsrc (by omega) (pccells_one l)
    have e : (cur.toList.take 0 ++ pccells l ++ cur.toList.drop (0 + (pccells l).length)).toArray = (pccells l).toArray := by
      rw [List.take_zero, List.nil_append, List.drop_eq_nil_of_le (by simp; omega), List.append_nil]
    rw [e] at hrun
    refine ⟨_, hrun, ⟨(pccells l).toArray, setRow_heap w B _ _ _ _ hg, by simp; omega, fun i hi c hc7 => ?_⟩, ⟨rfl, rfl, rfl, by simp [World.setRow], fun k hk => setRow_other w B k _ hk⟩⟩
    have := pccells_at l i c (by omega) hc7
    simpa using this

theorem PieceB.holds [Inhabited Pc] {w : World} {B n : Nat} {ls : List Pc} (h : PieceB w B n n ls) (hl : ls.length = n) : HoldsK pcl 4 w B 0 ls.toArray := by
  obtain ⟨cur, h1, h2, h3⟩ := h
  intro j hj
  have hj' : j < n * 4 := by simpa [hl] using hj
  rw [get_flatK _ _ _ _ (by simpa [hl] using hj'), Nat.zero_add]
  have hc := h3 (j / 4) (by omega) (j % 4) (by omega)
  rw [show j / 4 * 4 + j % 4 = j by omega] at hc
  refine ⟨?_, free_of_blk j h1⟩
  rw [← pcg_arr _ _ (by simp; omega), pcl_at _ _ (by omega)]
  simp [World.cell?, h1, hc]

theorem sorted_blkPiece [Inhabited Pc] {w : World} {B n q : Nat} {ls : List Pc} {d' : Array Pc} {os : Array Obj} (h : PieceB w B n n ls) (hl : ls.length = n) (hd : d'.size = n) : PieceB (sortWorldK pcl 4 w B 0 q d' os) B n n d'.toList := by
  have hB := h.lt
  have hH := holdsK_sortWorldK_c pcl 4 w B 0 ls.toArray d' q os (h.holds hl) hB (by simp [hl, hd])
  obtain ⟨cur, h1, h2, _⟩ := h
  have hb : ∃ cur', (sortWorldK pcl 4 w B 0 q d' os).heap[B]? = some (.cells cur' 56 (0, 0)) ∧ cur'.size = n * 4 := by
    have e : (sortWorldK pcl 4 w B 0 q d' os).heap = w.heap.modify B (onCells (putCells id 0 (flatK pcl 4 d'))) ++ os := rfl
    rw [e, Array.getElem?_append, if_pos (by simpa using hB), Array.getElem?_modify, if_pos rfl, h1]
    refine ⟨_, rfl, ?_⟩
    show (Array.mapIdx _ cur).size = n * 4
    rw [Array.size_mapIdx, h2]
  obtain ⟨cur', g1, g2⟩ := hb
  refine ⟨cur', g1, g2, fun i hi c hc => ?_⟩
  have := (hH.cell (i := i) (c := c) (by omega) hc).1
  rw [pcl_at _ _ hc, ← pcg_arr _ _ (by omega), Nat.zero_add] at this
  simpa [World.cell?, g1] using this

theorem sortW_keepPiece [Inhabited Pc] (w : World) (B q : Nat) (d : Array Pc) (os : Array Obj) (hB : B < w.heap.size) : Below B w (sortWorldK pcl 4 w B 0 q d os) ∧ ∀ k, k < w.heap.size → k ≠ B → (sortWorldK pcl 4 w B 0 q d os).heap[k]? = w.heap[k]? := by
  have e : (sortWorldK pcl 4 w B 0 q d os).heap = w.heap.modify B (onCells (putCells id 0 (flatK pcl 4 d))) ++ os := rfl
  have h : ∀ k, k < w.heap.size → k ≠ B → (sortWorldK pcl 4 w B 0 q d os).heap[k]? = w.heap[k]? := fun k hk hne => by
    rw [e, Array.getElem?_append, if_pos (by simpa using hk), Array.getElem?_modify, if_neg (Ne.symm hne)]
  exact ⟨⟨rfl, rfl, rfl, by rw [e]; simp, fun k hk => h k (by omega) (by omega)⟩, h⟩

set_option maxHeartbeats 1000000 in
theorem sortPiece_any (c : Pc → Pc → Int) (hS : SWO (ltOf c)) (g : Nat) (cb : Array Value) (eg : ∀ args w, (callFunc g args).run Try.prog w = .ok (.enter g args) w) (B n : Nat) (ls : List Pc) (w : World) (h : PieceB w B n n ls) (hl : ls.length = n) (hn : n ≤ 1048576)
    (hc : ∀ W, (∀ k, k < w.heap.size → k ≠ B → W.heap[k]? = w.heap[k]?) → ∀ x y : Pc, Calls Try.prog g (#[.agg (pcl x).toArray, .agg (pcl y).toArray] ++ cb) W fun e w' => e = .returned (.int .i64 (c x y)) ∧ GrS W w') :
    Calls Try.prog 72 #[.slice (some ⟨B, 0, none⟩) n n, .func (.func g) #[] cb] w fun e w' =>
      e = .returned (.tuple #[]) ∧ ∃ ls', ls'.Perm ls ∧ ls'.length = n ∧ ls'.Pairwise (fun x y => decide (c y x < 0) = false) ∧ PieceB w' B n n ls' ∧ Below B w w' := by
  have hsz : ls.toArray.size = n := by simpa using hl
  haveI : Inhabited Pc := ⟨pc0⟩
  have hS := AnyQ.slices_SortFunc Try.sortJob 4 (fun _ => by kernel_rfl) (fun _ => by kernel_rfl) pcl pcl_len pcl_one c hS g cb B 0 n ls.toArray w eg
    (fun m os dk _ x y => hc _ (sortW_keepPiece w B m _ os h.lt).2 x y) (h.holds hl) h.lt (by omega)
  change Calls Try.prog 72 _ _ _ at hS
  rw [hsz] at hS
  refine hS.mono ?_
  rintro e w' ⟨rfl, d', q, os, ⟨hp1, _, hp3⟩, hso, rfl⟩
  have hd : d'.size = n := by omega
  refine ⟨rfl, d'.toList, ?_, by simpa using hd, ?_, sorted_blkPiece h hl hd, (sortW_keepPiece w B q _ os h.lt).1⟩
  · rw [← hd] at hp3
    have e1 : (d'.extract 0 d'.size).toList = d'.toList := by simp
    have e2 : (ls.toArray.extract 0 d'.size).toList = ls := by rw [hd, ← hsz]; simp
    rwa [e1, e2] at hp3
  · rw [List.pairwise_iff_getElem]
    intro i j hi hj hij
    have hj' : j < d'.size := by simpa using hj
    have hi' : i < d'.size := by simpa using hi
    have := hso i j (Nat.zero_le _) hij (by omega)
    unfold ltOf at this
    rw [getElem!_pos d' i hi', getElem!_pos d' j hj'] at this
    simpa using this

set_option maxHeartbeats 1000000 in
theorem sortedPiece_any (c : Pc → Pc → Int) (hS : SWO (ltOf c)) (g : Nat) (cb : Array Value) (eg : ∀ args w, (callFunc g args).run Try.prog w = .ok (.enter g args) w) (a : Option Addr) (n cap : Nat) (ls : List Pc) (w : World) (h : PieceS w a n cap ls) (hn : n ≤ 1048576)
    (hc : ∀ W, (∀ k, k < w.heap.size → W.heap[k]? = w.heap[k]?) → ∀ x y : Pc, Calls Try.prog g (#[.agg (pcl x).toArray, .agg (pcl y).toArray] ++ cb) W fun e w' => e = .returned (.int .i64 (c x y)) ∧ GrS W w') :
    Calls Try.prog 62 #[.func (.func g) #[] cb, .slice a n cap] w fun e w' =>
      ∃ B ls', e = .returned (.slice (some ⟨B, 0, none⟩) n n) ∧ w.heap.size ≤ B ∧ ls'.Perm ls ∧ ls'.length = n ∧ ls'.Pairwise (fun x y => decide (c y x < 0) = false) ∧ PieceB w' B n n ls' ∧ Below w.heap.size w w' := by
  have hlen := h.len
  have hmk : ∀ wx : World, (Instr.makeSlice 27 (.int .i64 (n : Int)) (.int .i64 (n : Int))).run Try.prog wx = .ok (.slice (some ⟨wx.heap.size, 0, none⟩) n n) (wx.alloc (.cells (madeCells #[.int .i64 0, .int .i64 0, .int .i64 0, .int .i64 0] (n * 4)) 56)) := fun wx => run_makePieces n hn wx
  obtain ⟨w2, hcp, hL, ho⟩ := run_copy_Piece 3 w.heap.size n cap a ls (h.below (box_below (cs := madeCells #[.int .i64 0, .int .i64 0, .int .i64 0, .int .i64 0] (n * 4)) (T := 56))) _ (by rw [heap_alloc_new]) (by simp [size_madeCells])
  have B2 : Below w.heap.size w w2 := box_below.trans (ho.below (Nat.le_refl _))
  have hS := sortPiece_any c hS g cb eg w.heap.size n ls w2 hL hlen hn (fun W hk => hc W (fun k hk' => (hk k (Nat.lt_of_lt_of_le hk' B2.size) (by omega)).trans (B2.block k hk')))
  clear hL ho hc
  go_enter Try.func62, Try.ntmps62
  go_wp2_with (go_at_call 72; refine hS.mono ?_; rintro e w' ⟨rfl, ls', hp, hl', hso, hB, hb⟩)
  go_ret
  exact ⟨_, ls', rfl, Nat.le_refl _, hp, hl', hso, hB, B2.trans hb⟩

end Go.Proofs.Ytnndkdonbjeejaa

/- The orders of pieces: by machine or by job, then by From; in the program. -/
namespace Go.Proofs.Ytnndkdonbjeejaa
open Go.RowKit Go.Sort

def kMac (x y : Pc) : Int := cmpI x.mac y.mac
def kJob (x y : Pc) : Int := cmpI x.job y.job
def kFr (x y : Pc) : Int := cmpI x.fr y.fr
def kUp (x y : Pc) : Int := cmpI x.up y.up
def keyM : Pc → Pc → Int := keyBy (·.mac)
def keyJ : Pc → Pc → Int := keyBy (·.job)
theorem swo_keyM : SWO (ltOf keyM) := swo_keyBy _
theorem swo_keyJ : SWO (ltOf keyJ) := swo_keyBy _

theorem byPieceMachine_any (x y : Pc) (w : World) :
    Calls Try.prog 40 #[.agg #[.int .i64 x.job, .int .i64 x.mac, .int .i64 x.fr, .int .i64 x.up], .agg #[.int .i64 y.job, .int .i64 y.mac, .int .i64 y.fr, .int .i64 y.up]] w fun e w' => e = .returned (.int .i64 (kMac x y)) ∧ GrS w w' := by
  have hw : ∀ A B, GrS w ((w.alloc A).alloc B) := fun A B => ((GrS.refl w).alloc A).alloc B
  unfold kMac
  go_enter Try.func40, Try.ntmps40
  go_wp2_with (go_at_call 63; refine (compare_any _ _ _).mono ?_; rintro e w' ⟨rfl, rfl⟩)
  go_ret
  exact ⟨rfl, hw _ _⟩

theorem byPieceJob_any (x y : Pc) (w : World) :
    Calls Try.prog 41 #[.agg #[.int .i64 x.job, .int .i64 x.mac, .int .i64 x.fr, .int .i64 x.up], .agg #[.int .i64 y.job, .int .i64 y.mac, .int .i64 y.fr, .int .i64 y.up]] w fun e w' => e = .returned (.int .i64 (kJob x y)) ∧ GrS w w' := by
  have hw : ∀ A B, GrS w ((w.alloc A).alloc B) := fun A B => ((GrS.refl w).alloc A).alloc B
  unfold kJob
  go_enter Try.func41, Try.ntmps41
  go_wp2_with (go_at_call 63; refine (compare_any _ _ _).mono ?_; rintro e w' ⟨rfl, rfl⟩)
  go_ret
  exact ⟨rfl, hw _ _⟩

theorem byPieceFrom_any (x y : Pc) (w : World) :
    Calls Try.prog 61 #[.agg #[.int .i64 x.job, .int .i64 x.mac, .int .i64 x.fr, .int .i64 x.up], .agg #[.int .i64 y.job, .int .i64 y.mac, .int .i64 y.fr, .int .i64 y.up]] w fun e w' => e = .returned (.int .i64 (kFr x y)) ∧ GrS w w' := by
  have hw : ∀ A B, GrS w ((w.alloc A).alloc B) := fun A B => ((GrS.refl w).alloc A).alloc B
  unfold kFr
  go_enter Try.func61, Try.ntmps61
  go_wp2_with (go_at_call 63; refine (compare_any _ _ _).mono ?_; rintro e w' ⟨rfl, rfl⟩)
  go_ret
  exact ⟨rfl, hw _ _⟩

theorem byPieceTo_any (x y : Pc) (w : World) :
    Calls Try.prog 46 #[.agg #[.int .i64 x.job, .int .i64 x.mac, .int .i64 x.fr, .int .i64 x.up], .agg #[.int .i64 y.job, .int .i64 y.mac, .int .i64 y.fr, .int .i64 y.up]] w fun e w' => e = .returned (.int .i64 (kUp x y)) ∧ GrS w w' := by
  have hw : ∀ A B, GrS w ((w.alloc A).alloc B) := fun A B => ((GrS.refl w).alloc A).alloc B
  unfold kUp
  go_enter Try.func46, Try.ntmps46
  go_wp2_with (go_at_call 63; refine (compare_any _ _ _).mono ?_; rintro e w' ⟨rfl, rfl⟩)
  go_ret
  exact ⟨rfl, hw _ _⟩

theorem then_makeC (g g' : Nat) (w : World) :
    Calls Try.prog 60 #[.func (.func g) #[] #[], .func (.func g') #[] #[]] w fun e w' => e = .returned (.func (.func 70) #[] #[.pointer (some ⟨w.heap.size, 0, none⟩), .pointer (some ⟨w.heap.size + 1, 0, none⟩)]) ∧ w' = (w.alloc (.cells #[.func (.func g) #[] #[]] 86)).alloc (.cells #[.func (.func g') #[] #[]] 86) := by
  go_enter Try.func60, Try.ntmps60
  go_wp2
  go_ret
  exact ⟨by simp, rfl⟩

set_option maxRecDepth 8000 in
set_option maxHeartbeats 4000000 in
theorem then_byPieceMachine (x y : Pc) (bo bn : Nat) (w : World) (ho : w.cell? ⟨bo, 0, none⟩ = some (.func (.func 40) #[] #[])) (hn : w.cell? ⟨bn, 0, none⟩ = some (.func (.func 61) #[] #[])) :
    Calls Try.prog 70 #[.agg #[.int .i64 x.job, .int .i64 x.mac, .int .i64 x.fr, .int .i64 x.up], .agg #[.int .i64 y.job, .int .i64 y.mac, .int .i64 y.fr, .int .i64 y.up], .pointer (some ⟨bo, 0, none⟩), .pointer (some ⟨bn, 0, none⟩)] w fun e w' => e = .returned (.int .i64 (keyM x y)) ∧ GrS w w' := by
  have hbo := World.block_lt_of_cell? w _ ho
  have hbn := World.block_lt_of_cell? w _ hn
  obtain ⟨W0, hW0⟩ : ∃ W0, W0 = (w.alloc (.cells #[.int .i64 x.job, .int .i64 x.mac, .int .i64 x.fr, .int .i64 x.up] 56)).alloc (.cells #[.int .i64 y.job, .int .i64 y.mac, .int .i64 y.fr, .int .i64 y.up] 56) := ⟨_, rfl⟩
  have HG : Hid (GrS w W0) := by rw [hW0]; exact ((GrS.refl w).alloc _).alloc _
  have HKK : Hid (∀ w', GrS W0 w' → GrS W0 w' ∧ w'.cell? ⟨bo, 0, none⟩ = some (.func (.func 40) #[] #[]) ∧ w'.cell? ⟨bn, 0, none⟩ = some (.func (.func 61) #[] #[]) ∧ w'.cell? ⟨w.heap.size, 0, none⟩ = some (.int .i64 x.job) ∧ w'.cell? ⟨w.heap.size, 1, none⟩ = some (.int .i64 x.mac) ∧ w'.cell? ⟨w.heap.size, 2, none⟩ = some (.int .i64 x.fr) ∧ w'.cell? ⟨w.heap.size, 3, none⟩ = some (.int .i64 x.up) ∧ w'.cell? ⟨w.heap.size + 1, 0, none⟩ = some (.int .i64 y.job) ∧ w'.cell? ⟨w.heap.size + 1, 1, none⟩ = some (.int .i64 y.mac) ∧ w'.cell? ⟨w.heap.size + 1, 2, none⟩ = some (.int .i64 y.fr) ∧ w'.cell? ⟨w.heap.size + 1, 3, none⟩ = some (.int .i64 y.up)) := by
    intro w' hg
    have z : W0.heap.size = w.heap.size + 2 := by rw [hW0]; simp
    have k : ∀ b j, b < W0.heap.size → w'.cell? ⟨b, j, none⟩ = W0.cell? ⟨b, j, none⟩ := fun b j h => hg.cell (a := ⟨b, j, none⟩) h
    refine ⟨hg, ?_⟩
    rw [k bo _ (by simp at hbo; omega), k bn _ (by simp at hbn; omega), k _ _ (by omega), k _ _ (by omega), k _ _ (by omega), k _ _ (by omega), k _ _ (by omega), k _ _ (by omega), k _ _ (by omega), k _ _ (by omega)]
    subst hW0
    refine ⟨(World.cell?_alloc_lt _ _ _ (by simp at hbo ⊢; omega)).trans ((World.cell?_alloc_lt _ _ _ (by simp at hbo ⊢; omega)).trans ho), (World.cell?_alloc_lt _ _ _ (by simp at hbn ⊢; omega)).trans ((World.cell?_alloc_lt _ _ _ (by simp at hbn ⊢; omega)).trans hn), ?_⟩
    simp
  have S0 : GrS W0 W0 := GrS.refl _
  have KB : ∀ w', (GrS W0 w' ∧ w'.cell? ⟨bo, 0, none⟩ = some (.func (.func 40) #[] #[]) ∧ w'.cell? ⟨bn, 0, none⟩ = some (.func (.func 61) #[] #[]) ∧ w'.cell? ⟨w.heap.size, 0, none⟩ = some (.int .i64 x.job) ∧ w'.cell? ⟨w.heap.size, 1, none⟩ = some (.int .i64 x.mac) ∧ w'.cell? ⟨w.heap.size, 2, none⟩ = some (.int .i64 x.fr) ∧ w'.cell? ⟨w.heap.size, 3, none⟩ = some (.int .i64 x.up) ∧ w'.cell? ⟨w.heap.size + 1, 0, none⟩ = some (.int .i64 y.job) ∧ w'.cell? ⟨w.heap.size + 1, 1, none⟩ = some (.int .i64 y.mac) ∧ w'.cell? ⟨w.heap.size + 1, 2, none⟩ = some (.int .i64 y.fr) ∧ w'.cell? ⟨w.heap.size + 1, 3, none⟩ = some (.int .i64 y.up)) → GrS W0 w' := fun _ h => h.1
  have EC : keyM x y = or2 (kMac x y) (kFr x y) := rfl
  rw [EC]
  clear EC
  go_enter Try.func70, Try.ntmps70
  go_wp2_with fail
  rw [← hW0]
  clear hW0 ho hn
  have K0 := HKK.out _ S0
  go_region_held3 (fun w' => GrS W0 w' ∧ w'.cell? ⟨bo, 0, none⟩ = some (.func (.func 40) #[] #[]) ∧ w'.cell? ⟨bn, 0, none⟩ = some (.func (.func 61) #[] #[]) ∧ w'.cell? ⟨w.heap.size, 0, none⟩ = some (.int .i64 x.job) ∧ w'.cell? ⟨w.heap.size, 1, none⟩ = some (.int .i64 x.mac) ∧ w'.cell? ⟨w.heap.size, 2, none⟩ = some (.int .i64 x.fr) ∧ w'.cell? ⟨w.heap.size, 3, none⟩ = some (.int .i64 x.up) ∧ w'.cell? ⟨w.heap.size + 1, 0, none⟩ = some (.int .i64 y.job) ∧ w'.cell? ⟨w.heap.size + 1, 1, none⟩ = some (.int .i64 y.mac) ∧ w'.cell? ⟨w.heap.size + 1, 2, none⟩ = some (.int .i64 y.fr) ∧ w'.cell? ⟨w.heap.size + 1, 3, none⟩ = some (.int .i64 y.up)) ((refine HKK.out _ ?_; first | with_reducible exact SB | with_reducible exact SB.drew | with_reducible exact S0.drew | with_reducible exact S0 | with_reducible exact SB.alloc _ | exact (KB _ (by assumption)).alloc _)) (first
    | (go_at_call 40; refine (byPieceMachine_any _ _ _).mono ?_; rintro e w1 ⟨rfl, hg1⟩; have SB : GrS W0 w1 := (KB _ (by assumption)).trans hg1)
    | (go_at_call 61; refine (byPieceFrom_any _ _ _).mono ?_; rintro e w2 ⟨rfl, hg2⟩; have SB : GrS W0 w2 := (KB _ (by assumption)).trans hg2)
    | (go_at_call 71; refine (or2_any _ (kMac x y) (kFr x y) _ (new2_0 _ _ _ _) (new2_1 _ _ _ _)).mono ?_; rintro e w3 ⟨rfl, hq3⟩; have SB : GrS W0 w3 := (by rw [hq3]; exact KB _ (by assumption)); clear hq3))
  all_goals
    go_wp2
    go_ret
    exact ⟨rfl, HG.out.trans (by first | exact SB | exact SB.drew)⟩

theorem thenA_byPieceMachine (x y : Pc) (bo bn : Nat) (w : World) (ho : w.cell? ⟨bo, 0, none⟩ = some (.func (.func 40) #[] #[])) (hn : w.cell? ⟨bn, 0, none⟩ = some (.func (.func 61) #[] #[])) :
    Calls Try.prog 70 (#[.agg (pcl x).toArray, .agg (pcl y).toArray] ++ #[.pointer (some ⟨bo, 0, none⟩), .pointer (some ⟨bn, 0, none⟩)]) w fun e w' => e = .returned (.int .i64 (keyM x y)) ∧ GrS w w' := by
  have e : (#[.agg (pcl x).toArray, .agg (pcl y).toArray] ++ #[.pointer (some ⟨bo, 0, none⟩), .pointer (some ⟨bn, 0, none⟩)] : Array Value) = #[.agg #[.int .i64 x.job, .int .i64 x.mac, .int .i64 x.fr, .int .i64 x.up], .agg #[.int .i64 y.job, .int .i64 y.mac, .int .i64 y.fr, .int .i64 y.up], .pointer (some ⟨bo, 0, none⟩), .pointer (some ⟨bn, 0, none⟩)] := rfl
  rw [e]
  exact then_byPieceMachine x y bo bn w ho hn

set_option maxRecDepth 8000 in
set_option maxHeartbeats 4000000 in
theorem then_byPieceJob (x y : Pc) (bo bn : Nat) (w : World) (ho : w.cell? ⟨bo, 0, none⟩ = some (.func (.func 41) #[] #[])) (hn : w.cell? ⟨bn, 0, none⟩ = some (.func (.func 61) #[] #[])) :
    Calls Try.prog 70 #[.agg #[.int .i64 x.job, .int .i64 x.mac, .int .i64 x.fr, .int .i64 x.up], .agg #[.int .i64 y.job, .int .i64 y.mac, .int .i64 y.fr, .int .i64 y.up], .pointer (some ⟨bo, 0, none⟩), .pointer (some ⟨bn, 0, none⟩)] w fun e w' => e = .returned (.int .i64 (keyJ x y)) ∧ GrS w w' := by
  have hbo := World.block_lt_of_cell? w _ ho
  have hbn := World.block_lt_of_cell? w _ hn
  obtain ⟨W0, hW0⟩ : ∃ W0, W0 = (w.alloc (.cells #[.int .i64 x.job, .int .i64 x.mac, .int .i64 x.fr, .int .i64 x.up] 56)).alloc (.cells #[.int .i64 y.job, .int .i64 y.mac, .int .i64 y.fr, .int .i64 y.up] 56) := ⟨_, rfl⟩
  have HG : Hid (GrS w W0) := by rw [hW0]; exact ((GrS.refl w).alloc _).alloc _
  have HKK : Hid (∀ w', GrS W0 w' → GrS W0 w' ∧ w'.cell? ⟨bo, 0, none⟩ = some (.func (.func 41) #[] #[]) ∧ w'.cell? ⟨bn, 0, none⟩ = some (.func (.func 61) #[] #[]) ∧ w'.cell? ⟨w.heap.size, 0, none⟩ = some (.int .i64 x.job) ∧ w'.cell? ⟨w.heap.size, 1, none⟩ = some (.int .i64 x.mac) ∧ w'.cell? ⟨w.heap.size, 2, none⟩ = some (.int .i64 x.fr) ∧ w'.cell? ⟨w.heap.size, 3, none⟩ = some (.int .i64 x.up) ∧ w'.cell? ⟨w.heap.size + 1, 0, none⟩ = some (.int .i64 y.job) ∧ w'.cell? ⟨w.heap.size + 1, 1, none⟩ = some (.int .i64 y.mac) ∧ w'.cell? ⟨w.heap.size + 1, 2, none⟩ = some (.int .i64 y.fr) ∧ w'.cell? ⟨w.heap.size + 1, 3, none⟩ = some (.int .i64 y.up)) := by
    intro w' hg
    have z : W0.heap.size = w.heap.size + 2 := by rw [hW0]; simp
    have k : ∀ b j, b < W0.heap.size → w'.cell? ⟨b, j, none⟩ = W0.cell? ⟨b, j, none⟩ := fun b j h => hg.cell (a := ⟨b, j, none⟩) h
    refine ⟨hg, ?_⟩
    rw [k bo _ (by simp at hbo; omega), k bn _ (by simp at hbn; omega), k _ _ (by omega), k _ _ (by omega), k _ _ (by omega), k _ _ (by omega), k _ _ (by omega), k _ _ (by omega), k _ _ (by omega), k _ _ (by omega)]
    subst hW0
    refine ⟨(World.cell?_alloc_lt _ _ _ (by simp at hbo ⊢; omega)).trans ((World.cell?_alloc_lt _ _ _ (by simp at hbo ⊢; omega)).trans ho), (World.cell?_alloc_lt _ _ _ (by simp at hbn ⊢; omega)).trans ((World.cell?_alloc_lt _ _ _ (by simp at hbn ⊢; omega)).trans hn), ?_⟩
    simp
  have S0 : GrS W0 W0 := GrS.refl _
  have KB : ∀ w', (GrS W0 w' ∧ w'.cell? ⟨bo, 0, none⟩ = some (.func (.func 41) #[] #[]) ∧ w'.cell? ⟨bn, 0, none⟩ = some (.func (.func 61) #[] #[]) ∧ w'.cell? ⟨w.heap.size, 0, none⟩ = some (.int .i64 x.job) ∧ w'.cell? ⟨w.heap.size, 1, none⟩ = some (.int .i64 x.mac) ∧ w'.cell? ⟨w.heap.size, 2, none⟩ = some (.int .i64 x.fr) ∧ w'.cell? ⟨w.heap.size, 3, none⟩ = some (.int .i64 x.up) ∧ w'.cell? ⟨w.heap.size + 1, 0, none⟩ = some (.int .i64 y.job) ∧ w'.cell? ⟨w.heap.size + 1, 1, none⟩ = some (.int .i64 y.mac) ∧ w'.cell? ⟨w.heap.size + 1, 2, none⟩ = some (.int .i64 y.fr) ∧ w'.cell? ⟨w.heap.size + 1, 3, none⟩ = some (.int .i64 y.up)) → GrS W0 w' := fun _ h => h.1
  have EC : keyJ x y = or2 (kJob x y) (kFr x y) := rfl
  rw [EC]
  clear EC
  go_enter Try.func70, Try.ntmps70
  go_wp2_with fail
  rw [← hW0]
  clear hW0 ho hn
  have K0 := HKK.out _ S0
  go_region_held3 (fun w' => GrS W0 w' ∧ w'.cell? ⟨bo, 0, none⟩ = some (.func (.func 41) #[] #[]) ∧ w'.cell? ⟨bn, 0, none⟩ = some (.func (.func 61) #[] #[]) ∧ w'.cell? ⟨w.heap.size, 0, none⟩ = some (.int .i64 x.job) ∧ w'.cell? ⟨w.heap.size, 1, none⟩ = some (.int .i64 x.mac) ∧ w'.cell? ⟨w.heap.size, 2, none⟩ = some (.int .i64 x.fr) ∧ w'.cell? ⟨w.heap.size, 3, none⟩ = some (.int .i64 x.up) ∧ w'.cell? ⟨w.heap.size + 1, 0, none⟩ = some (.int .i64 y.job) ∧ w'.cell? ⟨w.heap.size + 1, 1, none⟩ = some (.int .i64 y.mac) ∧ w'.cell? ⟨w.heap.size + 1, 2, none⟩ = some (.int .i64 y.fr) ∧ w'.cell? ⟨w.heap.size + 1, 3, none⟩ = some (.int .i64 y.up)) ((refine HKK.out _ ?_; first | with_reducible exact SB | with_reducible exact SB.drew | with_reducible exact S0.drew | with_reducible exact S0 | with_reducible exact SB.alloc _ | exact (KB _ (by assumption)).alloc _)) (first
    | (go_at_call 41; refine (byPieceJob_any _ _ _).mono ?_; rintro e w1 ⟨rfl, hg1⟩; have SB : GrS W0 w1 := (KB _ (by assumption)).trans hg1)
    | (go_at_call 61; refine (byPieceFrom_any _ _ _).mono ?_; rintro e w2 ⟨rfl, hg2⟩; have SB : GrS W0 w2 := (KB _ (by assumption)).trans hg2)
    | (go_at_call 71; refine (or2_any _ (kJob x y) (kFr x y) _ (new2_0 _ _ _ _) (new2_1 _ _ _ _)).mono ?_; rintro e w3 ⟨rfl, hq3⟩; have SB : GrS W0 w3 := (by rw [hq3]; exact KB _ (by assumption)); clear hq3))
  all_goals
    go_wp2
    go_ret
    exact ⟨rfl, HG.out.trans (by first | exact SB | exact SB.drew)⟩

theorem thenA_byPieceJob (x y : Pc) (bo bn : Nat) (w : World) (ho : w.cell? ⟨bo, 0, none⟩ = some (.func (.func 41) #[] #[])) (hn : w.cell? ⟨bn, 0, none⟩ = some (.func (.func 61) #[] #[])) :
    Calls Try.prog 70 (#[.agg (pcl x).toArray, .agg (pcl y).toArray] ++ #[.pointer (some ⟨bo, 0, none⟩), .pointer (some ⟨bn, 0, none⟩)]) w fun e w' => e = .returned (.int .i64 (keyJ x y)) ∧ GrS w w' := by
  have e : (#[.agg (pcl x).toArray, .agg (pcl y).toArray] ++ #[.pointer (some ⟨bo, 0, none⟩), .pointer (some ⟨bn, 0, none⟩)] : Array Value) = #[.agg #[.int .i64 x.job, .int .i64 x.mac, .int .i64 x.fr, .int .i64 x.up], .agg #[.int .i64 y.job, .int .i64 y.mac, .int .i64 y.fr, .int .i64 y.up], .pointer (some ⟨bo, 0, none⟩), .pointer (some ⟨bn, 0, none⟩)] := rfl
  rw [e]
  exact then_byPieceJob x y bo bn w ho hn

/-- the order 'by .., then by From', made at w1, sorts -/
theorem sortedByM (w1 w2 : World) (hw2 : w2 = (w1.alloc (.cells #[.func (.func 40) #[] #[]] 86)).alloc (.cells #[.func (.func 61) #[] #[]] 86)) (a : Option Addr) (n cap : Nat) (ls : List Pc) (h : PieceS w1 a n cap ls) (hn : n ≤ 1048576) :
    Calls Try.prog 62 #[.func (.func 70) #[] #[.pointer (some ⟨w1.heap.size, 0, none⟩), .pointer (some ⟨w1.heap.size + 1, 0, none⟩)], .slice a n cap] w2 fun e w' =>
      ∃ B ls', e = .returned (.slice (some ⟨B, 0, none⟩) n n) ∧ w1.heap.size + 1 < B ∧ ls'.Perm ls ∧ ls'.length = n ∧ ls'.Pairwise (fun x y => decide (keyM y x < 0) = false) ∧ PieceB w' B n n ls' ∧ Below w1.heap.size w1 w' := by
  have hb2 : Below w1.heap.size w1 w2 := by rw [hw2]; exact ((Below.refl _ _).alloc (Nat.le_refl _) _).alloc (by simp) _
  have c0 : w2.cell? ⟨w1.heap.size, 0, none⟩ = some (.func (.func 40) #[] #[]) := by rw [hw2]; simp
  have c1 : w2.cell? ⟨w1.heap.size + 1, 0, none⟩ = some (.func (.func 61) #[] #[]) := by rw [hw2]; simp
  have z2 : w2.heap.size = w1.heap.size + 2 := by rw [hw2]; simp
  clear hw2
  have l0 := World.block_lt_of_cell? w2 _ c0
  have l1 := World.block_lt_of_cell? w2 _ c1
  refine (sortedPiece_any keyM swo_keyM 70 #[.pointer (some ⟨w1.heap.size, 0, none⟩), .pointer (some ⟨w1.heap.size + 1, 0, none⟩)] (enters_of Try.func70 (by kernel_rfl) rfl) a n cap ls _ (h.below hb2) hn (fun W hk x y => thenA_byPieceMachine x y w1.heap.size (w1.heap.size + 1) W ((World.cell?_of_block (a := ⟨w1.heap.size, 0, none⟩) (hk _ l0)).trans c0) ((World.cell?_of_block (a := ⟨w1.heap.size + 1, 0, none⟩) (hk _ l1)).trans c1))).mono ?_
  rintro e w3 ⟨B, ys, rfl, hB, hp, hl, hs, hJ, hb3⟩
  exact ⟨B, ys, rfl, by omega, hp, hl, hs, hJ, hb2.then hb3 hb2.size⟩

/-- the order 'by .., then by From', made at w1, sorts -/
theorem sortedByJ (w1 w2 : World) (hw2 : w2 = (w1.alloc (.cells #[.func (.func 41) #[] #[]] 86)).alloc (.cells #[.func (.func 61) #[] #[]] 86)) (a : Option Addr) (n cap : Nat) (ls : List Pc) (h : PieceS w1 a n cap ls) (hn : n ≤ 1048576) :
    Calls Try.prog 62 #[.func (.func 70) #[] #[.pointer (some ⟨w1.heap.size, 0, none⟩), .pointer (some ⟨w1.heap.size + 1, 0, none⟩)], .slice a n cap] w2 fun e w' =>
      ∃ B ls', e = .returned (.slice (some ⟨B, 0, none⟩) n n) ∧ w1.heap.size + 1 < B ∧ ls'.Perm ls ∧ ls'.length = n ∧ ls'.Pairwise (fun x y => decide (keyJ y x < 0) = false) ∧ PieceB w' B n n ls' ∧ Below w1.heap.size w1 w' := by
  have hb2 : Below w1.heap.size w1 w2 := by rw [hw2]; exact ((Below.refl _ _).alloc (Nat.le_refl _) _).alloc (by simp) _
  have c0 : w2.cell? ⟨w1.heap.size, 0, none⟩ = some (.func (.func 41) #[] #[]) := by rw [hw2]; simp
  have c1 : w2.cell? ⟨w1.heap.size + 1, 0, none⟩ = some (.func (.func 61) #[] #[]) := by rw [hw2]; simp
  have z2 : w2.heap.size = w1.heap.size + 2 := by rw [hw2]; simp
  clear hw2
  have l0 := World.block_lt_of_cell? w2 _ c0
  have l1 := World.block_lt_of_cell? w2 _ c1
  refine (sortedPiece_any keyJ swo_keyJ 70 #[.pointer (some ⟨w1.heap.size, 0, none⟩), .pointer (some ⟨w1.heap.size + 1, 0, none⟩)] (enters_of Try.func70 (by kernel_rfl) rfl) a n cap ls _ (h.below hb2) hn (fun W hk x y => thenA_byPieceJob x y w1.heap.size (w1.heap.size + 1) W ((World.cell?_of_block (a := ⟨w1.heap.size, 0, none⟩) (hk _ l0)).trans c0) ((World.cell?_of_block (a := ⟨w1.heap.size + 1, 0, none⟩) (hk _ l1)).trans c1))).mono ?_
  rintro e w3 ⟨B, ys, rfl, hB, hp, hl, hs, hJ, hb3⟩
  exact ⟨B, ys, rfl, by omega, hp, hl, hs, hJ, hb2.then hb3 hb2.size⟩

end Go.Proofs.Ytnndkdonbjeejaa

/- apart of the program: no neighbours of a sorted row clash. -/
namespace Go.Proofs.Ytnndkdonbjeejaa
open Go.RowKit Go.Sort

theorem wf_perm {ps ys : List Pc} {n : Nat} (hp : ys.Perm ps) (hl : ps.length = n) (wf : ∀ i, i < n → pcwf (pcg ps i)) : ∀ i, i < n → pcwf (pcg ys i) := fun i hi => by
  have e := hp.length_eq
  have hm : pcg ys i ∈ ps := hp.mem_iff.1 (by rw [pcg_get (by omega)]; exact List.getElem_mem _)
  obtain ⟨j, hj, h⟩ := List.getElem_of_mem hm
  rw [← h, ← pcg_get hj]; exact wf j (by omega)

set_option maxRecDepth 8000 in
set_option maxHeartbeats 8000000 in
theorem apartM_any (a : Option Addr) (n cap : Nat) (ps : List Pc) (w : World) (h : PieceS w a n cap ps) (hn : n ≤ 1048576) :
    Calls Try.prog 39 #[.slice a n cap, .func (.func 40) #[] #[]] w fun e w' => ∃ ys, ys.Perm ps ∧ Srt (·.mac) ys ∧ e = .returned (.bool (nbB (·.mac) ys (ys.length - 1))) ∧ Below w.heap.size w w' := by
  have hlen := h.len
  go_enter Try.func39, Try.ntmps39
  go_wp2_with fail
  refine (then_makeC 40 61 _).mono ?_
  rintro e w2 ⟨rfl, rfl⟩
  go_wp2_with fail
  refine (sortedByM w _ rfl a n cap ps h hn).mono ?_
  rintro e w3 ⟨B, ys, rfl, hB, hp, hl, hs, hJ, hb3⟩
  have PS := hJ.toS hl hn (wf_perm hp hlen h.wf)
  have HP : Hid (ys.Perm ps) := hp
  have HS : Hid (Srt (·.mac) ys) := hs
  have HL : Hid (ys.length = n) := hl
  clear hp hs hJ hlen hl
  go_wp2
  go_loopw [6, 7, 8] (fun i _ _ wr => ∃ p : Nat, (p < n ∨ p = 0) ∧ i = .int .i64 ((p : Int) + 1) ∧ (∀ i, i < p → clash (·.mac) ys i = false) ∧ Below w3.heap.size w3 wr) (fun i _ _ _ => n - (intOf i).toNat)
  case atStart => exact ⟨0, Or.inr rfl, rfl, fun i hi => by omega, Below.refl _ _⟩
  case round =>
    obtain ⟨p, kn, rfl, hno, hw⟩ := hrel
    rename World => wr
    have hwz := hw.size
    by_cases hlt : p + 1 < n
    · obtain ⟨b, off, e, hbw, hat⟩ := (PS.below hw).at_ (by omega)
      obtain ⟨rfl, rfl⟩ : B = b ∧ 0 = off := by simpa using e
      obtain ⟨c0, c1, c2, c3⟩ := hat.row (i := p) (by have := HL.out; omega)
      obtain ⟨d0, d1, d2, d3⟩ := hat.row (i := p + 1) (by have := HL.out; omega)
      simp only [Nat.zero_add] at c0 c1 c2 c3 d0 d1 d2 d3
      have hlt' : (p : Int) + 1 < (n : Int) := by omega
      clear hat e
      have HNo : Hid (clash (·.mac) ys p = false → ∀ i, i < p + 1 → clash (·.mac) ys i = false) := fun h i hi => by
        by_cases e : i = p
        · subst e; exact h
        · exact hno i (by omega)
      have CA : ∀ W, Calls Try.prog 40 #[.agg #[.int .i64 (pcg ys p).job, .int .i64 (pcg ys p).mac, .int .i64 (pcg ys p).fr, .int .i64 (pcg ys p).up], .agg #[.int .i64 (pcg ys (p + 1)).job, .int .i64 (pcg ys (p + 1)).mac, .int .i64 (pcg ys (p + 1)).fr, .int .i64 (pcg ys (p + 1)).up]] W fun e w' => e = .returned (.int .i64 (kMac (pcg ys p) (pcg ys (p + 1)))) ∧ GrS W w' := fun W => byPieceMachine_any _ _ W
      have EC : Hid (clash (·.mac) ys p = ((kMac (pcg ys p) (pcg ys (p + 1)) == 0) && decide ((pcg ys (p + 1)).fr < (pcg ys p).up))) := rfl
      obtain ⟨cv, hcv⟩ : ∃ cv, cv = kMac (pcg ys p) (pcg ys (p + 1)) := ⟨_, rfl⟩
      rw [← hcv] at CA EC
      clear hcv hno
      go_wp2
      go_region
      · obtain ⟨W5, hW5⟩ : ∃ W5, W5 = ((wr.alloc (.cells #[.int .i64 (pcg ys p).job, .int .i64 (pcg ys p).mac, .int .i64 (pcg ys p).fr, .int .i64 (pcg ys p).up] 56)).alloc (.cells #[.int .i64 (pcg ys (p + 1)).job, .int .i64 (pcg ys (p + 1)).mac, .int .i64 (pcg ys (p + 1)).fr, .int .i64 (pcg ys (p + 1)).up] 56)).drew := ⟨_, rfl⟩
        have B5 : Below w3.heap.size w3 W5 := by rw [hW5]; exact ((hw.alloc hwz _).alloc (by simp; omega) _).drew
        have z5 : W5.heap.size = wr.heap.size + 2 := by rw [hW5]; simp
        have x0 : W5.cell? ⟨wr.heap.size, 0, none⟩ = some (.int .i64 (pcg ys p).job) := by rw [hW5]; simp
        have x1 : W5.cell? ⟨wr.heap.size, 1, none⟩ = some (.int .i64 (pcg ys p).mac) := by rw [hW5]; simp
        have x2 : W5.cell? ⟨wr.heap.size, 2, none⟩ = some (.int .i64 (pcg ys p).fr) := by rw [hW5]; simp
        have x3 : W5.cell? ⟨wr.heap.size, 3, none⟩ = some (.int .i64 (pcg ys p).up) := by rw [hW5]; simp
        have y0 : W5.cell? ⟨wr.heap.size + 1, 0, none⟩ = some (.int .i64 (pcg ys (p + 1)).job) := by rw [hW5]; simp
        have y1 : W5.cell? ⟨wr.heap.size + 1, 1, none⟩ = some (.int .i64 (pcg ys (p + 1)).mac) := by rw [hW5]; simp
        have y2 : W5.cell? ⟨wr.heap.size + 1, 2, none⟩ = some (.int .i64 (pcg ys (p + 1)).fr) := by rw [hW5]; simp
        have y3 : W5.cell? ⟨wr.heap.size + 1, 3, none⟩ = some (.int .i64 (pcg ys (p + 1)).up) := by rw [hW5]; simp
        rw [← hW5]
        clear hW5
        have K5 : ∀ W, GrS W5 W → Below w3.heap.size w3 W ∧ W.cell? ⟨wr.heap.size, 3, none⟩ = some (.int .i64 (pcg ys p).up) ∧ W.cell? ⟨wr.heap.size + 1, 2, none⟩ = some (.int .i64 (pcg ys (p + 1)).fr) := fun W hg =>
          ⟨B5.then hg.below (by omega), (hg.cell (a := ⟨wr.heap.size, 3, none⟩) (by show wr.heap.size < _; omega)).trans x3, (hg.cell (a := ⟨wr.heap.size + 1, 2, none⟩) (by show (wr.heap.size + 1) < _; omega)).trans y2⟩
        rcases g : (cv == 0) with _ | _
        · have HC : Hid (∀ i, i < p + 1 → clash (·.mac) ys i = false) := HNo.out (by rw [EC.out, g, Bool.false_and])
          go_wp2_with (go_at_call 40; refine (CA _).mono ?_; rintro e w6 ⟨rfl, hg6⟩; have S6 := K5 _ hg6)
          go_roundw
          case rel => exact ⟨p + 1, by omega, by go_num, HC.out, S6.1⟩
          case measure => simp [intOf]; omega
        · by_cases gl : (pcg ys (p + 1)).fr < (pcg ys p).up
          · have HC : Hid (nbB (·.mac) ys (ys.length - 1) = false) := nbB_no (i := p) (by have := HL.out; omega) (by rw [EC.out, g, Bool.true_and]; exact decide_eq_true gl)
            go_wp2_with (go_at_call 40; refine (CA _).mono ?_; rintro e w6 ⟨rfl, hg6⟩; obtain ⟨S6, S7, S8⟩ := K5 _ hg6)
            go_ret
            exact ⟨ys, HP.out, HS.out, by rw [HC.out]; rfl, hb3.then S6 hb3.size⟩
          · have HC : Hid (∀ i, i < p + 1 → clash (·.mac) ys i = false) := HNo.out (by rw [EC.out, g, Bool.true_and]; exact decide_eq_false gl)
            go_wp2_with (go_at_call 40; refine (CA _).mono ?_; rintro e w6 ⟨rfl, hg6⟩; obtain ⟨S6, S7, S8⟩ := K5 _ hg6)
            go_roundw
            case rel => exact ⟨p + 1, by omega, by go_num, HC.out, S6⟩
            case measure => simp [intOf]; omega
      · obtain ⟨W5, hW5⟩ : ∃ W5, W5 = ((wr.alloc (.cells #[.int .i64 (pcg ys (p + 1)).job, .int .i64 (pcg ys (p + 1)).mac, .int .i64 (pcg ys (p + 1)).fr, .int .i64 (pcg ys (p + 1)).up] 56)).alloc (.cells #[.int .i64 (pcg ys p).job, .int .i64 (pcg ys p).mac, .int .i64 (pcg ys p).fr, .int .i64 (pcg ys p).up] 56)).drew := ⟨_, rfl⟩
        have B5 : Below w3.heap.size w3 W5 := by rw [hW5]; exact ((hw.alloc hwz _).alloc (by simp; omega) _).drew
        have z5 : W5.heap.size = wr.heap.size + 2 := by rw [hW5]; simp
        have x0 : W5.cell? ⟨wr.heap.size + 1, 0, none⟩ = some (.int .i64 (pcg ys p).job) := by rw [hW5]; simp
        have x1 : W5.cell? ⟨wr.heap.size + 1, 1, none⟩ = some (.int .i64 (pcg ys p).mac) := by rw [hW5]; simp
        have x2 : W5.cell? ⟨wr.heap.size + 1, 2, none⟩ = some (.int .i64 (pcg ys p).fr) := by rw [hW5]; simp
        have x3 : W5.cell? ⟨wr.heap.size + 1, 3, none⟩ = some (.int .i64 (pcg ys p).up) := by rw [hW5]; simp
        have y0 : W5.cell? ⟨wr.heap.size, 0, none⟩ = some (.int .i64 (pcg ys (p + 1)).job) := by rw [hW5]; simp
        have y1 : W5.cell? ⟨wr.heap.size, 1, none⟩ = some (.int .i64 (pcg ys (p + 1)).mac) := by rw [hW5]; simp
        have y2 : W5.cell? ⟨wr.heap.size, 2, none⟩ = some (.int .i64 (pcg ys (p + 1)).fr) := by rw [hW5]; simp
        have y3 : W5.cell? ⟨wr.heap.size, 3, none⟩ = some (.int .i64 (pcg ys (p + 1)).up) := by rw [hW5]; simp
        rw [← hW5]
        clear hW5
        have K5 : ∀ W, GrS W5 W → Below w3.heap.size w3 W ∧ W.cell? ⟨wr.heap.size + 1, 3, none⟩ = some (.int .i64 (pcg ys p).up) ∧ W.cell? ⟨wr.heap.size, 2, none⟩ = some (.int .i64 (pcg ys (p + 1)).fr) := fun W hg =>
          ⟨B5.then hg.below (by omega), (hg.cell (a := ⟨wr.heap.size + 1, 3, none⟩) (by show (wr.heap.size + 1) < _; omega)).trans x3, (hg.cell (a := ⟨wr.heap.size, 2, none⟩) (by show wr.heap.size < _; omega)).trans y2⟩
        rcases g : (cv == 0) with _ | _
        · have HC : Hid (∀ i, i < p + 1 → clash (·.mac) ys i = false) := HNo.out (by rw [EC.out, g, Bool.false_and])
          go_wp2_with (go_at_call 40; refine (CA _).mono ?_; rintro e w6 ⟨rfl, hg6⟩; have S6 := K5 _ hg6)
          go_roundw
          case rel => exact ⟨p + 1, by omega, by go_num, HC.out, S6.1⟩
          case measure => simp [intOf]; omega
        · by_cases gl : (pcg ys (p + 1)).fr < (pcg ys p).up
          · have HC : Hid (nbB (·.mac) ys (ys.length - 1) = false) := nbB_no (i := p) (by have := HL.out; omega) (by rw [EC.out, g, Bool.true_and]; exact decide_eq_true gl)
            go_wp2_with (go_at_call 40; refine (CA _).mono ?_; rintro e w6 ⟨rfl, hg6⟩; obtain ⟨S6, S7, S8⟩ := K5 _ hg6)
            go_ret
            exact ⟨ys, HP.out, HS.out, by rw [HC.out]; rfl, hb3.then S6 hb3.size⟩
          · have HC : Hid (∀ i, i < p + 1 → clash (·.mac) ys i = false) := HNo.out (by rw [EC.out, g, Bool.true_and]; exact decide_eq_false gl)
            go_wp2_with (go_at_call 40; refine (CA _).mono ?_; rintro e w6 ⟨rfl, hg6⟩; obtain ⟨S6, S7, S8⟩ := K5 _ hg6)
            go_roundw
            case rel => exact ⟨p + 1, by omega, by go_num, HC.out, S6⟩
            case measure => simp [intOf]; omega
    · have HC : Hid (nbB (·.mac) ys (ys.length - 1) = true) := nbB_all.2 fun i hi => hno i (by have := HL.out; omega)
      clear hno
      go_wp2
      go_ret
      exact ⟨ys, HP.out, HS.out, by rw [HC.out]; rfl, hb3.then hw hb3.size⟩

set_option maxRecDepth 8000 in
set_option maxHeartbeats 8000000 in
theorem apartJ_any (a : Option Addr) (n cap : Nat) (ps : List Pc) (w : World) (h : PieceS w a n cap ps) (hn : n ≤ 1048576) :
    Calls Try.prog 39 #[.slice a n cap, .func (.func 41) #[] #[]] w fun e w' => ∃ ys, ys.Perm ps ∧ Srt (·.job) ys ∧ e = .returned (.bool (nbB (·.job) ys (ys.length - 1))) ∧ Below w.heap.size w w' := by
  have hlen := h.len
  go_enter Try.func39, Try.ntmps39
  go_wp2_with fail
  refine (then_makeC 41 61 _).mono ?_
  rintro e w2 ⟨rfl, rfl⟩
  go_wp2_with fail
  refine (sortedByJ w _ rfl a n cap ps h hn).mono ?_
  rintro e w3 ⟨B, ys, rfl, hB, hp, hl, hs, hJ, hb3⟩
  have PS := hJ.toS hl hn (wf_perm hp hlen h.wf)
  have HP : Hid (ys.Perm ps) := hp
  have HS : Hid (Srt (·.job) ys) := hs
  have HL : Hid (ys.length = n) := hl
  clear hp hs hJ hlen hl
  go_wp2
  go_loopw [6, 7, 8] (fun i _ _ wr => ∃ p : Nat, (p < n ∨ p = 0) ∧ i = .int .i64 ((p : Int) + 1) ∧ (∀ i, i < p → clash (·.job) ys i = false) ∧ Below w3.heap.size w3 wr) (fun i _ _ _ => n - (intOf i).toNat)
  case atStart => exact ⟨0, Or.inr rfl, rfl, fun i hi => by omega, Below.refl _ _⟩
  case round =>
    obtain ⟨p, kn, rfl, hno, hw⟩ := hrel
    rename World => wr
    have hwz := hw.size
    by_cases hlt : p + 1 < n
    · obtain ⟨b, off, e, hbw, hat⟩ := (PS.below hw).at_ (by omega)
      obtain ⟨rfl, rfl⟩ : B = b ∧ 0 = off := by simpa using e
      obtain ⟨c0, c1, c2, c3⟩ := hat.row (i := p) (by have := HL.out; omega)
      obtain ⟨d0, d1, d2, d3⟩ := hat.row (i := p + 1) (by have := HL.out; omega)
      simp only [Nat.zero_add] at c0 c1 c2 c3 d0 d1 d2 d3
      have hlt' : (p : Int) + 1 < (n : Int) := by omega
      clear hat e
      have HNo : Hid (clash (·.job) ys p = false → ∀ i, i < p + 1 → clash (·.job) ys i = false) := fun h i hi => by
        by_cases e : i = p
        · subst e; exact h
        · exact hno i (by omega)
      have CA : ∀ W, Calls Try.prog 41 #[.agg #[.int .i64 (pcg ys p).job, .int .i64 (pcg ys p).mac, .int .i64 (pcg ys p).fr, .int .i64 (pcg ys p).up], .agg #[.int .i64 (pcg ys (p + 1)).job, .int .i64 (pcg ys (p + 1)).mac, .int .i64 (pcg ys (p + 1)).fr, .int .i64 (pcg ys (p + 1)).up]] W fun e w' => e = .returned (.int .i64 (kJob (pcg ys p) (pcg ys (p + 1)))) ∧ GrS W w' := fun W => byPieceJob_any _ _ W
      have EC : Hid (clash (·.job) ys p = ((kJob (pcg ys p) (pcg ys (p + 1)) == 0) && decide ((pcg ys (p + 1)).fr < (pcg ys p).up))) := rfl
      obtain ⟨cv, hcv⟩ : ∃ cv, cv = kJob (pcg ys p) (pcg ys (p + 1)) := ⟨_, rfl⟩
      rw [← hcv] at CA EC
      clear hcv hno
      go_wp2
      go_region
      · obtain ⟨W5, hW5⟩ : ∃ W5, W5 = ((wr.alloc (.cells #[.int .i64 (pcg ys p).job, .int .i64 (pcg ys p).mac, .int .i64 (pcg ys p).fr, .int .i64 (pcg ys p).up] 56)).alloc (.cells #[.int .i64 (pcg ys (p + 1)).job, .int .i64 (pcg ys (p + 1)).mac, .int .i64 (pcg ys (p + 1)).fr, .int .i64 (pcg ys (p + 1)).up] 56)).drew := ⟨_, rfl⟩
        have B5 : Below w3.heap.size w3 W5 := by rw [hW5]; exact ((hw.alloc hwz _).alloc (by simp; omega) _).drew
        have z5 : W5.heap.size = wr.heap.size + 2 := by rw [hW5]; simp
        have x0 : W5.cell? ⟨wr.heap.size, 0, none⟩ = some (.int .i64 (pcg ys p).job) := by rw [hW5]; simp
        have x1 : W5.cell? ⟨wr.heap.size, 1, none⟩ = some (.int .i64 (pcg ys p).mac) := by rw [hW5]; simp
        have x2 : W5.cell? ⟨wr.heap.size, 2, none⟩ = some (.int .i64 (pcg ys p).fr) := by rw [hW5]; simp
        have x3 : W5.cell? ⟨wr.heap.size, 3, none⟩ = some (.int .i64 (pcg ys p).up) := by rw [hW5]; simp
        have y0 : W5.cell? ⟨wr.heap.size + 1, 0, none⟩ = some (.int .i64 (pcg ys (p + 1)).job) := by rw [hW5]; simp
        have y1 : W5.cell? ⟨wr.heap.size + 1, 1, none⟩ = some (.int .i64 (pcg ys (p + 1)).mac) := by rw [hW5]; simp
        have y2 : W5.cell? ⟨wr.heap.size + 1, 2, none⟩ = some (.int .i64 (pcg ys (p + 1)).fr) := by rw [hW5]; simp
        have y3 : W5.cell? ⟨wr.heap.size + 1, 3, none⟩ = some (.int .i64 (pcg ys (p + 1)).up) := by rw [hW5]; simp
        rw [← hW5]
        clear hW5
        have K5 : ∀ W, GrS W5 W → Below w3.heap.size w3 W ∧ W.cell? ⟨wr.heap.size, 3, none⟩ = some (.int .i64 (pcg ys p).up) ∧ W.cell? ⟨wr.heap.size + 1, 2, none⟩ = some (.int .i64 (pcg ys (p + 1)).fr) := fun W hg =>
          ⟨B5.then hg.below (by omega), (hg.cell (a := ⟨wr.heap.size, 3, none⟩) (by show wr.heap.size < _; omega)).trans x3, (hg.cell (a := ⟨wr.heap.size + 1, 2, none⟩) (by show (wr.heap.size + 1) < _; omega)).trans y2⟩
        rcases g : (cv == 0) with _ | _
        · have HC : Hid (∀ i, i < p + 1 → clash (·.job) ys i = false) := HNo.out (by rw [EC.out, g, Bool.false_and])
          go_wp2_with (go_at_call 41; refine (CA _).mono ?_; rintro e w6 ⟨rfl, hg6⟩; have S6 := K5 _ hg6)
          go_roundw
          case rel => exact ⟨p + 1, by omega, by go_num, HC.out, S6.1⟩
          case measure => simp [intOf]; omega
        · by_cases gl : (pcg ys (p + 1)).fr < (pcg ys p).up
          · have HC : Hid (nbB (·.job) ys (ys.length - 1) = false) := nbB_no (i := p) (by have := HL.out; omega) (by rw [EC.out, g, Bool.true_and]; exact decide_eq_true gl)
            go_wp2_with (go_at_call 41; refine (CA _).mono ?_; rintro e w6 ⟨rfl, hg6⟩; obtain ⟨S6, S7, S8⟩ := K5 _ hg6)
            go_ret
            exact ⟨ys, HP.out, HS.out, by rw [HC.out]; rfl, hb3.then S6 hb3.size⟩
          · have HC : Hid (∀ i, i < p + 1 → clash (·.job) ys i = false) := HNo.out (by rw [EC.out, g, Bool.true_and]; exact decide_eq_false gl)
            go_wp2_with (go_at_call 41; refine (CA _).mono ?_; rintro e w6 ⟨rfl, hg6⟩; obtain ⟨S6, S7, S8⟩ := K5 _ hg6)
            go_roundw
            case rel => exact ⟨p + 1, by omega, by go_num, HC.out, S6⟩
            case measure => simp [intOf]; omega
      · obtain ⟨W5, hW5⟩ : ∃ W5, W5 = ((wr.alloc (.cells #[.int .i64 (pcg ys (p + 1)).job, .int .i64 (pcg ys (p + 1)).mac, .int .i64 (pcg ys (p + 1)).fr, .int .i64 (pcg ys (p + 1)).up] 56)).alloc (.cells #[.int .i64 (pcg ys p).job, .int .i64 (pcg ys p).mac, .int .i64 (pcg ys p).fr, .int .i64 (pcg ys p).up] 56)).drew := ⟨_, rfl⟩
        have B5 : Below w3.heap.size w3 W5 := by rw [hW5]; exact ((hw.alloc hwz _).alloc (by simp; omega) _).drew
        have z5 : W5.heap.size = wr.heap.size + 2 := by rw [hW5]; simp
        have x0 : W5.cell? ⟨wr.heap.size + 1, 0, none⟩ = some (.int .i64 (pcg ys p).job) := by rw [hW5]; simp
        have x1 : W5.cell? ⟨wr.heap.size + 1, 1, none⟩ = some (.int .i64 (pcg ys p).mac) := by rw [hW5]; simp
        have x2 : W5.cell? ⟨wr.heap.size + 1, 2, none⟩ = some (.int .i64 (pcg ys p).fr) := by rw [hW5]; simp
        have x3 : W5.cell? ⟨wr.heap.size + 1, 3, none⟩ = some (.int .i64 (pcg ys p).up) := by rw [hW5]; simp
        have y0 : W5.cell? ⟨wr.heap.size, 0, none⟩ = some (.int .i64 (pcg ys (p + 1)).job) := by rw [hW5]; simp
        have y1 : W5.cell? ⟨wr.heap.size, 1, none⟩ = some (.int .i64 (pcg ys (p + 1)).mac) := by rw [hW5]; simp
        have y2 : W5.cell? ⟨wr.heap.size, 2, none⟩ = some (.int .i64 (pcg ys (p + 1)).fr) := by rw [hW5]; simp
        have y3 : W5.cell? ⟨wr.heap.size, 3, none⟩ = some (.int .i64 (pcg ys (p + 1)).up) := by rw [hW5]; simp
        rw [← hW5]
        clear hW5
        have K5 : ∀ W, GrS W5 W → Below w3.heap.size w3 W ∧ W.cell? ⟨wr.heap.size + 1, 3, none⟩ = some (.int .i64 (pcg ys p).up) ∧ W.cell? ⟨wr.heap.size, 2, none⟩ = some (.int .i64 (pcg ys (p + 1)).fr) := fun W hg =>
          ⟨B5.then hg.below (by omega), (hg.cell (a := ⟨wr.heap.size + 1, 3, none⟩) (by show (wr.heap.size + 1) < _; omega)).trans x3, (hg.cell (a := ⟨wr.heap.size, 2, none⟩) (by show wr.heap.size < _; omega)).trans y2⟩
        rcases g : (cv == 0) with _ | _
        · have HC : Hid (∀ i, i < p + 1 → clash (·.job) ys i = false) := HNo.out (by rw [EC.out, g, Bool.false_and])
          go_wp2_with (go_at_call 41; refine (CA _).mono ?_; rintro e w6 ⟨rfl, hg6⟩; have S6 := K5 _ hg6)
          go_roundw
          case rel => exact ⟨p + 1, by omega, by go_num, HC.out, S6.1⟩
          case measure => simp [intOf]; omega
        · by_cases gl : (pcg ys (p + 1)).fr < (pcg ys p).up
          · have HC : Hid (nbB (·.job) ys (ys.length - 1) = false) := nbB_no (i := p) (by have := HL.out; omega) (by rw [EC.out, g, Bool.true_and]; exact decide_eq_true gl)
            go_wp2_with (go_at_call 41; refine (CA _).mono ?_; rintro e w6 ⟨rfl, hg6⟩; obtain ⟨S6, S7, S8⟩ := K5 _ hg6)
            go_ret
            exact ⟨ys, HP.out, HS.out, by rw [HC.out]; rfl, hb3.then S6 hb3.size⟩
          · have HC : Hid (∀ i, i < p + 1 → clash (·.job) ys i = false) := HNo.out (by rw [EC.out, g, Bool.true_and]; exact decide_eq_false gl)
            go_wp2_with (go_at_call 41; refine (CA _).mono ?_; rintro e w6 ⟨rfl, hg6⟩; obtain ⟨S6, S7, S8⟩ := K5 _ hg6)
            go_roundw
            case rel => exact ⟨p + 1, by omega, by go_num, HC.out, S6⟩
            case measure => simp [intOf]; omega
    · have HC : Hid (nbB (·.job) ys (ys.length - 1) = true) := nbB_all.2 fun i hi => hno i (by have := HL.out; omega)
      clear hno
      go_wp2
      go_ret
      exact ⟨ys, HP.out, HS.out, by rw [HC.out]; rfl, hb3.then hw hb3.size⟩

end Go.Proofs.Ytnndkdonbjeejaa
