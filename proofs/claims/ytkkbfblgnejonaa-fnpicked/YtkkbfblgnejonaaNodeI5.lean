/- The program's chapter 11, fifth part: usedWith. -/
import Derived.Test.YtkkbfblgnejonaaNodeI4
import Derived.Test.YtkkbfblgnejonaaNodeWu
import Derived.Test.YtkkbfblgnejonaaCopy2
import Derived.Shelf.SlSortCmp.QuietGrown
namespace Go.Proofs.Ytkkbfblgnejonaa
open Go.RowKit Go.Sort

theorem sizedInt : (Try.prog.info? 2).map (·.size) = some 1 := by kernel_rfl

/-- 'copy' of all numbers of a slice into a row of the call's own that is as long -/
theorem run_copy_ints {w : World} (ty : TypeId) (B m cap : Nat) (sp : Option Addr) (l : List Int) (hL : IntS w sp m cap l) (cur : Array Value) (hg : w.heap[B]? = some (.cells cur 2 (0, 0))) (hcs : cur.size = m) :
    ∃ w', (Builtin.copy_ #[25, 25] ty #[.slice (some ⟨B, 0, none⟩) m m, .slice sp m cap]).run Try.prog w = .ok (.int .i64 m) w' ∧ IntB w' B m l ∧ Only B w w' := by
  by_cases h0 : m = 0
  · subst h0
    have hrun := run_copy_noneK (P := Try.prog) 1 w 25 25 ty 2 (some ⟨B, 0, none⟩) sp 0 0 0 cap Try.underlying25 sizedInt rfl
    exact ⟨w, hrun, ⟨cur, hg, by omega, fun i hi => by omega⟩, Only.refl _ _⟩
  · obtain ⟨b, off, rfl, hb, hat⟩ := hL.at_ (by omega)
    have hl := hL.len
    have hrun := run_copy_rowK (P := Try.prog) 1 w 25 25 ty 2 B 0 m m ⟨b, off, none⟩ m cap m cur 2 (l.map (Value.int .i64)) Try.underlying25 sizedInt hg (by simp) (by simp; omega) (ints_at (fun i hi => hat i (by omega))) (by simp; omega) (by intro y hy; obtain ⟨z, _, rfl⟩ := List.mem_map.1 hy; rfl)
    have e : (cur.toList.take 0 ++ l.map (Value.int .i64) ++ cur.toList.drop (0 + (l.map (Value.int .i64)).length)).toArray = (l.map (Value.int .i64)).toArray := by
      rw [List.take_zero, List.nil_append, List.drop_eq_nil_of_le (by simp; omega), List.append_nil]
    rw [e] at hrun
    refine ⟨_, hrun, ⟨(l.map (Value.int .i64)).toArray, setRow_heap w B _ _ _ _ hg, by simp; omega, fun i hi => ?_⟩, ⟨rfl, rfl, rfl, by simp [World.setRow], fun k hk => setRow_other w B k _ hk⟩⟩
    simp [zg, show i < l.length by omega]

theorem run_make2M (n : Nat) (hn : n ≤ 2000000) (wx : World) : (Instr.makeSlice 25 (.int .i64 (n : Int)) (.int .i64 (n : Int))).run Try.prog wx = .ok (.slice (some ⟨wx.heap.size, 0, none⟩) n n) (wx.alloc (.cells (madeCells #[.int .i64 0] n) 2)) := by
  obtain ⟨i0, hi, hz0, hz1, hz2⟩ := info_parts infoI
  have := run_make (P := Try.prog) wx 25 2 i0 _ Try.underlying25 hi hz0 .i64 .i64 n n (by omega) (by omega) (by rw [hz2]; omega) (by omega)
  rw [hz1] at this
  simp only [Int.toNat_natCast, Nat.mul_one] at this
  exact this

/-- is it one of n nodes', with no more than can be counted? -/
def pOk1 (n : Nat) (p : Pt) : Bool := inB p.node 0 ((n : Int) - 1) && inB p.cores 0 1073741824
theorem pOk1_t {n : Nat} {p : Pt} (h : pOk1 n p = true) : (0 ≤ p.node ∧ p.node < (n : Int)) ∧ 0 ≤ p.cores ∧ p.cores ≤ 1073741824 := by
  unfold pOk1 at h
  simp only [Bool.and_eq_true] at h
  have := nin_t h.1
  exact ⟨by omega, nin_t h.2⟩
theorem pOk1_mk {n : Nat} {p : Pt} (h : (0 ≤ p.node ∧ p.node < (n : Int)) ∧ 0 ≤ p.cores ∧ p.cores ≤ 1073741824) : pOk1 n p = true := by
  unfold pOk1
  rw [nin_mk (by omega), nin_mk h.2]; rfl

theorem partOk_any (x : Pt) (P : Nat) (a : Option Addr) (n cap : Nat) (w : World) (hP : w.cell? ⟨P, 0, none⟩ = some (.slice a n cap)) (hn : n ≤ 2000000) :
    Calls Try.prog 66 #[.agg #[.int .i64 x.node, .int .i64 x.cores], .pointer (some ⟨P, 0, none⟩)] w fun e w' => e = .returned (.bool (pOk1 n x)) ∧ Below w.heap.size w w' := by
  obtain ⟨W0, hW0⟩ : ∃ W0, W0 = w.alloc (.cells #[.int .i64 x.node, .int .i64 x.cores] 37) := ⟨_, rfl⟩
  have B0 : Below w.heap.size w W0 := by rw [hW0]; exact box_below0
  have c0 : W0.cell? ⟨P, 0, none⟩ = some (.slice a n cap) := by rw [hW0]; exact (World.cell?_alloc_lt _ _ _ (World.block_lt_of_cell? w _ hP)).trans hP
  have y0 : W0.cell? ⟨w.heap.size, 0, none⟩ = some (.int .i64 x.node) := by rw [hW0]; simp
  have y1 : W0.cell? ⟨w.heap.size, 1, none⟩ = some (.int .i64 x.cores) := by rw [hW0]; simp
  have wn : IntKind.i64.wrap ((n : Int) - 1) = (n : Int) - 1 := by rw [IntKind.wrap_i64]; omega
  rcases q1 : inB x.node 0 ((n : Int) - 1) with _ | _
  · have E : pOk1 n x = false := by unfold pOk1; rw [q1]; rfl
    rw [E]; clear E
    go_enter Try.func66, Try.ntmps66
    go_upto_region 1 with fail
    rw [← hW0]
    clear hW0 hP
    go_wp2_with (go_at_call 47; refine (within_any _ _ _ _).mono ?_; rw [q1]; rintro e w' ⟨rfl, hq⟩; have hq' := hq.symm; clear hq; subst hq')
    go_ret
    exact ⟨rfl, B0⟩
  · have E : pOk1 n x = inB x.cores 0 1073741824 := by unfold pOk1; rw [q1]; rfl
    rw [E]; clear E
    go_enter Try.func66, Try.ntmps66
    go_upto_region 1 with fail
    rw [← hW0]
    clear hW0 hP
    go_wp2_with (first | (go_at_call 47; refine (within_any _ _ _ _).mono ?_; rw [q1]; rintro e w' ⟨rfl, hq⟩; have hq' := hq.symm; clear hq; subst hq') | (go_at_call 67; refine (countOk_any _ _).mono ?_; rintro e w' ⟨rfl, hq⟩; have hq' := hq.symm; clear hq; subst hq'))
    go_ret
    exact ⟨rfl, B0⟩

set_option maxHeartbeats 1000000 in
theorem eachPart_any (b : Option Addr) (nb capb : Nat) (ps : List Pt) (P : Nat) (a : Option Addr) (n cap : Nat) (w : World) (hp : PartS w b nb capb ps) (hP : w.cell? ⟨P, 0, none⟩ = some (.slice a n cap)) (hn : n ≤ 2000000) :
    Calls Try.prog 68 #[.slice b nb capb, .func (.func 66) #[] #[.pointer (some ⟨P, 0, none⟩)]] w fun e w' => e = .returned (.bool (poB2 ps n nb)) ∧ Below w.heap.size w w' := by
  have hlen := hp.len
  have hmx := hp.mx
  have hle := hp.le
  unfold maxLen at hmx
  have lP : P < w.heap.size := World.block_lt_of_cell? w _ hP
  obtain ⟨r, hr⟩ : ∃ r, r = poB2 ps n nb := ⟨_, rfl⟩
  have HR : Hid (r = poB2 ps n nb) := hr
  rw [← hr]
  clear hr
  go_enter Try.func68, Try.ntmps68
  go_wp2
  go_loopw [9] (fun i wr => ∃ k : Nat, k ≤ nb ∧ i = .int .i64 k ∧ Hid (ptOk ps n k) ∧ Below w.heap.size w wr) (fun i _ => nb - (intOf i).toNat)
  case atStart => exact ⟨0, by omega, rfl, fun j hj => by omega, Below.refl _ _⟩
  case round =>
    obtain ⟨k, hk, rfl, hok, hw⟩ := hrel
    rename World => wr
    by_cases hlt : k < nb
    · obtain ⟨b', off, rfl, hbw, hat⟩ := (hp.below hw).at_ (by omega)
      obtain ⟨x0, x1⟩ := hat.row (i := k) (by omega)
      have hlt' : (k : Int) < (nb : Int) := by omega
      clear hat
      obtain ⟨W1, hW1⟩ : ∃ W1, W1 = wr.alloc (.cells #[.int .i64 (ptg ps k).node, .int .i64 (ptg ps k).cores] 37) := ⟨_, rfl⟩
      have B1 : Below w.heap.size w W1 := by rw [hW1]; exact hw.then box_below0 hw.size
      have HP1 : W1.cell? ⟨P, 0, none⟩ = some (.slice a n cap) := (B1.cell (p := ⟨P, 0, none⟩) lP).trans hP
      have HB : Hid (∀ e : World, Below W1.heap.size W1 e → Below w.heap.size w e) := fun e he => B1.then he B1.size
      have CP := partOk_any (ptg ps k) P a n cap W1 HP1 hn
      have y0 : W1.cell? ⟨wr.heap.size, 0, none⟩ = some (.int .i64 (ptg ps k).node) := by rw [hW1]; simp
      have y1 : W1.cell? ⟨wr.heap.size, 1, none⟩ = some (.int .i64 (ptg ps k).cores) := by rw [hW1]; simp
      clear HP1 B1
      rcases q : pOk1 n (ptg ps k) with _ | _
      · have E : Hid (r = false) := HR.out.trans (poB2_no fun q9 => by have := pOk1_mk (q9 k hlt); rw [q] at this; cases this)
        rw [q] at CP
        go_upto_region 4 with fail
        rw [← hW1]
        clear hW1 x0 x1
        go_wp2_with (go_at_call 66; refine CP.mono ?_; rintro e w' ⟨rfl, hb⟩; have HB1 := HB.out _ hb)
        go_ret
        exact ⟨by rw [E.out]; rfl, HB1⟩
      · have N : Hid (ptOk ps n (k + 1)) := fun j hj => by
          by_cases e : j = k
          · subst e; exact pOk1_t q
          · exact hok.out j (by omega)
        rw [q] at CP
        go_upto_region 4 with fail
        rw [← hW1]
        clear hW1 x0 x1
        go_wp2_with (go_at_call 66; refine CP.mono ?_; rintro e w' ⟨rfl, hb⟩; have HB1 := HB.out _ hb)
        go_roundw
        case rel => exact ⟨k + 1, by omega, by go_num, N, HB1⟩
        case measure => simp [intOf]; omega
    · obtain rfl : k = nb := by omega
      have E : Hid (r = true) := HR.out.trans (poB2_mk hok.out)
      have hnn : ¬ (k : Int) < (k : Int) := by omega
      go_wp2
      go_ret
      exact ⟨by rw [E.out]; rfl, hw⟩

end Go.Proofs.Ytkkbfblgnejonaa
