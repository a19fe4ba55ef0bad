/- Several texts in one. -/
import Derived.Test.YtdgfkcobhhlfbaaGreatNodeCh
import Derived.Test.YtdgfkcobhhlfbaaGreatNodePk
import Derived.Test.YtdgfkcobhhlfbaaGreatNodeM
import Derived.KernelRfl
import Derived.Laws.CopyOwn
import Derived.Shelf.SlSortCmp.QuietGrown
import Derived.Test.YtdgfkcobhhlfbaaGreatLInt
import Derived.Deep.Cut
import Derived.Deep.CutRange
import Derived.Test.YtdgfkcobhhlfbaaGreatPa
/- The program's chapter 11, first part: standing, each, NodesOk, UsedOk, Ready. -/
namespace Go.Proofs.YtdgfkcobhhlfbaaGreat
open Go.RowKit Go.Sort

theorem standing_any (s : Int) (w : World) :
    Calls Tryz.prog 75 #[.int .i64 s] w fun e w' => e = .returned (.tuple #[.bool (decide (s = 1)), .bool (inB s 1 3)]) ∧ w' = w := by
  by_cases h1 : s = 1
  · subst h1
    go_enter Tryz.func75, Tryz.ntmps75
    go_wp2
    go_ret2
    exact ⟨rfl, rfl⟩
  · by_cases h2 : s = 2
    · subst h2
      go_enter Tryz.func75, Tryz.ntmps75
      go_wp2
      go_ret2
      exact ⟨rfl, rfl⟩
    · by_cases h3 : s = 3
      · subst h3
        go_enter Tryz.func75, Tryz.ntmps75
        go_wp2
        go_ret2
        exact ⟨rfl, rfl⟩
      · have e1 : decide (s = 1) = false := decide_eq_false h1
        have e2 : inB s 1 3 = false := nin_no (by omega)
        rw [e1, e2]
        have g1 : (s == 1) = false := by simpa using h1
        have g2 : (s == 2) = false := by simpa using h2
        have g3 : (s == 3) = false := by simpa using h3
        clear e1 e2
        go_enter Tryz.func75, Tryz.ntmps75
        go_wp2
        go_ret2
        exact ⟨rfl, rfl⟩

theorem nodeOk_any (x : Nd) (w : World) :
    Calls Tryz.prog 58 #[.agg #[.int .i64 x.cores, .int .i64 x.state]] w fun e w' => e = .returned (.bool (nOk x)) ∧ Below w.heap.size w w' := by
  have B0 : Below w.heap.size w (w.alloc (.cells #[.int .i64 x.cores, .int .i64 x.state] 70)) := box_below0
  rcases q2 : inB x.state 1 3 with _ | _
  · have E : nOk x = false := by unfold nOk; rw [q2]; simp
    rw [E]; clear E
    go_enter Tryz.func58, Tryz.ntmps58
    go_wp2_with (go_at_call 75; refine (standing_any _ _).mono ?_; rw [q2]; rintro e w' ⟨rfl, rfl⟩)
    go_ret
    exact ⟨rfl, B0⟩
  · have E : nOk x = inB x.cores 1 100 := by unfold nOk; rw [q2]; simp
    rw [E]; clear E
    go_enter Tryz.func58, Tryz.ntmps58
    go_wp2_with (first | (go_at_call 75; refine (standing_any _ _).mono ?_; rw [q2]; rintro e w' ⟨rfl, rfl⟩) | (go_at_call 39; refine (within_any _ _ _ _).mono ?_; rintro e w' ⟨rfl, rfl⟩))
    go_ret
    exact ⟨rfl, B0⟩

/-- is each of them right? -/
def nsEach (l : List Nd) : Prop := ∀ i, i < l.length → nOk (ndg l i) = true
noncomputable def neB (l : List Nd) : Bool := @decide (nsEach l) (Classical.propDecidable _)
theorem neB_mk {l : List Nd} (h : nsEach l) : neB l = true := @decide_eq_true _ (Classical.propDecidable _) h
theorem neB_no {l : List Nd} (h : ¬ nsEach l) : neB l = false := @decide_eq_false _ (Classical.propDecidable _) h
theorem neB_t {l : List Nd} (h : neB l = true) : nsEach l := @of_decide_eq_true _ (Classical.propDecidable _) h

set_option maxHeartbeats 1000000 in
theorem eachNode_any (a : Option Addr) (n cap : Nat) (l : List Nd) (w : World) (h : NodeS w a n cap l) :
    Calls Tryz.prog 57 #[.slice a n cap, .func (.func 58) #[] #[]] w fun e w' => e = .returned (.bool (neB l)) ∧ Below w.heap.size w w' := by
  have hlen := h.len
  have hmx := h.mx
  have hle := h.le
  unfold maxLen at hmx
  obtain ⟨r, hr⟩ : ∃ r, r = neB l := ⟨_, rfl⟩
  have HR : Hid (r = neB l) := hr
  rw [← hr]
  clear hr
  go_enter Tryz.func57, Tryz.ntmps57
  go_wp2
  go_loopw [9] (fun i wr => ∃ k : Nat, k ≤ n ∧ i = .int .i64 k ∧ Hid (∀ j, j < k → nOk (ndg l j) = true) ∧ Below w.heap.size w wr) (fun i _ => n - (intOf i).toNat)
  case atStart => exact ⟨0, by omega, rfl, fun j hj => by omega, Below.refl _ _⟩
  case round =>
    obtain ⟨k, hk, rfl, hok, hw⟩ := hrel
    rename World => wr
    by_cases hlt : k < n
    · obtain ⟨b, off, rfl, hbw, hat⟩ := (h.below hw).at_ (by omega)
      obtain ⟨x0, x1⟩ := hat.row (i := k) (by omega)
      have hlt' : (k : Int) < (n : Int) := by omega
      clear hat
      have HB : Hid (∀ e : World, Below (wr.alloc (.cells #[.int .i64 (ndg l k).cores, .int .i64 (ndg l k).state] 70)).heap.size (wr.alloc (.cells #[.int .i64 (ndg l k).cores, .int .i64 (ndg l k).state] 70)) e → Below w.heap.size w e) := fun e he => (hw.then box_below0 hw.size).then he (hw.then box_below0 hw.size).size
      rcases q : nOk (ndg l k) with _ | _
      · have E : Hid (r = false) := HR.out.trans (neB_no fun q9 => by have := q9 k (by omega); rw [q] at this; cases this)
        go_wp2_with (go_at_call 58; refine (nodeOk_any _ _).mono ?_; rw [q]; rintro e w' ⟨rfl, hb⟩; have HB1 := HB.out _ hb)
        go_ret
        exact ⟨by rw [E.out]; rfl, HB1⟩
      · have N : Hid (∀ j, j < k + 1 → nOk (ndg l j) = true) := fun j hj => by
          by_cases e : j = k
          · subst e; exact q
          · exact hok.out j (by omega)
        go_wp2_with (go_at_call 58; refine (nodeOk_any _ _).mono ?_; rw [q]; rintro e w' ⟨rfl, hb⟩; have HB1 := HB.out _ hb)
        go_roundw
        case rel => exact ⟨k + 1, by omega, by go_num, N, HB1⟩
        case measure => simp [intOf]; omega
    · obtain rfl : k = n := by omega
      have E : Hid (r = true) := HR.out.trans (neB_mk fun i hi => hok.out i (by omega))
      have hnn : ¬ (k : Int) < (k : Int) := by omega
      go_wp2
      go_ret
      exact ⟨by rw [E.out]; rfl, hw⟩

theorem implNodesOk_any (a : Option Addr) (n cap : Nat) (l : List Nd) (w : World) (h : NodeS w a n cap l) :
    Calls Tryz.prog 40 #[.slice a n cap] w fun e w' => e = .returned (.bool (nsB l)) ∧ Below w.heap.size w w' := by
  have hlen := h.len
  have hmx := h.mx
  have hle := h.le
  unfold maxLen at hmx
  obtain ⟨r, hr⟩ : ∃ r, r = nsB l := ⟨_, rfl⟩
  have HR : Hid (r = nsB l) := hr
  rw [← hr]
  clear hr
  rcases q1 : inB (n : Int) 1 8 with _ | _
  · have E : Hid (r = false) := HR.out.trans (nsB_no fun q => by have := nin_f q1; have := q.n1; have := q.n2; omega)
    go_enter Tryz.func40, Tryz.ntmps40
    go_wp2_with (go_at_call 39; refine (within_any _ _ _ _).mono ?_; rw [q1]; rintro e w' ⟨rfl, rfl⟩)
    go_ret
    exact ⟨by rw [E.out]; rfl, Below.refl _ _⟩
  · have E : Hid (r = neB l) := by
      unfold Hid
      rw [HR.out]
      have q9 := nin_t q1
      rcases q : neB l with _ | _
      · exact nsB_no fun q8 => by rw [neB_mk q8.ok] at q; cases q
      · exact nsB_mk ⟨by omega, by omega, neB_t q⟩
    go_enter Tryz.func40, Tryz.ntmps40
    go_wp2_with (first | (go_at_call 39; refine (within_any _ _ _ _).mono ?_; rw [q1]; rintro e w' ⟨rfl, rfl⟩) | (go_at_call 57; refine (eachNode_any _ _ _ l _ h).mono ?_; rintro e w' ⟨rfl, hb⟩))
    go_ret
    exact ⟨by rw [E.out]; rfl, hb⟩

end Go.Proofs.YtdgfkcobhhlfbaaGreat

/- The program's chapter 11, fourth part: each number of a row. -/
namespace Go.Proofs.YtdgfkcobhhlfbaaGreat
open Go.RowKit Go.Sort

theorem countOk_any (x : Int) (w : World) : Calls Tryz.prog 101 #[.int .i64 x] w fun e w' => e = .returned (.bool (inB x 0 1073741824)) ∧ w' = w := by
  go_enter Tryz.func101, Tryz.ntmps101
  go_wp2_with (go_at_call 39; refine (within_any _ _ _ _).mono ?_; rintro e w' ⟨rfl, rfl⟩)
  go_ret
  exact ⟨rfl, rfl⟩

/-- is each of them so? -/
def cntTo (u : List Int) (k : Nat) : Prop := ∀ i, i < k → inB (zg u i) 0 1073741824 = true
noncomputable def cntB (u : List Int) (k : Nat) : Bool := @decide (cntTo u k) (Classical.propDecidable _)
theorem cntB_mk {u : List Int} {k : Nat} (h : cntTo u k) : cntB u k = true := @decide_eq_true _ (Classical.propDecidable _) h
theorem cntB_no {u : List Int} {k : Nat} (h : ¬ cntTo u k) : cntB u k = false := @decide_eq_false _ (Classical.propDecidable _) h
theorem cntB_t {u : List Int} {k : Nat} (h : cntB u k = true) : cntTo u k := @of_decide_eq_true _ (Classical.propDecidable _) h
theorem cntB_f {u : List Int} {k : Nat} (h : cntB u k = false) : ¬ cntTo u k := @of_decide_eq_false _ (Classical.propDecidable _) h

set_option maxHeartbeats 1000000 in
theorem cnt_any (a : Option Addr) (n cap : Nat) (u : List Int) (w : World) (h : IntS w a n cap u) :
    Calls Tryz.prog 102 #[.slice a n cap, .func (.func 101) #[] #[]] w fun e w' => e = .returned (.bool (cntB u n)) ∧ w' = w := by
  have hlen := h.len
  have hmx := h.mx
  have hle := h.le
  unfold maxLen at hmx
  obtain ⟨r, hr⟩ : ∃ r, r = cntB u n := ⟨_, rfl⟩
  have HR : Hid (r = cntB u n) := hr
  rw [← hr]
  clear hr
  go_enter Tryz.func102, Tryz.ntmps102
  go_wp2
  go_loopw [9] (fun i wr => ∃ k : Nat, k ≤ n ∧ i = .int .i64 k ∧ Hid (cntTo u k) ∧ wr = w) (fun i _ => n - (intOf i).toNat)
  case atStart => exact ⟨0, by omega, rfl, fun j hj => by omega, rfl⟩
  case round =>
    obtain ⟨k, hk, rfl, hok, rfl⟩ := hrel
    by_cases hlt : k < n
    · obtain ⟨b, off, rfl, hbw, hat⟩ := h.at_ (by omega)
      have hc := hat k hlt
      have hlt' : (k : Int) < (n : Int) := by omega
      clear hat
      rcases q : inB (zg u k) 0 1073741824 with _ | _
      · have E : Hid (r = false) := HR.out.trans (cntB_no fun q9 => by have := q9 k hlt; rw [q] at this; cases this)
        go_wp2_with (go_at_call 101; refine (countOk_any _ _).mono ?_; rw [q]; rintro e w' ⟨rfl, hq⟩; have hq' := hq.symm; clear hq; subst hq')
        go_ret
        exact ⟨by rw [E.out]; rfl, rfl⟩
      · have N : Hid (cntTo u (k + 1)) := fun j hj => by
          by_cases e : j = k
          · subst e; exact q
          · exact hok.out j (by omega)
        go_wp2_with (go_at_call 101; refine (countOk_any _ _).mono ?_; rw [q]; rintro e w' ⟨rfl, hq⟩; have hq' := hq.symm; clear hq; subst hq')
        go_roundw
        case rel => first | exact ⟨k + 1, by omega, by go_num, N, rfl⟩ | exact ⟨k + 1, by omega, by go_num, N, trivial⟩ | exact ⟨k + 1, by omega, by go_num, N⟩
        case measure => simp [intOf]; omega
    · obtain rfl : k = n := by omega
      have E : Hid (r = true) := HR.out.trans (cntB_mk hok.out)
      have hnn : ¬ (k : Int) < (k : Int) := by omega
      go_wp2
      go_ret
      exact ⟨by rw [E.out]; rfl, rfl⟩

/-- is each of them so? -/
def posTo (u : List Int) (k : Nat) : Prop := ∀ i, i < k → decide (0 ≤ (zg u i)) = true
noncomputable def posB (u : List Int) (k : Nat) : Bool := @decide (posTo u k) (Classical.propDecidable _)
theorem posB_mk {u : List Int} {k : Nat} (h : posTo u k) : posB u k = true := @decide_eq_true _ (Classical.propDecidable _) h
theorem posB_no {u : List Int} {k : Nat} (h : ¬ posTo u k) : posB u k = false := @decide_eq_false _ (Classical.propDecidable _) h
theorem posB_t {u : List Int} {k : Nat} (h : posB u k = true) : posTo u k := @of_decide_eq_true _ (Classical.propDecidable _) h
theorem posB_f {u : List Int} {k : Nat} (h : posB u k = false) : ¬ posTo u k := @of_decide_eq_false _ (Classical.propDecidable _) h

theorem cntTo_use {u : List Int} {k : Nat} : cntTo u k ↔ useOk u k := ⟨fun h i hi => nin_t (h i hi), fun h i hi => nin_mk (h i hi)⟩

end Go.Proofs.YtdgfkcobhhlfbaaGreat

/- What the program makes of what is used: each part added, or taken off, with no look between; that it is what the model makes. -/
namespace Go.Proofs.YtdgfkcobhhlfbaaGreat
open Go.RowKit

def wuK (u : List Int) (ps : List Pt) (sign : Int) : Nat → List Int
  | 0 => u
  | k + 1 => (wuK u ps sign k).set (ptg ps k).node.toNat (zg (wuK u ps sign k) (ptg ps k).node.toNat + sign * (ptg ps k).cores)
theorem wuK_len {u : List Int} {ps : List Pt} {sign : Int} : ∀ k, (wuK u ps sign k).length = u.length
  | 0 => rfl
  | k + 1 => by rw [wuK, List.length_set]; exact wuK_len k
theorem wuK_sum {u : List Int} {ps : List Pt} {sign : Int} : ∀ k, ptOk ps u.length k → ∀ i, i < u.length → zg (wuK u ps sign k) i = zg u i + sign * smK ps i k
  | 0, _, i, _ => by simp [wuK, smK]
  | k + 1, h, i, hi => by
    have ih := wuK_sum (sign := sign) k (fun j hj => h j (by omega))
    have hp := h k (by omega)
    rw [wuK, zg_set (by rw [wuK_len]; omega)]
    simp only [smK]
    by_cases e : (ptg ps k).node = (i : Int)
    · rw [if_pos (by omega), if_pos e, show (ptg ps k).node.toNat = i by omega, ih i hi, Int.mul_add]; omega
    · rw [if_neg (by omega), if_neg e]; exact ih i hi
theorem smK_bd {ps : List Pt} {i n : Nat} : ∀ k, ptOk ps n k → smK ps i k ≤ 1073741824 * (k : Int)
  | 0, _ => by simp [smK]
  | k + 1, h => by
    have ih := smK_bd (i := i) k fun j hj => h j (by omega)
    have := (h k (by omega)).2
    simp only [smK]; push_cast; split <;> omega
theorem wuK_bd {u : List Int} {ps : List Pt} {sign : Int} (hs : sign = 1 ∨ sign = -1) (hu : useOk u u.length) (k : Nat) (h : ptOk ps u.length k) (i : Nat) (hi : i < u.length) :
    -(1073741824 * ((k : Int) + 1)) ≤ zg (wuK u ps sign k) i ∧ zg (wuK u ps sign k) i ≤ 1073741824 * ((k : Int) + 1) := by
  have h1 := wuK_sum (sign := sign) k h i hi
  have h2 := smK_bd (i := i) k h
  have h3 := smK_0 (i := i) k h
  have h4 := hu i hi
  rw [h1]
  rcases hs with rfl | rfl <;> omega

noncomputable def poB2 (ps : List Pt) (n k : Nat) : Bool := @decide (ptOk ps n k) (Classical.propDecidable _)
theorem poB2_mk {ps : List Pt} {n k : Nat} (h : ptOk ps n k) : poB2 ps n k = true := @decide_eq_true _ (Classical.propDecidable _) h
theorem poB2_no {ps : List Pt} {n k : Nat} (h : ¬ ptOk ps n k) : poB2 ps n k = false := @decide_eq_false _ (Classical.propDecidable _) h
theorem poB2_t {ps : List Pt} {n k : Nat} (h : poB2 ps n k = true) : ptOk ps n k := @of_decide_eq_true _ (Classical.propDecidable _) h
theorem poB2_f {ps : List Pt} {n k : Nat} (h : poB2 ps n k = false) : ¬ ptOk ps n k := @of_decide_eq_false _ (Classical.propDecidable _) h

/-- what the program's usedWith tells -/
noncomputable def wuF (u : List Int) (ps : List Pt) (sign : Int) : List Int := if (uoB u u.length && poB2 ps u.length ps.length) = true then wuK u ps sign ps.length else []

/-- where the one can't tell, the other neither -/
theorem chF_no {u : List Int} {ps : List Pt} {sign : Int} (h : (uoB u u.length && poB2 ps u.length ps.length) = false) : chF u ps sign = none := by
  unfold chF
  by_cases c : uoB u u.length = true
  · rw [if_pos c]
    rw [c] at h
    have hp := poB2_f (by simpa using h)
    rcases hk : chK u ps sign ps.length with _ | o
    · rfl
    · exact absurd (chK_sum _ o hk).2.1 hp
  · rw [if_neg c]
theorem chF_is {u : List Int} {ps : List Pt} {sign : Int} (hs : sign = 1 ∨ sign = -1) (h : (uoB u u.length && poB2 ps u.length ps.length) = true)
    (hz : ∀ i, i < u.length → 0 ≤ zg (wuK u ps sign ps.length) i) : chF u ps sign = some (wuK u ps sign ps.length) := by
  obtain ⟨h1, h2⟩ : uoB u u.length = true ∧ poB2 ps u.length ps.length = true := by simpa using h
  have hu := uoB_t h1
  have hp := poB2_t h2
  have hcan : ∃ out, chK u ps sign ps.length = some out := chK_can hs ps.length hp fun j i hj hi => by
    have e0 := hu i hi
    have e1 := hz i hi
    rw [wuK_sum _ hp i hi] at e1
    have e2 := smK_le (i := i) (n := u.length) (ps.length - j) j (by rw [show j + (ps.length - j) = ps.length by omega]; exact hp)
    rw [show j + (ps.length - j) = ps.length by omega] at e2
    have e3 := smK_0 (i := i) (n := u.length) j (fun q hq => hp q (by omega))
    rcases hs with rfl | rfl <;> omega
  obtain ⟨o, ho⟩ := hcan
  obtain ⟨l1, _, v1⟩ := chK_sum _ o ho
  unfold chF
  rw [if_pos h1, ho]
  refine congrArg some (ints_ext (l1.trans (wuK_len _).symm) fun i hi => ?_)
  rw [v1 i (by omega), wuK_sum _ hp i (by omega)]
theorem chF_neg {u : List Int} {ps : List Pt} {sign : Int} (hs : sign = 1 ∨ sign = -1) (h : (uoB u u.length && poB2 ps u.length ps.length) = true)
    (hz : ¬ ∀ i, i < u.length → 0 ≤ zg (wuK u ps sign ps.length) i) : chF u ps sign = none := by
  obtain ⟨h1, h2⟩ : uoB u u.length = true ∧ poB2 ps u.length ps.length = true := by simpa using h
  have hu := uoB_t h1
  have hp := poB2_t h2
  unfold chF
  rw [if_pos h1]
  rcases hk : chK u ps sign ps.length with _ | o
  · rfl
  · refine absurd (fun i hi => ?_) hz
    have e1 := (chK_bd hs hu _ o hk).2 i hi
    rw [(chK_sum _ o hk).2.2 i hi] at e1
    rw [wuK_sum _ hp i hi]
    exact e1.1
/-- added to, none falls below 0 -/
theorem wuK_pos {u : List Int} {ps : List Pt} (h : (uoB u u.length && poB2 ps u.length ps.length) = true) : ∀ i, i < u.length → 0 ≤ zg (wuK u ps 1 ps.length) i := by
  obtain ⟨h1, h2⟩ : uoB u u.length = true ∧ poB2 ps u.length ps.length = true := by simpa using h
  intro i hi
  have hp := poB2_t h2
  have e0 := uoB_t h1 i hi
  have e3 := smK_0 (i := i) (n := u.length) _ hp
  rw [wuK_sum _ hp i hi]; omega

end Go.Proofs.YtdgfkcobhhlfbaaGreat

/- 'copy' of elements of several cells: the kit's law asks elements of one cell; this is its like for any number. -/
namespace Go.Proofs.YtdgfkcobhhlfbaaGreat
open Go.RowKit

theorem run_copy_rowK {P : Program} (K : Nat) (w : World) (dT sT ty elem : TypeId) (g o dLen dCap : Nat) (a : Addr) (sLen sCap m : Nat) (cur : Array Value) (t : TypeId) (cs : List Value)
    (hu : P.underlying dT = some (.slice elem)) (hs : (P.info? elem).map (·.size) = some K)
    (hg : w.heap[g]? = some (.cells cur t (0, 0))) (hm : m = Nat.min sLen dLen) (hn : cs.length = m * K)
    (hsrc : ∀ j v, cs[j]? = some v → w.cell? (a.add j) = some v) (hfit : o + cs.length ≤ cur.size) (h1 : ∀ v ∈ cs, v.oneCell' = true) :
    (Builtin.copy_ #[dT, sT] ty #[.slice (some ⟨g, o, none⟩) dLen dCap, .slice (some a) sLen sCap]).run P w =
      .ok (goInt m) (w.setRow g (cur.toList.take o ++ cs ++ cur.toList.drop (o + cs.length)).toArray) := by
  have hl := run_loadCells_list (P := P) w a cs hsrc
  have hst := run_storeCells_at P g o t cs 0 cur w hg (by simpa using hfit) h1
  cases hq : P.info? elem with
  | none => simp [hq] at hs
  | some i =>
    have hi : i.size = K := by simpa [hq] using hs
    rw [hn] at hl
    simp [Builtin.copy_, run_underlying hu, Builtin.lenOf, Builtin.firstCells, sizeOf, typeInfo, hq, hi, ← hm, hl, hst]

theorem run_copy_noneK {P : Program} (K : Nat) (w : World) (dT sT ty elem : TypeId) (d a : Option Addr) (dLen dCap sLen sCap : Nat) (hu : P.underlying dT = some (.slice elem)) (hs : (P.info? elem).map (·.size) = some K) (hn : Nat.min sLen dLen = 0) :
    (Builtin.copy_ #[dT, sT] ty #[.slice d dLen dCap, .slice a sLen sCap]).run P w = .ok (goInt 0) w := by
  cases hq : P.info? elem with
  | none => simp [hq] at hs
  | some i =>
    have hl : ∀ (x : Addr), (loadCells x 0).run P w = .ok #[] w := fun x => by simpa using run_loadCells_list (P := P) w x [] (by simp)
    cases d <;> cases a <;> simp [Builtin.copy_, run_underlying hu, Builtin.lenOf, Builtin.firstCells, sizeOf, typeInfo, hq, hn, storeCells, hl]

theorem wpList_copy_K {P : Program} (K : Nat) {w : World} {ops : Array Oper} {rest : List Oper} {o : Oper} {a : Act} {Q : Exit → Act → World → Prop} (hgd : o.guard = none) (d s : Operand) (dT sT : TypeId)
    (ho : o.op = .call { callee := .builtin .copy, args := #[d, s], argTypes := #[dT, sT] }) (elem : TypeId) (hu : P.underlying dT = some (.slice elem)) (hsz : (P.info? elem).map (·.size) = some K)
    (g off dLen dCap : Nat) (ad : Addr) (sLen sCap m : Nat) (hd : a.eval d = .slice (some ⟨g, off, none⟩) dLen dCap) (hs : a.eval s = .slice (some ad) sLen sCap)
    (cur : Array Value) (t : TypeId) (hg : w.heap[g]? = some (.cells cur t (0, 0))) (cs : List Value) (hm : m = Nat.min sLen dLen) (hn : cs.length = m * K)
    (hsrc : ∀ j v, cs[j]? = some v → w.cell? (ad.add j) = some v) (hfit : off + cs.length ≤ cur.size) (h1 : ∀ v ∈ cs, v.oneCell' = true)
    (h : wpList P ops Q rest (a.put o.dst (goInt m)) (w.setRow g (cur.toList.take off ++ (cs ++ cur.toList.drop (off + cs.length))).toArray)) : wpList P ops Q (o :: rest) a w := by
  refine wpList_plain hgd fun K' hK => ?_
  have hrun := run_copy_rowK (P := P) K w dT sT o.type elem g off dLen dCap ad sLen sCap m cur t cs hu hsz hg hm hn hsrc hfit h1
  unfold Oper.wp
  simp [execOp, ho, resolve, invoke, builtin, hd, hs, hrun, Result.andThen]
  exact hK _ _ h

theorem wpList_copy_0 {P : Program} (K : Nat) {w : World} {ops : Array Oper} {rest : List Oper} {o : Oper} {a : Act} {Q : Exit → Act → World → Prop} (hgd : o.guard = none) (d s : Operand) (dT sT : TypeId)
    (ho : o.op = .call { callee := .builtin .copy, args := #[d, s], argTypes := #[dT, sT] }) (elem : TypeId) (hu : P.underlying dT = some (.slice elem)) (hsz : (P.info? elem).map (·.size) = some K)
    (dp sp : Option Addr) (dLen dCap sLen sCap : Nat) (hd : a.eval d = .slice dp dLen dCap) (hs : a.eval s = .slice sp sLen sCap) (hn : Nat.min sLen dLen = 0)
    (h : wpList P ops Q rest (a.put o.dst (goInt 0)) w) : wpList P ops Q (o :: rest) a w := by
  refine wpList_plain hgd fun K' hK => ?_
  have hrun := run_copy_noneK (P := P) K w dT sT o.type elem dp sp dLen dCap sLen sCap hu hsz hn
  unfold Oper.wp
  simp [execOp, ho, resolve, invoke, builtin, hd, hs, hrun, Result.andThen]
  exact hK _ _ h

end Go.Proofs.YtdgfkcobhhlfbaaGreat

/- The program's chapter 11, fifth part: usedWith. -/
namespace Go.Proofs.YtdgfkcobhhlfbaaGreat
open Go.RowKit Go.Sort

theorem sizedInt : (Tryz.prog.info? 2).map (·.size) = some 1 := by kernel_rfl

/-- 'copy' of all numbers of a slice into a row of the call's own that is as long -/
theorem run_copy_ints {w : World} (ty : TypeId) (B m cap : Nat) (sp : Option Addr) (l : List Int) (hL : IntS w sp m cap l) (cur : Array Value) (hg : w.heap[B]? = some (.cells cur 2 (0, 0))) (hcs : cur.size = m) :
    ∃ w', (Builtin.copy_ #[67, 67] ty #[.slice (some ⟨B, 0, none⟩) m m, .slice sp m cap]).run Tryz.prog w = .ok (.int .i64 m) w' ∧ IntB w' B m l ∧ Only B w w' := by
  by_cases h0 : m = 0
  · subst h0
    have hrun := run_copy_noneK (P := Tryz.prog) 1 w 67 67 ty 2 (some ⟨B, 0, none⟩) sp 0 0 0 cap Tryz.underlying67 sizedInt rfl
    exact ⟨w, hrun, ⟨cur, hg, by omega, fun i hi => by omega⟩, Only.refl _ _⟩
  · obtain ⟨b, off, rfl, hb, hat⟩ := hL.at_ (by omega)
    have hl := hL.len
    have hrun := run_copy_rowK (P := Tryz.prog) 1 w 67 67 ty 2 B 0 m m ⟨b, off, none⟩ m cap m cur 2 (l.map (Value.int .i64)) Tryz.underlying67 sizedInt hg (by simp) (by simp; omega) (ints_at (fun i hi => hat i (by omega))) (by simp; omega) (by intro y hy; obtain ⟨z, _, rfl⟩ := List.mem_map.1 hy; rfl)
    have e : (cur.toList.take 0 ++ l.map (Value.int .i64) ++ cur.toList.drop (0 + (l.map (Value.int .i64)).length)).toArray = (l.map (Value.int .i64)).toArray := by
      rw [List.take_zero, List.nil_append, List.drop_eq_nil_of_le (by simp; omega), List.append_nil]
    rw [e] at hrun
    refine ⟨_, hrun, ⟨(l.map (Value.int .i64)).toArray, setRow_heap w B _ _ _ _ hg, by simp; omega, fun i hi => ?_⟩, ⟨rfl, rfl, rfl, by simp [World.setRow], fun k hk => setRow_other w B k _ hk⟩⟩
    simp [zg, show i < l.length by omega]

theorem run_make2M (n : Nat) (hn : n ≤ 2000000) (wx : World) : (Instr.makeSlice 67 (.int .i64 (n : Int)) (.int .i64 (n : Int))).run Tryz.prog wx = .ok (.slice (some ⟨wx.heap.size, 0, none⟩) n n) (wx.alloc (.cells (madeCells #[.int .i64 0] n) 2)) := by
  obtain ⟨i0, hi, hz0, hz1, hz2⟩ := info_parts infoI
  have := run_make (P := Tryz.prog) wx 67 2 i0 _ Tryz.underlying67 hi hz0 .i64 .i64 n n (by omega) (by omega) (by rw [hz2]; omega) (by omega)
  rw [hz1] at this
  simp only [Int.toNat_natCast, Nat.mul_one] at this
  exact this

/-- is it one of n nodes', with no more than can be counted? -/
def pOk1 (n : Nat) (p : Pt) : Bool := inB p.node 0 ((n : Int) - 1) && inB p.cores 0 1073741824
theorem pOk1_t {n : Nat} {p : Pt} (h : pOk1 n p = true) : (0 ≤ p.node ∧ p.node < (n : Int)) ∧ 0 ≤ p.cores ∧ p.cores ≤ 1073741824 := by
  unfold pOk1 at h
  simp only [Bool.and_eq_true] at h
  have := nin_t h.1
  exact ⟨by omega, nin_t h.2⟩
theorem pOk1_mk {n : Nat} {p : Pt} (h : (0 ≤ p.node ∧ p.node < (n : Int)) ∧ 0 ≤ p.cores ∧ p.cores ≤ 1073741824) : pOk1 n p = true := by
  unfold pOk1
  rw [nin_mk (by omega), nin_mk h.2]; rfl

theorem partOk_any (x : Pt) (P : Nat) (a : Option Addr) (n cap : Nat) (w : World) (hP : w.cell? ⟨P, 0, none⟩ = some (.slice a n cap)) (hn : n ≤ 2000000) :
    Calls Tryz.prog 100 #[.agg #[.int .i64 x.node, .int .i64 x.cores], .pointer (some ⟨P, 0, none⟩)] w fun e w' => e = .returned (.bool (pOk1 n x)) ∧ Below w.heap.size w w' := by
  obtain ⟨W0, hW0⟩ : ∃ W0, W0 = w.alloc (.cells #[.int .i64 x.node, .int .i64 x.cores] 85) := ⟨_, rfl⟩
  have B0 : Below w.heap.size w W0 := by rw [hW0]; exact box_below0
  have c0 : W0.cell? ⟨P, 0, none⟩ = some (.slice a n cap) := by rw [hW0]; exact (World.cell?_alloc_lt _ _ _ (World.block_lt_of_cell? w _ hP)).trans hP
  have y0 : W0.cell? ⟨w.heap.size, 0, none⟩ = some (.int .i64 x.node) := by rw [hW0]; simp
  have y1 : W0.cell? ⟨w.heap.size, 1, none⟩ = some (.int .i64 x.cores) := by rw [hW0]; simp
  have wn : IntKind.i64.wrap ((n : Int) - 1) = (n : Int) - 1 := by rw [IntKind.wrap_i64]; omega
  rcases q1 : inB x.node 0 ((n : Int) - 1) with _ | _
  · have E : pOk1 n x = false := by unfold pOk1; rw [q1]; rfl
    rw [E]; clear E
    go_enter Tryz.func100, Tryz.ntmps100
    go_upto_region 1 with fail
    rw [← hW0]
    clear hW0 hP
    go_wp2_with (go_at_call 39; refine (within_any _ _ _ _).mono ?_; rw [q1]; rintro e w' ⟨rfl, hq⟩; have hq' := hq.symm; clear hq; subst hq')
    go_ret
    exact ⟨rfl, B0⟩
  · have E : pOk1 n x = inB x.cores 0 1073741824 := by unfold pOk1; rw [q1]; rfl
    rw [E]; clear E
    go_enter Tryz.func100, Tryz.ntmps100
    go_upto_region 1 with fail
    rw [← hW0]
    clear hW0 hP
    go_wp2_with (first | (go_at_call 39; refine (within_any _ _ _ _).mono ?_; rw [q1]; rintro e w' ⟨rfl, hq⟩; have hq' := hq.symm; clear hq; subst hq') | (go_at_call 101; refine (countOk_any _ _).mono ?_; rintro e w' ⟨rfl, hq⟩; have hq' := hq.symm; clear hq; subst hq'))
    go_ret
    exact ⟨rfl, B0⟩

set_option maxHeartbeats 1000000 in
theorem eachPart_any (b : Option Addr) (nb capb : Nat) (ps : List Pt) (P : Nat) (a : Option Addr) (n cap : Nat) (w : World) (hp : PartS w b nb capb ps) (hP : w.cell? ⟨P, 0, none⟩ = some (.slice a n cap)) (hn : n ≤ 2000000) :
    Calls Tryz.prog 103 #[.slice b nb capb, .func (.func 100) #[] #[.pointer (some ⟨P, 0, none⟩)]] w fun e w' => e = .returned (.bool (poB2 ps n nb)) ∧ Below w.heap.size w w' := by
  have hlen := hp.len
  have hmx := hp.mx
  have hle := hp.le
  unfold maxLen at hmx
  have lP : P < w.heap.size := World.block_lt_of_cell? w _ hP
  obtain ⟨r, hr⟩ : ∃ r, r = poB2 ps n nb := ⟨_, rfl⟩
  have HR : Hid (r = poB2 ps n nb) := hr
  rw [← hr]
  clear hr
  go_enter Tryz.func103, Tryz.ntmps103
  go_wp2
  go_loopw [9] (fun i wr => ∃ k : Nat, k ≤ nb ∧ i = .int .i64 k ∧ Hid (ptOk ps n k) ∧ Below w.heap.size w wr) (fun i _ => nb - (intOf i).toNat)
  case atStart => exact ⟨0, by omega, rfl, fun j hj => by omega, Below.refl _ _⟩
  case round =>
    obtain ⟨k, hk, rfl, hok, hw⟩ := hrel
    rename World => wr
    by_cases hlt : k < nb
    · obtain ⟨b', off, rfl, hbw, hat⟩ := (hp.below hw).at_ (by omega)
      obtain ⟨x0, x1⟩ := hat.row (i := k) (by omega)
      have hlt' : (k : Int) < (nb : Int) := by omega
      clear hat
      obtain ⟨W1, hW1⟩ : ∃ W1, W1 = wr.alloc (.cells #[.int .i64 (ptg ps k).node, .int .i64 (ptg ps k).cores] 85) := ⟨_, rfl⟩
      have B1 : Below w.heap.size w W1 := by rw [hW1]; exact hw.then box_below0 hw.size
      have HP1 : W1.cell? ⟨P, 0, none⟩ = some (.slice a n cap) := (B1.cell (p := ⟨P, 0, none⟩) lP).trans hP
      have HB : Hid (∀ e : World, Below W1.heap.size W1 e → Below w.heap.size w e) := fun e he => B1.then he B1.size
      have CP := partOk_any (ptg ps k) P a n cap W1 HP1 hn
      have y0 : W1.cell? ⟨wr.heap.size, 0, none⟩ = some (.int .i64 (ptg ps k).node) := by rw [hW1]; simp
      have y1 : W1.cell? ⟨wr.heap.size, 1, none⟩ = some (.int .i64 (ptg ps k).cores) := by rw [hW1]; simp
      clear HP1 B1
      rcases q : pOk1 n (ptg ps k) with _ | _
      · have E : Hid (r = false) := HR.out.trans (poB2_no fun q9 => by have := pOk1_mk (q9 k hlt); rw [q] at this; cases this)
        rw [q] at CP
        go_upto_region 4 with fail
        rw [← hW1]
        clear hW1 x0 x1
        go_wp2_with (go_at_call 100; refine CP.mono ?_; rintro e w' ⟨rfl, hb⟩; have HB1 := HB.out _ hb)
        go_ret
        exact ⟨by rw [E.out]; rfl, HB1⟩
      · have N : Hid (ptOk ps n (k + 1)) := fun j hj => by
          by_cases e : j = k
          · subst e; exact pOk1_t q
          · exact hok.out j (by omega)
        rw [q] at CP
        go_upto_region 4 with fail
        rw [← hW1]
        clear hW1 x0 x1
        go_wp2_with (go_at_call 100; refine CP.mono ?_; rintro e w' ⟨rfl, hb⟩; have HB1 := HB.out _ hb)
        go_roundw
        case rel => exact ⟨k + 1, by omega, by go_num, N, HB1⟩
        case measure => simp [intOf]; omega
    · obtain rfl : k = nb := by omega
      have E : Hid (r = true) := HR.out.trans (poB2_mk hok.out)
      have hnn : ¬ (k : Int) < (k : Int) := by omega
      go_wp2
      go_ret
      exact ⟨by rw [E.out]; rfl, hw⟩

end Go.Proofs.YtdgfkcobhhlfbaaGreat

/- The program's chapter 11, sixth part: usedWith, its loop; Taken, Given. -/
namespace Go.Proofs.YtdgfkcobhhlfbaaGreat
open Go.RowKit Go.Sort

set_option maxRecDepth 8000 in
set_option maxHeartbeats 4000000 in
theorem usedWith_any (a b : Option Addr) (n cap nb capb : Nat) (u : List Int) (ps : List Pt) (sign : Int) (w : World) (h : IntS w a n cap u) (hp : PartS w b nb capb ps) (hs : sign = 1 ∨ sign = -1) (hn : n ≤ 2000000) (hnb : nb ≤ 2000000) :
    Calls Tryz.prog 87 #[.slice a n cap, .slice b nb capb, .int .i64 sign] w fun e w' => ∃ (v : Option Addr) (n' c' : Nat), e = .returned (.slice v n' c') ∧ LInt w' w.heap.size v n' c' (wuF u ps sign) ∧ Below w.heap.size w w' := by
  have hlen := h.len
  have hmx := h.mx
  have hle := h.le
  have hlenp := hp.len
  have hmxp := hp.mx
  have hlep := hp.le
  obtain ⟨an, han⟩ : ∃ an, an = wuF u ps sign := ⟨_, rfl⟩
  have HA : Hid (an = wuF u ps sign) := han
  rw [← han]
  clear han
  obtain ⟨W0, hW0⟩ : ∃ W0, W0 = w.alloc (.cells #[.slice a n cap] 67) := ⟨_, rfl⟩
  have B0 : Below w.heap.size w W0 := by rw [hW0]; exact box_below0
  have p0 : W0.cell? ⟨w.heap.size, 0, none⟩ = some (.slice a n cap) := by rw [hW0]; simp
  have z0 : w.heap.size < W0.heap.size := by rw [hW0]; simp
  have CC := cnt_any a n cap u W0 (h.below B0)
  rcases q1 : cntB u n with _ | _
  · have E : Hid (an = []) := HA.out.trans (by
      unfold wuF
      rw [if_neg]
      intro h9
      obtain ⟨h1, _⟩ : uoB u u.length = true ∧ poB2 ps u.length ps.length = true := by simpa using h9
      exact cntB_f q1 (cntTo_use.2 (by rw [← hlen]; exact uoB_t h1)))
    rw [q1] at CC
    go_enter Tryz.func87, Tryz.ntmps87
    go_upto_region 1 with fail
    rw [← hW0]
    clear hW0
    go_wp2_with (go_at_call 102; refine CC.mono ?_; rintro e w' ⟨rfl, hq⟩; have hq' := hq.symm; clear hq; subst hq')
    go_ret
    exact ⟨_, _, _, rfl, by rw [E.out]; exact ⟨rfl, Or.inl ⟨rfl, rfl, rfl⟩⟩, B0⟩
  · have CP := eachPart_any b nb capb ps w.heap.size a n cap W0 (hp.below B0) p0 hn
    rcases q2 : poB2 ps n nb with _ | _
    · have E : Hid (an = []) := HA.out.trans (by
        unfold wuF
        rw [if_neg]
        intro h9
        obtain ⟨_, h1⟩ : uoB u u.length = true ∧ poB2 ps u.length ps.length = true := by simpa using h9
        rw [hlen, hlenp, q2] at h1; cases h1)
      rw [q1] at CC
      rw [q2] at CP
      go_enter Tryz.func87, Tryz.ntmps87
      go_upto_region 1 with fail
      rw [← hW0]
      clear hW0
      go_wp2_with (first | (go_at_call 102; refine CC.mono ?_; rintro e w' ⟨rfl, hq⟩; have hq' := hq.symm; clear hq; subst hq') | (go_at_call 103; refine CP.mono ?_; rintro e w1 ⟨rfl, hb1⟩; have V1 := B0.then hb1 B0.size))
      go_ret
      exact ⟨_, _, _, rfl, by rw [E.out]; exact ⟨rfl, Or.inl ⟨rfl, rfl, rfl⟩⟩, V1⟩
    · have huo : useOk u u.length := by rw [hlen]; exact cntTo_use.1 (cntB_t q1)
      have hpo : ptOk ps u.length nb := by rw [hlen]; exact poB2_t q2
      have E : Hid (an = wuK u ps sign nb) := HA.out.trans (by
        unfold wuF
        rw [if_pos, hlenp]
        rw [uoB_mk huo, hlenp, poB2_mk hpo]; rfl)
      have HUO : Hid (useOk u u.length) := huo
      have HPO : Hid (ptOk ps u.length nb) := hpo
      clear huo hpo
      rw [q1] at CC
      rw [q2] at CP
      have HP : Hid (∀ W, Below w.heap.size w W → PartS W b nb capb ps) := fun W hW => hp.below hW
      have HI : Hid (∀ W, Below w.heap.size w W → IntS W a n cap u) := fun W hW => h.below hW
      clear q1 q2 h hp
      go_enter Tryz.func87, Tryz.ntmps87
      go_upto_region 1 with fail
      rw [← hW0]
      clear hW0
      go_upto_region 4 with (first | (go_at_call 102; refine CC.mono ?_; rintro e w' ⟨rfl, hq⟩; have hq' := hq.symm; clear hq; subst hq') | (go_at_call 103; refine CP.mono ?_; rintro e w1 ⟨rfl, hb1⟩))
      clear CC CP
      have V1 := B0.then hb1 B0.size
      have p1 : w1.cell? ⟨w.heap.size, 0, none⟩ = some (.slice a n cap) := (hb1.cell (p := ⟨w.heap.size, 0, none⟩) z0).trans p0
      have z1 : w.heap.size < w1.heap.size := Nat.lt_of_lt_of_le z0 hb1.size
      obtain ⟨W2, hW2⟩ : ∃ W2, W2 = w1.alloc (.cells (madeCells #[.int .i64 0] n) 2) := ⟨_, rfl⟩
      have V2 : Below w.heap.size w W2 := by rw [hW2]; exact V1.then box_below0 V1.size
      have p2 : W2.cell? ⟨w.heap.size, 0, none⟩ = some (.slice a n cap) := by rw [hW2]; exact (World.cell?_alloc_lt _ _ _ z1).trans p1
      have hmk := run_make2M n hn w1
      obtain ⟨w3, hcp, I3, ho⟩ := run_copy_ints (w := W2) 3 w1.heap.size n cap a u (HI.out _ V2) (madeCells #[.int .i64 0] n) (by rw [hW2]; exact heap_alloc_new _ _) (by simp [madeCells])
      have V3 : Below w.heap.size w w3 := V2.trans (ho.below (Nat.le_of_lt z1))
      have HI3 : Hid (IntB w3 w1.heap.size n u) := I3
      rw [← hW2] at hmk
      clear hW2 ho V2 I3 p0 z0 B0 hb1
      generalize w1.heap.size = g at hmk hcp HI3 z1
      go_wp2
      clear hmk hcp p1 p2 V1
      go_loopw [29] (fun i wr => ∃ k : Nat, k ≤ nb ∧ i = .int .i64 k ∧ Hid (IntB wr g n (wuK u ps sign k)) ∧ Below w.heap.size w wr) (fun i _ => nb - (intOf i).toNat)
      case atStart => exact ⟨0, by omega, rfl, HI3.out, V3⟩
      case round =>
        obtain ⟨k, hk, rfl, HIq, hwq⟩ := hrel
        rename World => wq
        clear HI3 V3
        by_cases hlt2 : k < nb
        · have hlt2' : (k : Int) < (nb : Int) := by omega
          obtain ⟨b1, off1, rfl, hbw1, hat1⟩ := (HP.out _ hwq).at_ (by omega)
          obtain ⟨x0, x1⟩ := hat1.row (i := k) (by omega)
          clear hat1
          obtain ⟨⟨n0, n1⟩, c0, c1⟩ := HPO.out k hlt2
          have bd := wuK_bd (sign := sign) hs HUO.out k (fun j hj => HPO.out j (by omega))
          have Hbd : Hid _ := bd
          clear bd
          have HS : Hid (wuK u ps sign (k + 1) = (wuK u ps sign k).set (ptg ps k).node.toNat (zg (wuK u ps sign k) (ptg ps k).node.toNat + sign * (ptg ps k).cores)) := rfl
          have hol : (wuK u ps sign k).length = n := (wuK_len k).trans hlen
          generalize wuK u ps sign k = o at HIq Hbd HS hol
          obtain ⟨pn, hpn⟩ : ∃ pn, pn = (ptg ps k).node := ⟨_, rfl⟩
          obtain ⟨pc, hpc⟩ : ∃ pc, pc = (ptg ps k).cores := ⟨_, rfl⟩
          rw [← hpn] at n0 n1 HS x0
          rw [← hpc] at c0 c1 HS x1
          clear hpn hpc
          obtain ⟨m, rfl⟩ : ∃ m : Nat, pn = m := ⟨pn.toNat, by omega⟩
          have hm : m < n := by omega
          have hob := Hbd.out m (by omega)
          rw [Int.toNat_natCast] at HS
          have hv9 : -2200000000000000 ≤ zg o m + sign * pc ∧ zg o m + sign * pc ≤ 2200000000000000 := by
            have h9 : 1073741824 * ((k : Int) + 1) ≤ 1073741824 * 2000001 := by omega
            rcases hs with rfl | rfl <;> omega
          have wm : IntKind.i64.wrap (sign * pc) = sign * pc := by
            have hm9 : -1073741824 ≤ sign * pc ∧ sign * pc ≤ 1073741824 := by rcases hs with rfl | rfl <;> omega
            rw [IntKind.wrap_i64]; omega
          have wa : IntKind.i64.wrap (zg o m + sign * pc) = zg o m + sign * pc := by rw [IntKind.wrap_i64]; omega
          obtain ⟨W1, hW1⟩ : ∃ W1, W1 = wq.alloc (.cells #[.int .i64 (m : Int), .int .i64 pc] 85) := ⟨_, rfl⟩
          have B1 : Below w.heap.size w W1 := by rw [hW1]; exact hwq.alloc hwq.size _
          have I1 : IntB W1 g n o := by rw [hW1]; exact HIq.out.below box_below0
          have K1 : W1.heap[wq.heap.size]? = some (.cells #[.int .i64 (m : Int), .int .i64 pc] 85 (0, 0)) := by rw [hW1]; exact heap_alloc_new _ _
          have hgq : g < wq.heap.size := HIq.out.lt
          go_upto_region 9 with fail
          rw [← hW1]
          clear hW1 x0 x1
          have y0 : W1.cell? ⟨wq.heap.size, 0, none⟩ = some (.int .i64 (m : Int)) := by simp [World.cell?, K1]
          have y1 : W1.cell? ⟨wq.heap.size, 1, none⟩ = some (.int .i64 pc) := by simp [World.cell?, K1]
          have z0 := I1.cell hm
          have zf := I1.free1 m
          have hmk : (m : Int) < (n : Int) := by omega
          have I2 : IntB (W1.setCell ⟨g, m, none⟩ (.int .i64 (zg o m + sign * pc))) g n (o.set m (zg o m + sign * pc)) := I1.put1 (by omega) hm _
          have HI2 : Hid (IntB (W1.setCell ⟨g, m, none⟩ (.int .i64 (zg o m + sign * pc))) g n (wuK u ps sign (k + 1))) := by unfold Hid; rw [HS.out]; exact I2
          have BF : Hid (Below w.heap.size w (W1.setCell ⟨g, m, none⟩ (.int .i64 (zg o m + sign * pc)))) := B1.setCell (show w.heap.size ≤ g by omega) _
          clear I2 K1
          have HE : Hid (∀ W : World, (W = W1.setCell ⟨g, m, none⟩ (.int .i64 (zg o m + sign * pc)) ∨ W = (W1.setCell ⟨g, m, none⟩ (.int .i64 (zg o m + sign * pc))).drew) → Hid (IntB W g n (wuK u ps sign (k + 1))) ∧ Below w.heap.size w W) := by
            rintro W (rfl | rfl)
            · exact ⟨HI2.out, BF.out⟩
            · exact ⟨HI2.out.below (Below.refl _ _).drew, BF.out.drew⟩
          go_region
          all_goals
            go_wp2
            go_roundw
            case rel => first | exact ⟨k + 1, by omega, by go_num, HE.out _ (Or.inr rfl)⟩ | exact ⟨k + 1, by omega, by go_num, HE.out _ (Or.inl rfl)⟩
            case measure => simp [intOf]; omega
        · obtain rfl : k = nb := by omega
          have hlt2' : ¬ (k : Int) < (k : Int) := by omega
          go_wp2
          go_ret
          exact ⟨_, _, _, rfl, by rw [E.out]; exact ⟨(hlen.symm.trans (wuK_len k).symm), Or.inr ⟨g, rfl, Nat.le_of_lt z1, HIq.out, Nat.le_refl _, by unfold maxLen; omega⟩⟩, hwq⟩

theorem implTaken_any (a b : Option Addr) (n cap nb capb : Nat) (u : List Int) (ps : List Pt) (w : World) (h : IntS w a n cap u) (hp : PartS w b nb capb ps) (_hnil : a = none → cap = 0) (hn : n ≤ 2000000) (hnb : nb ≤ 2000000) :
    Calls Tryz.prog 78 #[.slice a n cap, .slice b nb capb] w fun e w' => ∃ (v : Option Addr) (c' : Nat), e = .returned (.slice v ((chF u ps 1).getD []).length c') ∧ LInt w' w.heap.size v ((chF u ps 1).getD []).length c' ((chF u ps 1).getD []) ∧ Below w.heap.size w w' := by
  have E : (chF u ps 1).getD [] = wuF u ps 1 := by
    rcases q : (uoB u u.length && poB2 ps u.length ps.length) with _ | _
    · rw [chF_no q]; unfold wuF; rw [q]; rfl
    · rw [chF_is (Or.inl rfl) q (wuK_pos q)]; unfold wuF; rw [if_pos q]; rfl
  rw [E]
  clear E
  obtain ⟨zz, hzz⟩ : ∃ zz, zz = wuF u ps 1 := ⟨_, rfl⟩
  have CU := usedWith_any a b n cap nb capb u ps 1 w h hp (Or.inl rfl) hn hnb
  rw [← hzz] at CU ⊢
  clear hzz
  go_enter Tryz.func78, Tryz.ntmps78
  go_wp2_with (go_at_call 87; refine CU.mono ?_; rintro e w1 ⟨v, n', c', rfl, hL, hb1⟩; obtain rfl := hL.1)
  go_ret
  exact ⟨v, c', rfl, hL, hb1⟩

end Go.Proofs.YtdgfkcobhhlfbaaGreat

/- The program's chapter 11, second part: UsedOk, Ready. -/
namespace Go.Proofs.YtdgfkcobhhlfbaaGreat
open Go.RowKit Go.Sort

set_option maxHeartbeats 2000000 in
theorem implUsedOk_any (a a2 : Option Addr) (n cap n2 cap2 : Nat) (l : List Nd) (u : List Int) (w : World) (h : NodeS w a n cap l) (h2 : IntS w a2 n2 cap2 u) :
    Calls Tryz.prog 64 #[.slice a n cap, .slice a2 n2 cap2] w fun e w' => e = .returned (.bool (usB l u)) ∧ Below w.heap.size w w' := by
  have hlen := h.len
  have hlen2 := h2.len
  have hmx := h.mx
  have hle := h.le
  unfold maxLen at hmx
  obtain ⟨r, hr⟩ : ∃ r, r = usB l u := ⟨_, rfl⟩
  have HR : Hid (r = usB l u) := hr
  rw [← hr]
  clear hr
  have hmo : Tryz.prog.follows .mixedOrders = true := by kernel_rfl
  rcases hq : nsB l with _ | _
  · have E : Hid (r = false) := HR.out.trans (usB_ns hq)
    go_enter Tryz.func64, Tryz.ntmps64
    go_wp2_with (go_at_call 40; refine (implNodesOk_any a n cap l _ h).mono ?_; rw [hq]; rintro e w1 ⟨rfl, hb1⟩)
    go_ret
    exact ⟨by rw [E.out]; rfl, hb1⟩
  · have ns := nsB_t hq
    have hn8 := ns.n2
    by_cases hl : n2 = n
    · subst hl
      have hnn : ((n2 : Int) != (n2 : Int)) = false := by simp
      go_enter Tryz.func64, Tryz.ntmps64
      go_wp2_with (go_at_call 40; refine (implNodesOk_any a n2 cap l _ h).mono ?_; rw [hq]; rintro e w1 ⟨rfl, hb1⟩)
      clear hq
      go_loopw [19] (fun i wr => ∃ k : Nat, k ≤ n2 ∧ i = .int .i64 k ∧ Hid (∀ j, j < k → 0 ≤ zg u j ∧ zg u j ≤ (ndg l j).cores) ∧ Below w.heap.size w wr) (fun i _ => n2 - (intOf i).toNat)
      case atStart => exact ⟨0, by omega, rfl, fun j hj => by omega, hb1⟩
      case round =>
        obtain ⟨k, hk, rfl, hok, hw⟩ := hrel
        rename World => wr
        by_cases hlt : k < n2
        · obtain ⟨b, off, rfl, hbw, hat⟩ := (h.below hw).at_ (by omega)
          obtain ⟨b2, off2, rfl, hbw2, hat2⟩ := (h2.below hw).at_ (by omega)
          obtain ⟨x0, x1⟩ := hat.row (i := k) (by omega)
          have z0 := hat2 k hlt
          have hlt' : (k : Int) < (n2 : Int) := by omega
          clear hat hat2
          obtain ⟨W1, hW1⟩ : ∃ W1, W1 = wr.alloc (.cells #[.int .i64 (ndg l k).cores, .int .i64 (ndg l k).state] 70) := ⟨_, rfl⟩
          have B1 : Below w.heap.size w W1 := by rw [hW1]; exact hw.then box_below0 hw.size
          have y0 : W1.cell? ⟨wr.heap.size, 0, none⟩ = some (.int .i64 (ndg l k).cores) := by rw [hW1]; simp
          have z1 : W1.cell? ⟨b2, off2 + k, none⟩ = some (.int .i64 (zg u k)) := by rw [hW1]; exact (World.cell?_alloc_lt _ _ _ (by exact hbw2)).trans z0
          have CI : ∀ W, Calls Tryz.prog 39 #[.int .i64 (zg u k), .int .i64 0, .int .i64 (ndg l k).cores] W fun e w' => e = .returned (.bool (inB (zg u k) 0 (ndg l k).cores)) ∧ w' = W := fun W => within_any _ _ _ _
          go_upto_region 6 with fail
          rw [← hW1]
          clear hW1 x0 x1 z0
          rcases q1 : inB (zg u k) 0 (ndg l k).cores with _ | _
          · have E : Hid (r = false) := HR.out.trans (usB_no fun q => by have := q.us k (by omega); have := nin_f q1; omega)
            rw [q1] at CI
            go_quiet ((go_at_call 39; exact Calls.quiet_of_same (CI _)))
            go_wp2
            go_ret
            exact ⟨by rw [E.out]; rfl, B1.drewN _⟩
          · have N : Hid (∀ j, j < k + 1 → 0 ≤ zg u j ∧ zg u j ≤ (ndg l j).cores) := fun j hj => by
              by_cases e : j = k
              · subst e; exact nin_t q1
              · exact hok.out j (by omega)
            rw [q1] at CI
            go_quiet ((go_at_call 39; exact Calls.quiet_of_same (CI _)))
            go_wp2
            go_roundw
            case rel => exact ⟨k + 1, by omega, by go_num, N, B1.drewN _⟩
            case measure => simp [intOf]; omega
        · obtain rfl : k = n2 := by omega
          have E : Hid (r = true) := HR.out.trans (usB_mk ⟨ns, by omega, fun i hi => hok.out i (by omega)⟩)
          have hnn : ¬ (k : Int) < (k : Int) := by omega
          go_wp2
          go_ret
          exact ⟨by rw [E.out]; rfl, hw⟩
    · have E : Hid (r = false) := HR.out.trans (usB_len (by omega))
      have hnn : ((n2 : Int) != (n : Int)) = true := by simp; omega
      go_enter Tryz.func64, Tryz.ntmps64
      go_wp2_with (go_at_call 40; refine (implNodesOk_any a n cap l _ h).mono ?_; rw [hq]; rintro e w1 ⟨rfl, hb1⟩)
      go_ret
      exact ⟨by rw [E.out]; rfl, hb1⟩

end Go.Proofs.YtdgfkcobhhlfbaaGreat
