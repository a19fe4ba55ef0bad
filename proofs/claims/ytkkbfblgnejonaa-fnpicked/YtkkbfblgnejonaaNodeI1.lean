/- The program's chapter 11, first part: standing, each, NodesOk, UsedOk, Ready. -/
import Derived.Test.YtkkbfblgnejonaaNodeCh
import Derived.Test.YtkkbfblgnejonaaNodePk
namespace Go.Proofs.Ytkkbfblgnejonaa
open Go.RowKit Go.Sort

theorem standing_any (s : Int) (w : World) :
    Calls Try.prog 65 #[.int .i64 s] w fun e w' => e = .returned (.tuple #[.bool (decide (s = 1)), .bool (inB s 1 3)]) ∧ w' = w := by
  by_cases h1 : s = 1
  · subst h1
    go_enter Try.func65, Try.ntmps65
    go_wp2
    go_ret2
    exact ⟨rfl, rfl⟩
  · by_cases h2 : s = 2
    · subst h2
      go_enter Try.func65, Try.ntmps65
      go_wp2
      go_ret2
      exact ⟨rfl, rfl⟩
    · by_cases h3 : s = 3
      · subst h3
        go_enter Try.func65, Try.ntmps65
        go_wp2
        go_ret2
        exact ⟨rfl, rfl⟩
      · have e1 : decide (s = 1) = false := decide_eq_false h1
        have e2 : inB s 1 3 = false := nin_no (by omega)
        rw [e1, e2]
        have g1 : (s == 1) = false := by simpa using h1
        have g2 : (s == 2) = false := by simpa using h2
        have g3 : (s == 3) = false := by simpa using h3
        clear e1 e2
        go_enter Try.func65, Try.ntmps65
        go_wp2
        go_ret2
        exact ⟨rfl, rfl⟩

theorem nodeOk_any (x : Nd) (w : World) :
    Calls Try.prog 50 #[.agg #[.int .i64 x.cores, .int .i64 x.state]] w fun e w' => e = .returned (.bool (nOk x)) ∧ Below w.heap.size w w' := by
  have B0 : Below w.heap.size w (w.alloc (.cells #[.int .i64 x.cores, .int .i64 x.state] 32)) := box_below0
  rcases q2 : inB x.state 1 3 with _ | _
  · have E : nOk x = false := by unfold nOk; rw [q2]; simp
    rw [E]; clear E
    go_enter Try.func50, Try.ntmps50
    go_wp2_with (go_at_call 65; refine (standing_any _ _).mono ?_; rw [q2]; rintro e w' ⟨rfl, rfl⟩)
    go_ret
    exact ⟨rfl, B0⟩
  · have E : nOk x = inB x.cores 1 100 := by unfold nOk; rw [q2]; simp
    rw [E]; clear E
    go_enter Try.func50, Try.ntmps50
    go_wp2_with (first | (go_at_call 65; refine (standing_any _ _).mono ?_; rw [q2]; rintro e w' ⟨rfl, rfl⟩) | (go_at_call 47; refine (within_any _ _ _ _).mono ?_; rintro e w' ⟨rfl, rfl⟩))
    go_ret
    exact ⟨rfl, B0⟩

/-- is each of them right? -/
def nsEach (l : List Nd) : Prop := ∀ i, i < l.length → nOk (ndg l i) = true
noncomputable def neB (l : List Nd) : Bool := @decide (nsEach l) (Classical.propDecidable _)
theorem neB_mk {l : List Nd} (h : nsEach l) : neB l = true := @decide_eq_true _ (Classical.propDecidable _) h
theorem neB_no {l : List Nd} (h : ¬ nsEach l) : neB l = false := @decide_eq_false _ (Classical.propDecidable _) h
theorem neB_t {l : List Nd} (h : neB l = true) : nsEach l := @of_decide_eq_true _ (Classical.propDecidable _) h

set_option maxHeartbeats 1000000 in
theorem eachNode_any (a : Option Addr) (n cap : Nat) (l : List Nd) (w : World) (h : NodeS w a n cap l) :
    Calls Try.prog 49 #[.slice a n cap, .func (.func 50) #[] #[]] w fun e w' => e = .returned (.bool (neB l)) ∧ Below w.heap.size w w' := by
  have hlen := h.len
  have hmx := h.mx
  have hle := h.le
  unfold maxLen at hmx
  obtain ⟨r, hr⟩ : ∃ r, r = neB l := ⟨_, rfl⟩
  have HR : Hid (r = neB l) := hr
  rw [← hr]
  clear hr
  go_enter Try.func49, Try.ntmps49
  go_wp2
  go_loopw [9] (fun i wr => ∃ k : Nat, k ≤ n ∧ i = .int .i64 k ∧ Hid (∀ j, j < k → nOk (ndg l j) = true) ∧ Below w.heap.size w wr) (fun i _ => n - (intOf i).toNat)
  case atStart => exact ⟨0, by omega, rfl, fun j hj => by omega, Below.refl _ _⟩
  case round =>
    obtain ⟨k, hk, rfl, hok, hw⟩ := hrel
    rename World => wr
    by_cases hlt : k < n
    · obtain ⟨b, off, rfl, hbw, hat⟩ := (h.below hw).at_ (by omega)
      obtain ⟨x0, x1⟩ := hat.row (i := k) (by omega)
      have hlt' : (k : Int) < (n : Int) := by omega
      clear hat
      have HB : Hid (∀ e : World, Below (wr.alloc (.cells #[.int .i64 (ndg l k).cores, .int .i64 (ndg l k).state] 32)).heap.size (wr.alloc (.cells #[.int .i64 (ndg l k).cores, .int .i64 (ndg l k).state] 32)) e → Below w.heap.size w e) := fun e he => (hw.then box_below0 hw.size).then he (hw.then box_below0 hw.size).size
      rcases q : nOk (ndg l k) with _ | _
      · have E : Hid (r = false) := HR.out.trans (neB_no fun q9 => by have := q9 k (by omega); rw [q] at this; cases this)
        go_wp2_with (go_at_call 50; refine (nodeOk_any _ _).mono ?_; rw [q]; rintro e w' ⟨rfl, hb⟩; have HB1 := HB.out _ hb)
        go_ret
        exact ⟨by rw [E.out]; rfl, HB1⟩
      · have N : Hid (∀ j, j < k + 1 → nOk (ndg l j) = true) := fun j hj => by
          by_cases e : j = k
          · subst e; exact q
          · exact hok.out j (by omega)
        go_wp2_with (go_at_call 50; refine (nodeOk_any _ _).mono ?_; rw [q]; rintro e w' ⟨rfl, hb⟩; have HB1 := HB.out _ hb)
        go_roundw
        case rel => exact ⟨k + 1, by omega, by go_num, N, HB1⟩
        case measure => simp [intOf]; omega
    · obtain rfl : k = n := by omega
      have E : Hid (r = true) := HR.out.trans (neB_mk fun i hi => hok.out i (by omega))
      have hnn : ¬ (k : Int) < (k : Int) := by omega
      go_wp2
      go_ret
      exact ⟨by rw [E.out]; rfl, hw⟩

theorem implNodesOk_any (a : Option Addr) (n cap : Nat) (l : List Nd) (w : World) (h : NodeS w a n cap l) :
    Calls Try.prog 21 #[.slice a n cap] w fun e w' => e = .returned (.bool (nsB l)) ∧ Below w.heap.size w w' := by
  have hlen := h.len
  have hmx := h.mx
  have hle := h.le
  unfold maxLen at hmx
  obtain ⟨r, hr⟩ : ∃ r, r = nsB l := ⟨_, rfl⟩
  have HR : Hid (r = nsB l) := hr
  rw [← hr]
  clear hr
  rcases q1 : inB (n : Int) 1 8 with _ | _
  · have E : Hid (r = false) := HR.out.trans (nsB_no fun q => by have := nin_f q1; have := q.n1; have := q.n2; omega)
    go_enter Try.func21, Try.ntmps21
    go_wp2_with (go_at_call 47; refine (within_any _ _ _ _).mono ?_; rw [q1]; rintro e w' ⟨rfl, rfl⟩)
    go_ret
    exact ⟨by rw [E.out]; rfl, Below.refl _ _⟩
  · have E : Hid (r = neB l) := by
      unfold Hid
      rw [HR.out]
      have q9 := nin_t q1
      rcases q : neB l with _ | _
      · exact nsB_no fun q8 => by rw [neB_mk q8.ok] at q; cases q
      · exact nsB_mk ⟨by omega, by omega, neB_t q⟩
    go_enter Try.func21, Try.ntmps21
    go_wp2_with (first | (go_at_call 47; refine (within_any _ _ _ _).mono ?_; rw [q1]; rintro e w' ⟨rfl, rfl⟩) | (go_at_call 49; refine (eachNode_any _ _ _ l _ h).mono ?_; rintro e w' ⟨rfl, hb⟩))
    go_ret
    exact ⟨by rw [E.out]; rfl, hb⟩

end Go.Proofs.Ytkkbfblgnejonaa
