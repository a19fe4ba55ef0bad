/- Several texts in one. -/
import Derived.Test.YtmaojjjdepgaeaaJobGrow
/- JobsOk, of the model and of the program; numberOf. -/
namespace Go.Proofs.Ytmaojjjdepgaeaa
open Go.RowKit Go.Sort

def jok (j : Jb) : Bool := jobB j.id j.cores j.long j.due j.wt j.rank j.at_
/-- the first k jobs are right, no two with one id -/
def jokTo (ls : List Jb) (k : Nat) : Prop := ∀ i, i < k → jok (jg ls i) = true ∧ ∀ h, h < i → (jg ls h).id ≠ (jg ls i).id
/-- right jobs -/
structure JsOk (ls : List Jb) : Prop where
  n : ls.length ≤ 40
  ok : jokTo ls ls.length
noncomputable def jsB (ls : List Jb) : Bool := @decide (JsOk ls) (Classical.propDecidable _)
theorem jsB_t {ls : List Jb} (h : jsB ls = true) : JsOk ls := @of_decide_eq_true _ (Classical.propDecidable _) h
theorem jsB_f {ls : List Jb} (h : jsB ls = false) : ¬ JsOk ls := @of_decide_eq_false _ (Classical.propDecidable _) h
theorem jsB_mk {ls : List Jb} (h : JsOk ls) : jsB ls = true := @decide_eq_true _ (Classical.propDecidable _) h
theorem jsB_no {ls : List Jb} (h : ¬ JsOk ls) : jsB ls = false := @decide_eq_false _ (Classical.propDecidable _) h

theorem jokTo_succ {ls : List Jb} {k : Nat} (h : jokTo ls k) (g : jok (jg ls k) = true) (d : ∀ h, h < k → (jg ls h).id ≠ (jg ls k).id) : jokTo ls (k + 1) := by
  intro i hi
  by_cases e : i = k
  · subst e; exact ⟨g, d⟩
  · exact h i (by omega)

/-- r is where the first of the first n jobs with this id stands, -1 where there is none -/
def IsNum (ls : List Jb) (n : Nat) (id r : Int) : Prop :=
  (r = -1 ∧ ∀ i, i < n → (jg ls i).id ≠ id) ∨ ∃ k : Nat, r = k ∧ k < n ∧ (jg ls k).id = id ∧ ∀ i, i < k → (jg ls i).id ≠ id

theorem IsNum.uniq {ls : List Jb} {n : Nat} {id r s : Int} (h : IsNum ls n id r) (g : IsNum ls n id s) : r = s := by
  rcases h with ⟨rfl, h1⟩ | ⟨k, rfl, h1, h2, h3⟩
  · rcases g with ⟨rfl, _⟩ | ⟨m, rfl, g1, g2, _⟩
    · rfl
    · exact absurd g2 (h1 m g1)
  · rcases g with ⟨rfl, g1⟩ | ⟨m, rfl, g1, g2, g3⟩
    · exact absurd h2 (g1 k h1)
    · have e : k = m := by
        rcases Nat.lt_trichotomy k m with h | h | h
        · exact absurd h2 (g3 k h)
        · exact h
        · exact absurd g2 (h3 m h)
      rw [e]

theorem JobS.pre {w : World} {a : Option Addr} {n cap : Nat} {ls : List Jb} (h : JobS w a n cap ls) {m : Nat} (hm : m ≤ n) : JobS w a m cap (ls.take m) := by
  have hl := h.len
  have e : ∀ i, i < m → jg (ls.take m) i = jg ls i := fun i hi => by simp [jg, hi]
  refine ⟨by simp; omega, Nat.le_trans hm h.le, h.mx, h.nil, fun i hi => by rw [e i hi]; exact h.wf i (by omega), fun h0 => ?_⟩
  obtain ⟨b, off, ha, hb, hat⟩ := h.at_ (by omega)
  refine ⟨b, off, ha, hb, fun i hi c hc => ?_⟩
  have hi' : i < m := by have : (ls.take m).length = m := by simp; omega
                         omega
  rw [e i hi']
  exact hat i (by omega) c hc

set_option maxHeartbeats 1000000 in
theorem implJobOk_grow (i c l d t r a : Int) (w : World) :
    Calls Try.prog 111 #[.agg #[.int .i64 i, .int .i64 c, .int .i64 l, .int .i64 d, .int .i64 t, .int .i64 r, .int .i64 a]] w fun e w' => e = .returned (.bool (jobB i c l d t r a)) ∧ ∃ q os', w' = grow (w.drewN q) os' := by
  have hw : ∀ o, ∃ q os', w.alloc o = grow (w.drewN q) os' := fun o => by rw [alloc_eq_grow]; exact ⟨0, _, rfl⟩
  rcases h0 : inB i 1 1000000 with _ | _
  · have E : jobB i c l d t r a = false := by unfold jobB; simp [h0]
    rw [E]; clear E
    go_enter Try.func111, Try.ntmps111
    go_wp2_with (first | (go_at_call 68; refine (within_any _ _ _ _).mono ?_; rintro e w' ⟨rfl, rfl⟩) | (go_at_call 118; refine (implOk_any _ _).mono ?_; rintro e w' ⟨rfl, rfl⟩))
    go_ret
    exact ⟨rfl, hw _⟩
  rcases h1 : inB c 1 1000 with _ | _
  · have E : jobB i c l d t r a = false := by unfold jobB; simp [h1]
    rw [E]; clear E
    go_enter Try.func111, Try.ntmps111
    go_wp2_with (first | (go_at_call 68; refine (within_any _ _ _ _).mono ?_; rintro e w' ⟨rfl, rfl⟩) | (go_at_call 118; refine (implOk_any _ _).mono ?_; rintro e w' ⟨rfl, rfl⟩))
    go_ret
    exact ⟨rfl, hw _⟩
  rcases h2 : inB l 1 10000 with _ | _
  · have E : jobB i c l d t r a = false := by unfold jobB; simp [h2]
    rw [E]; clear E
    go_enter Try.func111, Try.ntmps111
    go_wp2_with (first | (go_at_call 68; refine (within_any _ _ _ _).mono ?_; rintro e w' ⟨rfl, rfl⟩) | (go_at_call 118; refine (implOk_any _ _).mono ?_; rintro e w' ⟨rfl, rfl⟩))
    go_ret
    exact ⟨rfl, hw _⟩
  rcases h3 : okB d with _ | _
  · have E : jobB i c l d t r a = false := by unfold jobB; simp [h3]
    rw [E]; clear E
    go_enter Try.func111, Try.ntmps111
    go_wp2_with (first | (go_at_call 68; refine (within_any _ _ _ _).mono ?_; rintro e w' ⟨rfl, rfl⟩) | (go_at_call 118; refine (implOk_any _ _).mono ?_; rintro e w' ⟨rfl, rfl⟩))
    go_ret
    exact ⟨rfl, hw _⟩
  rcases h4 : inB t 0 1000 with _ | _
  · have E : jobB i c l d t r a = false := by unfold jobB; simp [h4]
    rw [E]; clear E
    go_enter Try.func111, Try.ntmps111
    go_wp2_with (first | (go_at_call 68; refine (within_any _ _ _ _).mono ?_; rintro e w' ⟨rfl, rfl⟩) | (go_at_call 118; refine (implOk_any _ _).mono ?_; rintro e w' ⟨rfl, rfl⟩))
    go_ret
    exact ⟨rfl, hw _⟩
  rcases h5 : inB r 0 9 with _ | _
  · have E : jobB i c l d t r a = false := by unfold jobB; simp [h5]
    rw [E]; clear E
    go_enter Try.func111, Try.ntmps111
    go_wp2_with (first | (go_at_call 68; refine (within_any _ _ _ _).mono ?_; rintro e w' ⟨rfl, rfl⟩) | (go_at_call 118; refine (implOk_any _ _).mono ?_; rintro e w' ⟨rfl, rfl⟩))
    go_ret
    exact ⟨rfl, hw _⟩
  rcases h6 : okB a with _ | _
  · have E : jobB i c l d t r a = false := by unfold jobB; simp [h6]
    rw [E]; clear E
    go_enter Try.func111, Try.ntmps111
    go_wp2_with (first | (go_at_call 68; refine (within_any _ _ _ _).mono ?_; rintro e w' ⟨rfl, rfl⟩) | (go_at_call 118; refine (implOk_any _ _).mono ?_; rintro e w' ⟨rfl, rfl⟩))
    go_ret
    exact ⟨rfl, hw _⟩
  have E : jobB i c l d t r a = true := by unfold jobB; simp [h0, h1, h2, h3, h4, h5, h6]
  rw [E]; clear E
  go_enter Try.func111, Try.ntmps111
  go_wp2_with (first | (go_at_call 68; refine (within_any _ _ _ _).mono ?_; rintro e w' ⟨rfl, rfl⟩) | (go_at_call 118; refine (implOk_any _ _).mono ?_; rintro e w' ⟨rfl, rfl⟩))
  go_ret
  exact ⟨rfl, hw _⟩

theorem hasId_any (i c l d t r a id : Int) (B : Nat) (w : World) (h : w.cell? ⟨B, 0, none⟩ = some (.int .i64 id)) :
    Calls Try.prog 108 #[.agg #[.int .i64 i, .int .i64 c, .int .i64 l, .int .i64 d, .int .i64 t, .int .i64 r, .int .i64 a], .pointer (some ⟨B, 0, none⟩)] w fun e w' => e = .returned (.bool (i == id)) ∧ ∃ q os', w' = grow (w.drewN q) os' := by
  have hB : B < w.heap.size := World.block_lt_of_cell? w _ h
  have hw : ∀ o, ∃ q os', w.alloc o = grow (w.drewN q) os' := fun o => by rw [alloc_eq_grow]; exact ⟨0, _, rfl⟩
  have h' : ∀ o, (w.alloc o).cell? ⟨B, 0, none⟩ = some (.int .i64 id) := fun o => by rw [World.cell?_alloc_lt _ _ _ hB]; exact h
  go_enter Try.func108, Try.ntmps108
  go_wp2
  go_ret
  exact ⟨rfl, hw _⟩

set_option maxHeartbeats 1000000 in
theorem indexFunc_any (a : Option Addr) (n cap : Nat) (ls : List Jb) (id : Int) (B : Nat) (w : World) (h : JobS w a n cap ls) (hid : w.cell? ⟨B, 0, none⟩ = some (.int .i64 id)) :
    Calls Try.prog 107 #[.slice a n cap, .func (.func 108) #[] #[.pointer (some ⟨B, 0, none⟩)]] w
      fun e w' => ∃ r : Int, e = .returned (.int .i64 r) ∧ IsNum ls n id r ∧ ∃ q os', w' = grow (w.drewN q) os' := by
  have hm := h.mx
  have hle := h.le
  have hlen := h.len
  unfold maxLen at hm
  have hB : B < w.heap.size := World.block_lt_of_cell? w _ hid
  go_enter Try.func107, Try.ntmps107
  go_wp2
  go_loopw [8] (fun i wr => ∃ k : Nat, k ≤ n ∧ i = .int .i64 k ∧ (∀ m, m < k → (jg ls m).id ≠ id) ∧ ∃ q os', wr = grow (w.drewN q) os') (fun i _ => n - (intOf i).toNat)
  case atStart => exact ⟨0, by omega, rfl, fun m hm => by omega, 0, #[], by simp; rfl⟩
  case round =>
    obtain ⟨k, hk, rfl, hno, q, os, hwr⟩ := hrel
    have hbel : Below w.heap.size w wr := by rw [hwr]; exact below_grow _ _ _
    have hidr : wr.cell? ⟨B, 0, none⟩ = some (.int .i64 id) := (hbel.cell (p := ⟨B, 0, none⟩) hB).trans hid
    have HW : Hid (wr = grow (w.drewN q) os) := hwr
    clear hwr
    by_cases hlt : k < n
    · obtain ⟨b, off, rfl, hbw, hat⟩ := h.at_ (by omega)
      obtain ⟨hc0, hc1, hc2, hc3, hc4, hc5, hc6⟩ := (hat.below hbel hbw).job (i := k) (by omega)
      have hlt' : (k : Int) < (n : Int) := by omega
      clear hbel
      by_cases hc : (jg ls k).id = id
      · have hc' : ((jg ls k).id == id) = true := by simpa using hc
        have HC : Hid ((jg ls k).id = id) := hc
        clear hc
        go_wp2_with (go_at_call 108; refine (hasId_any _ _ _ _ _ _ _ id B _ hidr).mono ?_; rw [hc']; rintro e w' ⟨rfl, q', os', rfl⟩)
        go_ret
        exact ⟨_, rfl, Or.inr ⟨k, rfl, hlt, HC.out, hno⟩, q + q', os ++ os', by rw [HW.out]; show grow (grow ((w.drewN q).drewN q') os) os' = _; rw [grow_grow, World.drewN_drewN]⟩
      · have hc' : ((jg ls k).id == id) = false := by simpa using hc
        go_wp2_with (go_at_call 108; refine (hasId_any _ _ _ _ _ _ _ id B _ hidr).mono ?_; rw [hc']; rintro e w' ⟨rfl, q', os', rfl⟩)
        go_roundw
        case rel => exact ⟨k + 1, by omega, by go_num, fun m hm => by (by_cases e : m = k; (subst e; exact hc); exact hno m (by omega)), q + q', os ++ os', by rw [HW.out]; show grow (grow ((w.drewN q).drewN q') os) os' = _; rw [grow_grow, World.drewN_drewN]⟩
        case measure => simp [intOf]; omega
    · have e : k = n := by omega
      subst e
      go_wp2
      go_ret
      exact ⟨_, rfl, Or.inl ⟨rfl, hno⟩, q, os, HW.out⟩

set_option maxHeartbeats 1000000 in
theorem numberOf_any (a : Option Addr) (n cap : Nat) (ls : List Jb) (id : Int) (w : World) (h : JobS w a n cap ls) :
    Calls Try.prog 85 #[.slice a n cap, .int .i64 id] w
      fun e w' => ∃ r : Int, e = .returned (.int .i64 r) ∧ IsNum ls n id r ∧ ∃ q os', w' = grow (w.drewN q) os' := by
  have h' : JobS (w.alloc (.cells #[.int .i64 id] 2)) a n cap ls := h.below box_below
  have hc : (w.alloc (.cells #[.int .i64 id] 2)).cell? ⟨w.heap.size, 0, none⟩ = some (.int .i64 id) := by simp
  have HG : Hid (w.alloc (.cells #[.int .i64 id] 2) = grow w #[.cells #[.int .i64 id] 2]) := alloc_eq_grow _ _
  go_enter Try.func85, Try.ntmps85
  go_wp2_with (go_at_call 107; refine (indexFunc_any a n cap ls id w.heap.size _ h' hc).mono ?_; rintro e w' ⟨r, rfl, hr, q, os, rfl⟩)
  go_ret
  exact ⟨_, rfl, hr, q, _, by rw [HG.out]; show grow (grow (w.drewN q) _) os = _; rw [grow_grow]⟩

end Go.Proofs.Ytmaojjjdepgaeaa

/- JobsOk, of the model and of the program. -/
namespace Go.Proofs.Ytmaojjjdepgaeaa
open Go.RowKit Go.Sort

theorem js_no_ok {ls : List Jb} {k : Nat} (hk : k < ls.length) (h : jok (jg ls k) = false) : jsB ls = false := jsB_no fun p => by
  have := (p.ok k hk).1; rw [h] at this; cases this
theorem js_no_id {ls : List Jb} {k m : Nat} (hk : k < ls.length) (hm : m < k) (h : (jg ls m).id = (jg ls k).id) : jsB ls = false := jsB_no fun p => (p.ok k hk).2 m hm h

theorem ok_job (x : Jb) (w : World) :
    Calls Try.prog 111 #[.agg #[.int .i64 x.id, .int .i64 x.cores, .int .i64 x.long, .int .i64 x.due, .int .i64 x.wt, .int .i64 x.rank, .int .i64 x.at_]] w fun e w' => e = .returned (.bool (jok x)) ∧ ∃ q os', w' = grow (w.drewN q) os' := implJobOk_grow _ _ _ _ _ _ _ w

set_option maxHeartbeats 1000000 in
theorem specJobsOk_any (a : Option Addr) (n cap : Nat) (ls : List Jb) (w : World) (h : JobS w a n cap ls) :
    Calls Try.prog 62 #[.slice a n cap] w fun e w' => e = .returned (.bool (jsB ls)) ∧ Below w.heap.size w w' := by
  have hm := h.mx
  have hle := h.le
  have hlen := h.len
  unfold maxLen at hm
  by_cases c1 : 40 < n
  · rw [jsB_no fun p => by have := p.n; omega]
    go_enter Try.func62, Try.ntmps62
    go_wp2
    go_ret
    exact ⟨rfl, Below.refl _ _⟩
  · go_enter Try.func62, Try.ntmps62
    go_wp2
    go_loopw [3] (fun i wr => ∃ k : Nat, k ≤ n ∧ i = .int .i64 k ∧ jokTo ls k ∧ Below w.heap.size w wr) (fun i _ => n - (intOf i).toNat)
    case atStart => exact ⟨0, by omega, rfl, fun i hi => by omega, Below.refl _ _⟩
    case round =>
      obtain ⟨k, hk, rfl, hok, hw⟩ := hrel
      by_cases hlt : k < n
      · obtain ⟨b, off, rfl, hbw, hat⟩ := h.at_ (by omega)
        obtain ⟨hc0, hc1, hc2, hc3, hc4, hc5, hc6⟩ := (hat.below hw hbw).job (i := k) (by omega)
        have hlt' : (k : Int) < (n : Int) := by omega
        rcases hj : jok (jg ls k) with _ | _
        · have E := js_no_ok (by omega) hj
          unfold jok at hj
          go_wp2_with (go_at_call 98; refine (specJobOk_any _ _ _ _ _ _ _ _).mono ?_; rw [hj]; rintro e w1 ⟨rfl, hb1⟩)
          go_ret
          exact ⟨by rw [E]; rfl, hw.then hb1 hw.size⟩
        · have HJ : Hid (jok (jg ls k) = true) := hj
          unfold jok at hj
          go_wp2_with (go_at_call 98; refine (specJobOk_any _ _ _ _ _ _ _ _).mono ?_; rw [hj]; rintro e w1 ⟨rfl, hb1⟩)
          have hw1 := hw.then hb1 hw.size
          clear hj hc0 hc1 hc2 hc3 hc4 hc5 hc6
          go_loopw [4] (fun i wr => ∃ m : Nat, m ≤ k ∧ i = .int .i64 m ∧ (∀ x, x < m → (jg ls x).id ≠ (jg ls k).id) ∧ Below w.heap.size w wr) (fun i _ => k - (intOf i).toNat)
          case atStart => exact ⟨0, by omega, rfl, fun i hi => by omega, hw1⟩
          case round =>
            obtain ⟨m, hmk, rfl, hno, hwi⟩ := hrel
            by_cases hmt : m < k
            · have hm0 := (hat.below hwi hbw) m (by omega) 0 (by omega)
              have hk0 := (hat.below hwi hbw) k (by omega) 0 (by omega)
              simp only [jc, Nat.add_zero] at hm0 hk0
              have hmt' : (m : Int) < (k : Int) := by omega
              have hmn' : (m : Int) < (n : Int) := by omega
              by_cases hc : (jg ls m).id = (jg ls k).id
              · have E := js_no_id (by omega) hmt hc
                have hc' : ((jg ls m).id == (jg ls k).id) = true := by simpa using hc
                clear hc
                go_wp2
                go_quiet (fail)
                go_wp2
                go_ret
                exact ⟨by rw [E]; rfl, hwi.drewN _⟩
              · have hc' : ((jg ls m).id == (jg ls k).id) = false := by simpa using hc
                go_wp2
                go_quiet (fail)
                go_wp2
                go_roundw
                case rel => exact ⟨m + 1, by omega, by go_num, fun x hx => by (by_cases e : x = m; (subst e; exact hc); exact hno x (by omega)), hwi.drewN _⟩
                case measure => simp [intOf]; omega
            · have e : m = k := by omega
              subst e
              go_wp2
              go_roundw
              case rel => exact ⟨m + 1, by omega, by go_num, jokTo_succ hok HJ.out hno, hwi⟩
              case measure => simp [intOf]; omega
      · have e : k = n := by omega
        subst e
        go_wp2
        go_ret
        exact ⟨by rw [jsB_mk ⟨by omega, by rw [hlen]; exact hok⟩]; rfl, hw⟩

end Go.Proofs.Ytmaojjjdepgaeaa
