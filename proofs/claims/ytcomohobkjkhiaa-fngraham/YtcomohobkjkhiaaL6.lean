/- Loads of machines: what they become, how they lie, what bounds them. -/
import Derived.Test.YtcomohobkjkhiaaInts
import Derived.Test.YtcomohobkjkhiaaHeapMath
import Derived.Test.YtcomohobkjkhiaaJobsOkI
import Derived.Test.YtcomohobkjkhiaaJOk
import Derived.Test.YtcomohobkjkhiaaEndsS
import Derived.Test.YtcomohobkjkhiaaIntRow
import Derived.Test.YtcomohobkjkhiaaSlMax
import Derived.Test.YtcomohobkjkhiaaJobQ
namespace Go.Proofs.Ytcomohobkjkhiaa
open Go.RowKit Go.Sort

/-- the loads when all is spread -/
def afterV : List Int → List Int → List Int
  | l, [] => l
  | l, p :: ps => afterV (addAt l (leastK l) p) ps
theorem afterV_snoc : ∀ (ps l : List Int) (p : Int), afterV l (ps ++ [p]) = addAt (afterV l ps) (leastK (afterV l ps)) p
  | [], _, _ => rfl
  | q :: ps, l, p => afterV_snoc ps (addAt l (leastK l) q) p
theorem spreadV_snoc : ∀ (ps l : List Int) (p : Int), spreadV l (ps ++ [p]) = spreadV l ps ++ [leastK (afterV l ps)]
  | [], _, _ => rfl
  | q :: ps, l, p => by
    show leastK l :: spreadV (addAt l (leastK l) q) (ps ++ [p]) = _
    rw [spreadV_snoc ps (addAt l (leastK l) q) p]; rfl
theorem afterV_len : ∀ (ps l : List Int), (afterV l ps).length = l.length
  | [], _ => rfl
  | q :: ps, l => by rw [afterV, afterV_len ps, addAt_len]

/-- no load is below nothing, none above c -/
def LdOk (l : List Int) (c : Int) : Prop := ∀ i, 0 ≤ l.getD i 0 ∧ l.getD i 0 ≤ c
theorem LdOk.rep (m : Nat) : LdOk (List.replicate m 0) 0 := fun i => by rw [rep_at]; omega
theorem LdOk.add {l : List Int} {c p : Int} {k : Nat} (h : LdOk l c) (hk : k < l.length) (h0 : 0 ≤ p) : LdOk (addAt l k p) (c + p) := fun i => by
  rw [addAt_at _ _ _ _ hk]
  have := h i
  split <;> omega
theorem LdOk.mono {l : List Int} {c d : Int} (h : LdOk l c) (hd : c ≤ d) : LdOk l d := fun i => ⟨(h i).1, Int.le_trans (h i).2 hd⟩
theorem LdOk.most {l : List Int} {c : Int} (h : LdOk l c) (hc : 0 ≤ c) : mostV l ≤ c := mostV_le.2 ⟨hc, fun i _ => (h i).2⟩
theorem LdOk.after : ∀ (ps l : List Int) (c : Int), LdOk l c → 1 ≤ l.length → (∀ p ∈ ps, 0 ≤ p ∧ p ≤ 10000) → LdOk (afterV l ps) (c + 10000 * (ps.length : Int))
  | [], l, c, h, _, _ => h.mono (by simp)
  | p :: ps, l, c, h, hl, hp => by
    have h1 := hp p List.mem_cons_self
    have := LdOk.after ps (addAt l (leastK l) p) (c + p) (h.add (leastK_lt (by omega)) h1.1) (by rw [addAt_len]; exact hl) (fun q hq => hp q (List.mem_cons_of_mem _ hq))
    exact this.mono (by rw [List.length_cons]; push_cast; omega)

/-- what was added and is taken away again -/
theorem addAt_back {l : List Int} {k : Nat} {p : Int} (hk : k < l.length) : addAt (addAt l k p) k (-p) = l := by
  apply List.ext_getElem
  · rw [addAt_len, addAt_len]
  · intro i h1 h2
    have e1 := addAt_at (addAt l k p) k (-p) i (by rw [addAt_len]; exact hk)
    rw [addAt_at l k p i hk] at e1
    rw [List.getD_eq_getElem?_getD, List.getElem?_eq_getElem h1, List.getD_eq_getElem?_getD, List.getElem?_eq_getElem h2] at e1
    simp only [Option.getD_some] at e1
    rw [e1]
    split <;> omega

theorem LdB.add {w : World} {B : Nat} {l : List Int} (h : LdB w B l) (k : Nat) (p : Int) : LdB (w.setCell ⟨B, k, none⟩ (.int .i64 (zg l k + p))) B (addAt l k p) := by
  rw [zg_getD]; exact h.set k _

/-- may these machines share these jobs -/
noncomputable def shB (ls : List Jb) (m : Int) : Bool := jsB ls && inB m 1 10
def longs (ls : List Jb) : List Int := ls.map (·.long)
theorem longs_len (ls : List Jb) : (longs ls).length = ls.length := by simp [longs]
theorem longs_succ {ls : List Jb} {k : Nat} (h : k < ls.length) : (longs ls).take (k + 1) = (longs ls).take k ++ [(jg ls k).long] := by
  rw [List.take_succ_eq_append_getElem (by simpa [longs] using h)]
  simp [longs, jg_get h]
theorem longs_bd {ls : List Jb} (h : JsOk ls) : ∀ p ∈ longs ls, 1 ≤ p ∧ p ≤ 10000 := by
  intro p hp
  obtain ⟨j, hj, rfl⟩ := List.mem_map.1 hp
  obtain ⟨i, hi, e⟩ := List.getElem_of_mem hj
  have := (h.ok i hi).1
  rw [jg_get hi, e] at this
  have := jok_bd this
  omega

set_option maxHeartbeats 1000000 in
theorem shareOk_any (a : Option Addr) (n cap : Nat) (ls : List Jb) (m : Int) (w : World) (h : JobS w a n cap ls) :
    Calls Try.prog 25 #[.slice a n cap, .int .i64 m] w fun e w' => e = .returned (.bool (shB ls m)) ∧ Below w.heap.size w w' := by
  unfold shB
  rcases hq : jsB ls with _ | _
  · rw [Bool.false_and]
    go_enter Try.func25, Try.ntmps25
    go_wp2_with (go_at_call 43; refine (implJobsOk_any a n cap ls _ h).mono ?_; rw [hq]; rintro e w1 ⟨rfl, hb1⟩)
    go_ret
    exact ⟨rfl, hb1⟩
  · rw [Bool.true_and]
    go_enter Try.func25, Try.ntmps25
    go_wp2_with (first
      | (go_at_call 43; refine (implJobsOk_any a n cap ls _ h).mono ?_; rw [hq]; rintro e w1 ⟨rfl, hb1⟩)
      | (go_at_call 38; refine (within_any _ _ _ _).mono ?_; rintro e w2 ⟨rfl, rfl⟩))
    go_ret
    exact ⟨rfl, hb1⟩

theorem shB_t {ls : List Jb} {m : Int} (h : shB ls m = true) : JsOk ls ∧ 1 ≤ m ∧ m ≤ 10 := by
  unfold shB at h
  rw [Bool.and_eq_true] at h
  have h2 := h.2
  unfold inB at h2
  exact ⟨jsB_t h.1, by simpa using h2⟩
theorem shB_mk {ls : List Jb} {m : Int} (h : jsB ls = true) (h1 : 1 ≤ m) (h2 : m ≤ 10) : shB ls m = true := by
  unfold shB inB; rw [h, Bool.true_and]; simp; omega

end Go.Proofs.Ytcomohobkjkhiaa
