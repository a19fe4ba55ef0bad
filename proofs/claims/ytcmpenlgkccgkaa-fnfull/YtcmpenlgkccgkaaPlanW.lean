/- Planned and Strict of the model: what begins when, or none. -/
import Derived.Test.YtcmpenlgkccgkaaPlanS
import Derived.Test.YtcmpenlgkccgkaaPlanM
import Derived.Test.YtcmpenlgkccgkaaProfOk
import Derived.Test.YtcmpenlgkccgkaaCut
import Derived.Test.YtcmpenlgkccgkaaLInt
namespace Go.Proofs.Ytcmpenlgkccgkaa
open Go.RowKit Go.Sort

/-- what Planned (st = false) and Strict (st = true) tell: none at all of what isn't right -/
noncomputable def plF (T : Int) (st : Bool) (ls : List Lev) (js : List Jb) (now : Int) : List Int :=
  if poB T ls = true ∧ jsB js = true ∧ okB now = true then staK T st ls now js js.length else []
theorem plF_t {T : Int} {st : Bool} {ls : List Lev} {js : List Jb} {now : Int} (h1 : poB T ls = true) (h2 : jsB js = true) (h3 : okB now = true) : plF T st ls js now = staK T st ls now js js.length := if_pos ⟨h1, h2, h3⟩
theorem plF_p {T : Int} {st : Bool} {ls : List Lev} {js : List Jb} {now : Int} (h : poB T ls = false) : plF T st ls js now = [] := if_neg fun q => by rw [h] at q; cases q.1
theorem plF_j {T : Int} {st : Bool} {ls : List Lev} {js : List Jb} {now : Int} (h : jsB js = false) : plF T st ls js now = [] := if_neg fun q => by rw [h] at q; cases q.2.1
theorem plF_n {T : Int} {st : Bool} {ls : List Lev} {js : List Jb} {now : Int} (h : okB now = false) : plF T st ls js now = [] := if_neg fun q => by rw [h] at q; cases q.2.2

/-- the call's own row of what is told -/
def OwnR (w' : World) (B : Nat) (v : Value) (ss : List Int) : Prop := w'.ownsRow B 2 1 v ss.length (ss.map (Value.int .i64))
theorem OwnR.toL {w : World} {B : Nat} {v : Value} {ss : List Int} (h : OwnR w B v ss) : ∃ a c, v = .slice a ss.length c ∧ LInt w B a ss.length c ss := by
  have h' : w.ownsRow B 2 1 v ss.length (ss.map (Value.int .i64)) := h
  rcases h'.2 with ⟨e, h0⟩ | ⟨g, c, cur, e, _⟩
  · have hs : ss = [] := List.eq_nil_of_length_eq_zero h0
    subst hs
    exact ⟨none, 0, e, rfl, Or.inl ⟨rfl, rfl, rfl⟩⟩
  · subst e
    exact ⟨some ⟨g, 0, none⟩, c, rfl, LInt.own h'⟩
theorem own_no {W : World} {B : Nat} (h : B ≤ W.heap.size) : OwnR (W.alloc (.cells #[] 2)) B (.slice (some ⟨W.heap.size, 0, none⟩) 0 0) [] := by
  have := World.ownsRow_made W #[] 0 (base := B) (e := 2) (size := 1) h (Nat.zero_le _) rfl
  unfold OwnR
  simpa using this

set_option maxRecDepth 8000 in
set_option maxHeartbeats 2000000 in
theorem specPlanned_any (T now : Int) (a b : Option Addr) (n cap nb capb : Nat) (ls : List Lev) (js : List Jb) (w : World) (h : LevS w a n cap ls) (hjs : JobS w b nb capb js) :
    Calls Try.prog 29 #[.agg #[.int .i64 T, .slice a n cap], .slice b nb capb, .int .i64 now] w fun e w' => ∃ v, e = .returned v ∧ OwnR w' w.heap.size v (plF T false ls js now) ∧ Below w.heap.size w w' := by
  have hlenb := hjs.len
  obtain ⟨w0, hw0⟩ : ∃ w0, w0 = w.alloc (.cells #[.int .i64 T, .slice a n cap] 38) := ⟨_, rfl⟩
  have B0 : Below w.heap.size w w0 := by rw [hw0]; exact box_below
  have bx0 : w0.heap[w.heap.size]? = some (.cells #[.int .i64 T, .slice a n cap] 38 (0, 0)) := by rw [hw0]; exact heap_alloc_new _ _
  have z0 : w.heap.size < w0.heap.size := lt_of_block bx0
  have HW0 : Hid (w0 = w.alloc (.cells #[.int .i64 T, .slice a n cap] 38)) := hw0
  have HB0 : Hid _ := bx0
  clear hw0 bx0
  obtain ⟨r, hr⟩ : ∃ r, r = plF T false ls js now := ⟨_, rfl⟩
  have HR : Hid (r = plF T false ls js now) := hr
  rw [← hr]
  clear hr
  go_enter Try.func29, Try.ntmps29
  go_wp2_with fail
  rw [← HW0.out]
  refine (specProfileOk_any T a n cap ls _ (h.below B0)).mono ?_
  rintro e w1 ⟨e1, hb1⟩
  have B1 : Below w.heap.size w w1 := B0.then hb1 B0.size
  have HB1 : Hid _ := (hb1.block _ z0).trans HB0.out
  have z1 : w.heap.size < w1.heap.size := lt_of_block HB1.out
  rcases hp : poB T ls with _ | _
  · have HE : Hid _ := plF_p (T := T) (st := false) (ls := ls) (js := js) (now := now) hp
    rw [hp] at e1
    subst e1
    go_wp2
    go_ret
    exact ⟨_, rfl, by rw [HR.out, HE.out]; exact own_no B1.size, B1.alloc B1.size _⟩
  rw [hp] at e1
  subst e1
  go_wp2_with fail
  refine (specJobsOk_any b nb capb js _ (hjs.below B1)).mono ?_
  rintro e w2 ⟨e2, hb2⟩
  have B2 : Below w.heap.size w w2 := B1.then hb2 B1.size
  have HB2 : Hid _ := (hb2.block _ z1).trans HB1.out
  have z2 : w.heap.size < w2.heap.size := lt_of_block HB2.out
  rcases hq : jsB js with _ | _
  · have HE : Hid _ := plF_j (T := T) (st := false) (ls := ls) (js := js) (now := now) hq
    rw [hq] at e2
    subst e2
    go_wp2
    go_ret
    exact ⟨_, rfl, by rw [HR.out, HE.out]; exact own_no B2.size, B2.alloc B2.size _⟩
  rw [hq] at e2
  subst e2
  go_wp2_with fail
  refine (specOk_any _ _).mono ?_
  rintro e w3 ⟨e3, rfl⟩
  rcases ho : okB now with _ | _
  · have HE : Hid _ := plF_n (T := T) (st := false) (ls := ls) (js := js) (now := now) ho
    rw [ho] at e3
    subst e3
    go_wp2
    go_ret
    exact ⟨_, rfl, by rw [HR.out, HE.out]; exact own_no B2.size, B2.alloc B2.size _⟩
  rw [ho] at e3
  subst e3
  have hov := okB_t ho
  have PL : PlOk T ls now := ⟨poB_t hp, hov.1, hov.2⟩
  obtain ⟨r0, r1, _, _⟩ := boxed HB2.out
  have HF : Hid (plF T false ls js now = staK T false ls now js js.length) := plF_t hp hq ho
  have HJ := jsB_t hq
  clear hp hq ho hov
  go_wp2_with fail
  refine (l10Planned_any T now false a b n cap nb capb ls js _ (h.below B2) (hjs.below B2) PL HJ).mono ?_
  rintro e w4 ⟨g, c, rfl, own, hb4⟩
  clear r0 r1
  go_wp2
  go_ret
  exact ⟨_, rfl, by rw [HR.out, HF.out]; unfold OwnR; rw [staK_len, hlenb]; exact own_low own B2.size, B2.then hb4 B2.size⟩

end Go.Proofs.Ytcmpenlgkccgkaa
