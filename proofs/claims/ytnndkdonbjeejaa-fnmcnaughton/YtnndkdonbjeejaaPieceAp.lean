/- Pieces apart, told by the neighbours of a sorted row; how long pieces that are apart are together: plain mathematics. -/
import Derived.Test.YtnndkdonbjeejaaPkS
import Derived.Test.YtnndkdonbjeejaaCmp
import Derived.Shelf.SlSortCmp.Insertion
namespace Go.Proofs.Ytnndkdonbjeejaa
open Go.RowKit Go.Sort

/-- first by f, then by their beginning -/
def keyBy (f : Pc → Int) (x y : Pc) : Int := or2 (cmpI (f x) (f y)) (cmpI x.fr y.fr)
theorem keyBy_lt (f : Pc → Int) (x y : Pc) : ltOf (keyBy f) x y = decide (f x < f y ∨ (f x = f y ∧ x.fr < y.fr)) := or2_lt _ _ _ _
theorem keyBy_no {f : Pc → Int} {x y : Pc} : decide (keyBy f y x < 0) = false ↔ f x ≤ f y ∧ (f x = f y → x.fr ≤ y.fr) := by
  have e : decide (keyBy f y x < 0) = decide (f y < f x ∨ (f y = f x ∧ y.fr < x.fr)) := or2_lt _ _ _ _
  rw [e, decide_eq_false_iff_not]
  constructor
  · intro h; omega
  · intro h; omega
theorem swo_keyBy (f : Pc → Int) : SWO (ltOf (keyBy f)) := by
  have e : ltOf (keyBy f) = fun x y => decide (f x < f y ∨ (f x = f y ∧ x.fr < y.fr)) := by funext x y; exact keyBy_lt f x y
  rw [e]
  refine ⟨fun x => ?_, fun x y z h1 h2 => ?_, fun x y z h1 h2 => ?_⟩
  · rw [decide_eq_false_iff_not]; omega
  · rw [decide_eq_true_iff] at *; omega
  · rw [decide_eq_false_iff_not] at *; omega

/-- are numbers i and i + 1 alike by f, and at one time? -/
def clash (f : Pc → Int) (ys : List Pc) (i : Nat) : Bool := (cmpI (f (pcg ys i)) (f (pcg ys (i + 1))) == 0) && decide ((pcg ys (i + 1)).fr < (pcg ys i).up)
/-- no neighbours among the first k pairs clash -/
def nbB (f : Pc → Int) (ys : List Pc) (k : Nat) : Bool := (List.range k).all fun i => !clash f ys i
theorem nbB_all {f : Pc → Int} {ys : List Pc} {k : Nat} : nbB f ys k = true ↔ ∀ i, i < k → clash f ys i = false := by
  unfold nbB; simp
theorem nbB_no {f : Pc → Int} {ys : List Pc} {k i : Nat} (hi : i < k) (h : clash f ys i = true) : nbB f ys k = false := by
  rw [Bool.eq_false_iff]; intro h1
  have := nbB_all.1 h1 i hi
  rw [h] at this; cases this
theorem clash_iff {f : Pc → Int} {ys : List Pc} {i : Nat} : clash f ys i = false ↔ (f (pcg ys i) = f (pcg ys (i + 1)) → (pcg ys i).up ≤ (pcg ys (i + 1)).fr) := by
  unfold clash
  by_cases h1 : f (pcg ys i) = f (pcg ys (i + 1))
  · have e : (cmpI (f (pcg ys i)) (f (pcg ys (i + 1))) == 0) = true := by rw [beq_iff_eq]; exact cmpI_zero.2 h1
    rw [e, Bool.true_and, decide_eq_false_iff_not]
    constructor
    · intro h _; omega
    · intro h; have := h h1; omega
  · have e : (cmpI (f (pcg ys i)) (f (pcg ys (i + 1))) == 0) = false := by rw [beq_eq_false_iff_ne]; exact fun h => h1 (cmpI_zero.1 h)
    rw [e, Bool.false_and]
    exact ⟨fun _ h => absurd h h1, fun _ => rfl⟩

/-- no two that are alike by f are at one time -/
def Ap (f : Pc → Int) (ps : List Pc) : Prop := ps.Pairwise fun p q => f p = f q → ¬ (q.fr < p.up ∧ p.fr < q.up)
theorem Ap.perm {f : Pc → Int} {ps qs : List Pc} (h : ps.Perm qs) : Ap f ps ↔ Ap f qs := h.pairwise_iff fun {_ _} h e => fun ⟨h1, h2⟩ => h e.symm ⟨h2, h1⟩
theorem ap_two {ps : List Pc} : ps.Pairwise Apart ↔ Ap (·.mac) ps ∧ Ap (·.job) ps := by
  unfold Ap
  rw [← List.pairwise_and_iff]
  refine ⟨fun h => h.imp ?_, fun h => h.imp ?_⟩
  · intro p q h
    exact ⟨fun e ⟨h1, h2⟩ => h ⟨Or.inl e.symm, h1, h2⟩, fun e ⟨h1, h2⟩ => h ⟨Or.inr e.symm, h1, h2⟩⟩
  · rintro p q ⟨h1, h2⟩ ⟨e | e, h3⟩
    · exact h1 e.symm h3
    · exact h2 e.symm h3

/-- sorted by f and then by the beginning -/
def Srt (f : Pc → Int) (ys : List Pc) : Prop := ys.Pairwise fun x y => decide (keyBy f y x < 0) = false
theorem Srt.at_ {f : Pc → Int} {ys : List Pc} (h : Srt f ys) {i j : Nat} (hij : i < j) (hj : j < ys.length) : f (pcg ys i) ≤ f (pcg ys j) ∧ (f (pcg ys i) = f (pcg ys j) → (pcg ys i).fr ≤ (pcg ys j).fr) := by
  have := List.pairwise_iff_getElem.1 h i j (by omega) hj hij
  rw [← pcg_get, ← pcg_get] at this
  exact keyBy_no.1 this
/-- in a sorted row without a clash each is behind all that are ahead of it and alike -/
theorem nb_behind {f : Pc → Int} {ys : List Pc} (hs : Srt f ys) (h : nbB f ys (ys.length - 1) = true) : ys.Pairwise fun p q => f p = f q → p.up ≤ q.fr := by
  rw [List.pairwise_iff_getElem]
  intro i j hi hj hij e
  rw [← pcg_get hi, ← pcg_get hj] at *
  have c := clash_iff.1 (nbB_all.1 h i (by omega))
  by_cases h1 : i + 1 = j
  · subst h1; exact c e
  · have a := hs.at_ (i := i) (j := i + 1) (by omega) (by omega)
    have b := hs.at_ (i := i + 1) (j := j) (by omega) hj
    have e1 : f (pcg ys i) = f (pcg ys (i + 1)) := by omega
    have := c e1
    have := b.2 (by omega)
    omega
theorem nb_iff {f : Pc → Int} {ys : List Pc} (hs : Srt f ys) (hr : ∀ p ∈ ys, p.fr < p.up) : nbB f ys (ys.length - 1) = true ↔ Ap f ys := by
  constructor
  · intro h
    exact (nb_behind hs h).imp fun {p q} h e h1 => by have := h e; omega
  · intro h
    rw [nbB_all]
    intro i hi
    rw [clash_iff]
    intro e
    have hp := List.pairwise_iff_getElem.1 h i (i + 1) (by omega) (by omega) (by omega)
    have h1 := hr _ (List.getElem_mem (l := ys) (n := i) (by omega))
    have h2 := hr _ (List.getElem_mem (l := ys) (n := i + 1) (by omega))
    have a := hs.at_ (i := i) (j := i + 1) (by omega) (by omega)
    rw [← pcg_get, ← pcg_get] at hp
    rw [← pcg_get] at h1 h2
    have := a.2 e
    have := hp e
    omega

theorem work_room {id M : Int} : ∀ {ys : List Pc} {L : Int}, ys.Pairwise (fun p q => p.job = q.job → p.up ≤ q.fr) → L ≤ M → (∀ p ∈ ys, p.fr < p.up ∧ p.up ≤ M ∧ (p.job = id → L ≤ p.fr)) → workOf id ys ≤ M - L
  | [], L, _, h, _ => by simp only [workOf]; omega
  | p :: ys, L, hp, hL, h => by
    obtain ⟨h1, h2⟩ := List.pairwise_cons.1 hp
    obtain ⟨a, b, c⟩ := h p List.mem_cons_self
    simp only [workOf]
    by_cases e : p.job = id
    · rw [if_pos e]
      have := work_room (ys := ys) (L := p.up) h2 b fun q hq => ⟨(h q (List.mem_cons_of_mem _ hq)).1, (h q (List.mem_cons_of_mem _ hq)).2.1, fun e' => h1 q hq (by rw [e, e'])⟩
      have := c e
      omega
    · rw [if_neg e]
      have := work_room (ys := ys) (L := L) h2 hL fun q hq => h q (List.mem_cons_of_mem _ hq)
      omega
theorem workOf_perm {id : Int} {a b : List Pc} (h : a.Perm b) : workOf id a = workOf id b := by
  induction h with
  | nil => rfl
  | cons x _ ih => simp only [workOf]; rw [ih]
  | swap x y l => simp only [workOf]; split <;> split <;> omega
  | trans _ _ i1 i2 => exact i1.trans i2
/-- pieces of one job that are apart are together no longer than to their end -/
theorem work_fits {ps ys : List Pc} (hp : ys.Perm ps) (hs : Srt (·.job) ys) (h : nbB (·.job) ys (ys.length - 1) = true) {M : Int} (hM : 0 ≤ M) (hr : ∀ p ∈ ps, 0 ≤ p.fr ∧ p.fr < p.up ∧ p.up ≤ M) (id : Int) : 0 ≤ workOf id ps ∧ workOf id ps ≤ M := by
  refine ⟨work_nn fun p h => (hr p h).2.1, ?_⟩
  rw [← workOf_perm hp]
  have := work_room (id := id) (M := M) (L := 0) (nb_behind hs h) hM fun p hq => ⟨(hr p (hp.mem_iff.1 hq)).2.1, (hr p (hp.mem_iff.1 hq)).2.2, fun _ => (hr p (hp.mem_iff.1 hq)).1⟩
  omega


/-- what is told of right lines is what PiecesOk asks -/
theorem pk_told {ls : List Jb} {m : Int} {ps ys zs : List Pc} (hj : JsOk ls) (m0 : 1 ≤ m) (m1 : m ≤ 10) (hy : ys.Perm ps) (sy : Srt (·.mac) ys) (hz : zs.Perm ps) (sz : Srt (·.job) zs)
    (h1 : ∀ p ∈ ps, Pk1 ls m p) (ny : nbB (·.mac) ys (ys.length - 1) = true) (nz : nbB (·.job) zs (zs.length - 1) = true) (hw : ∀ j ∈ ls, workOf j.id ps = j.long) : PkOk ls m ps :=
  ⟨hj, m0, m1, h1, ap_two.2 ⟨(Ap.perm hy).1 ((nb_iff sy fun p hp => (h1 p (hy.mem_iff.1 hp)).lt).1 ny), (Ap.perm hz).1 ((nb_iff sz fun p hp => (h1 p (hz.mem_iff.1 hp)).lt).1 nz)⟩, hw⟩
theorem pk_mac {ls : List Jb} {m : Int} {ps ys : List Pc} (hy : ys.Perm ps) (sy : Srt (·.mac) ys) (ny : nbB (·.mac) ys (ys.length - 1) = false) : pkB ls m ps = false := pkB_no fun p => by
  have := (nb_iff sy fun q hq => (p.one q (hy.mem_iff.1 hq)).lt).2 ((Ap.perm hy).2 (ap_two.1 p.apart).1)
  rw [ny] at this; cases this
theorem pk_jobs {ls : List Jb} {m : Int} {ps ys : List Pc} (hy : ys.Perm ps) (sy : Srt (·.job) ys) (ny : nbB (·.job) ys (ys.length - 1) = false) : pkB ls m ps = false := pkB_no fun p => by
  have := (nb_iff sy fun q hq => (p.one q (hy.mem_iff.1 hq)).lt).2 ((Ap.perm hy).2 (ap_two.1 p.apart).2)
  rw [ny] at this; cases this

end Go.Proofs.Ytnndkdonbjeejaa
