/- Jobs in pieces: plain mathematics of chapter 8 (McNaughton). -/
import Derived.Test.YtnndkdonbjeejaaPieceD
namespace Go.Proofs.Ytnndkdonbjeejaa

/-- the pieces of one job of length L, from place P of the line on; t is the bound -/
def jobPcs (t P L id : Int) : List Pc :=
  if L ≤ t - P % t then [⟨id, P / t, P % t, P % t + L⟩]
  else [⟨id, P / t, P % t, t⟩, ⟨id, P / t + 1, 0, L - (t - P % t)⟩]

/-- all pieces: (id, length) each -/
def pcsV (t : Int) : Int → List (Int × Int) → List Pc
  | _, [] => []
  | P, x :: xs => jobPcs t P x.2 x.1 ++ pcsV t (P + x.2) xs

def sumL : List (Int × Int) → Int
  | [] => 0
  | x :: xs => x.2 + sumL xs

/-- how much of a job is in the pieces -/
def workOf (id : Int) : List Pc → Int
  | [] => 0
  | p :: ps => (if p.job = id then p.up - p.fr else 0) + workOf id ps
/-- how many pieces it has -/
def partsOf (id : Int) : List Pc → Int
  | [] => 0
  | p :: ps => (if p.job = id then 1 else 0) + partsOf id ps
/-- when all are done -/
def finV : List Pc → Int
  | [] => 0
  | p :: ps => max p.up (finV ps)

theorem workOf_app (id : Int) : ∀ a b : List Pc, workOf id (a ++ b) = workOf id a + workOf id b
  | [], b => by simp [workOf]
  | x :: a, b => by simp only [List.cons_append, workOf]; rw [workOf_app id a b]; omega
theorem partsOf_app (id : Int) : ∀ a b : List Pc, partsOf id (a ++ b) = partsOf id a + partsOf id b
  | [], b => by simp [partsOf]
  | x :: a, b => by simp only [List.cons_append, partsOf]; rw [partsOf_app id a b]; omega
theorem finV_app : ∀ a b : List Pc, finV (a ++ b) = max (finV a) (finV b)
  | [], b => by
    have : ∀ b, 0 ≤ finV b := by
      intro b
      induction b with
      | nil => simp [finV]
      | cons x b ih => simp only [finV]; omega
    have := this b
    simp only [List.nil_append, finV]; omega
  | x :: a, b => by simp only [List.cons_append, finV]; rw [finV_app a b]; omega
theorem finV_nn : ∀ b : List Pc, 0 ≤ finV b
  | [] => by simp [finV]
  | x :: b => by have := finV_nn b; simp only [finV]; omega

/-- a piece lies right on the line from P to Q -/
structure PcIn (t P Q : Int) (p : Pc) : Prop where
  f0 : 0 ≤ p.fr
  f1 : p.fr < p.up
  f2 : p.up ≤ t
  g0 : P ≤ t * p.mac + p.fr
  g1 : t * p.mac + p.up ≤ Q

theorem PcIn.mono {t P Q P' Q' : Int} {p : Pc} (h : PcIn t P Q p) (h1 : P' ≤ P) (h2 : Q ≤ Q') : PcIn t P' Q' p :=
  ⟨h.f0, h.f1, h.f2, Int.le_trans h1 h.g0, Int.le_trans h.g1 h2⟩

theorem jobPcs_in {t P L id : Int} (ht : 0 < t) (_hP : 0 ≤ P) (h1 : 1 ≤ L) (h2 : L ≤ t) : ∀ p ∈ jobPcs t P L id, p.job = id ∧ PcIn t P (P + L) p := by
  have hd := Int.mul_ediv_add_emod P t
  have hm0 := Int.emod_nonneg P (Int.ne_of_gt ht)
  have hm1 := Int.emod_lt_of_pos P ht
  have hx : t * (P / t + 1) = t * (P / t) + t := by rw [Int.mul_add, Int.mul_one]
  unfold jobPcs
  split
  · intro p hp
    rw [List.mem_singleton] at hp
    subst hp
    exact ⟨rfl, ⟨hm0, by show P % t < P % t + L; omega, by show P % t + L ≤ t; omega, by show P ≤ t * (P / t) + P % t; omega, by show t * (P / t) + (P % t + L) ≤ P + L; omega⟩⟩
  · intro p hp
    rcases List.mem_cons.1 hp with rfl | hp
    · exact ⟨rfl, ⟨hm0, hm1, Int.le_refl _, by show P ≤ t * (P / t) + P % t; omega, by show t * (P / t) + t ≤ P + L; omega⟩⟩
    · rw [List.mem_singleton] at hp
      subst hp
      exact ⟨rfl, ⟨Int.le_refl _, by show 0 < L - (t - P % t); omega, by show L - (t - P % t) ≤ t; omega, by show P ≤ t * (P / t + 1) + 0; omega, by show t * (P / t + 1) + (L - (t - P % t)) ≤ P + L; omega⟩⟩

/-- of one job no two pieces at once, on the line one behind the other -/
def Behind (t : Int) (p q : Pc) : Prop := t * p.mac + p.up ≤ t * q.mac + q.fr
def Apart (p q : Pc) : Prop := ¬ ((q.mac = p.mac ∨ q.job = p.job) ∧ q.fr < p.up ∧ p.fr < q.up)

theorem jobPcs_apart {t P L id : Int} (ht : 0 < t) (h2 : L ≤ t) : (jobPcs t P L id).Pairwise fun p q => Behind t p q ∧ Apart p q := by
  have hm1 := Int.emod_lt_of_pos P ht
  have hx : t * (P / t + 1) = t * (P / t) + t := by rw [Int.mul_add, Int.mul_one]
  unfold jobPcs
  split
  · exact List.pairwise_singleton _ _
  · refine List.pairwise_cons.2 ⟨fun q hq => ?_, List.pairwise_singleton _ _⟩
    rw [List.mem_singleton] at hq
    subst hq
    refine ⟨?_, ?_⟩
    · show t * (P / t) + t ≤ t * (P / t + 1) + 0
      omega
    · rintro ⟨_, h3, h4⟩
      simp only at h3 h4
      omega

/-- ids are not told twice -/
def idsOk (l : List (Int × Int)) : Prop := l.Pairwise fun x y => x.1 ≠ y.1

theorem pcsV_in {t : Int} (ht : 0 < t) : ∀ (l : List (Int × Int)) (P : Int), 0 ≤ P → (∀ x ∈ l, 1 ≤ x.2 ∧ x.2 ≤ t) → ∀ p ∈ pcsV t P l, (∃ x ∈ l, p.job = x.1 ∧ p.up - p.fr ≤ x.2) ∧ PcIn t P (P + sumL l) p
  | [], _, _, _ => by simp [pcsV]
  | x :: xs, P, hP, hx => by
    intro p hp
    have hb := hx x List.mem_cons_self
    have hs : 0 ≤ sumL xs := by
      have : ∀ l : List (Int × Int), (∀ x ∈ l, 1 ≤ x.2 ∧ x.2 ≤ t) → 0 ≤ sumL l := by
        intro l
        induction l with
        | nil => intro _; simp [sumL]
        | cons y l ih =>
          intro h
          have := ih fun z hz => h z (List.mem_cons_of_mem _ hz)
          have := h y List.mem_cons_self
          simp only [sumL]; omega
      exact this xs fun z hz => hx z (List.mem_cons_of_mem _ hz)
    rcases List.mem_append.1 hp with hp | hp
    · obtain ⟨h1, h2⟩ := jobPcs_in ht hP hb.1 hb.2 p hp
      have g0 := h2.g0
      have g1 := h2.g1
      exact ⟨⟨x, List.mem_cons_self, h1, by omega⟩, h2.mono (Int.le_refl _) (by simp only [sumL]; omega)⟩
    · obtain ⟨⟨y, hy, h1⟩, h2⟩ := pcsV_in ht xs (P + x.2) (by omega) (fun z hz => hx z (List.mem_cons_of_mem _ hz)) p hp
      exact ⟨⟨y, List.mem_cons_of_mem _ hy, h1⟩, h2.mono (by omega) (by simp only [sumL]; omega)⟩

theorem pcsV_apart {t : Int} (ht : 0 < t) : ∀ (l : List (Int × Int)) (P : Int), 0 ≤ P → (∀ x ∈ l, 1 ≤ x.2 ∧ x.2 ≤ t) → idsOk l → (pcsV t P l).Pairwise Apart
  | [], _, _, _, _ => List.Pairwise.nil
  | x :: xs, P, hP, hx, hi => by
    have hb := hx x List.mem_cons_self
    obtain ⟨i1, i2⟩ := List.pairwise_cons.1 hi
    refine List.pairwise_append.2 ⟨(jobPcs_apart ht hb.2).imp fun h => h.2, pcsV_apart ht xs (P + x.2) (by omega) (fun z hz => hx z (List.mem_cons_of_mem _ hz)) i2, ?_⟩
    intro p hp q hq
    obtain ⟨h1, h2⟩ := jobPcs_in ht hP hb.1 hb.2 p hp
    obtain ⟨⟨y, hy, h3, _⟩, h4⟩ := pcsV_in ht xs (P + x.2) (by omega) (fun z hz => hx z (List.mem_cons_of_mem _ hz)) q hq
    rintro ⟨h5 | h5, h6, h7⟩
    · have g1 := h2.g1
      have g0 := h4.g0
      rw [h5] at g0
      omega
    · have := i1 y hy
      rw [h1, h3] at h5
      exact this h5.symm

theorem workOf_no {id : Int} : ∀ {l : List Pc}, (∀ p ∈ l, p.job ≠ id) → workOf id l = 0 ∧ partsOf id l = 0
  | [], _ => ⟨rfl, rfl⟩
  | p :: l, h => by
    obtain ⟨h1, h2⟩ := workOf_no (l := l) fun q hq => h q (List.mem_cons_of_mem _ hq)
    have := h p List.mem_cons_self
    simp only [workOf, partsOf, if_neg this, h1, h2]
    exact ⟨rfl, rfl⟩

theorem jobPcs_work (t P L id : Int) : workOf id (jobPcs t P L id) = L ∧ partsOf id (jobPcs t P L id) = if L ≤ t - P % t then 1 else 2 := by
  unfold jobPcs
  split
  · simp only [workOf, partsOf, if_true]; omega
  · simp only [workOf, partsOf, if_true]; omega

/-- each job's work is all there, in one piece or in two -/
theorem pcsV_work {t : Int} (ht : 0 < t) : ∀ (l : List (Int × Int)) (P : Int), 0 ≤ P → (∀ x ∈ l, 1 ≤ x.2 ∧ x.2 ≤ t) → idsOk l → ∀ x ∈ l, workOf x.1 (pcsV t P l) = x.2 ∧ 1 ≤ partsOf x.1 (pcsV t P l) ∧ partsOf x.1 (pcsV t P l) ≤ 2
  | [], _, _, _, _ => by simp
  | x :: xs, P, hP, hx, hi => by
    have hb := hx x List.mem_cons_self
    obtain ⟨i1, i2⟩ := List.pairwise_cons.1 hi
    have hx' := fun z hz => hx z (List.mem_cons_of_mem _ hz)
    intro y hy
    simp only [pcsV]
    rw [workOf_app, partsOf_app]
    rcases List.mem_cons.1 hy with rfl | hy
    · obtain ⟨e1, e2⟩ := jobPcs_work t P y.2 y.1
      obtain ⟨e3, e4⟩ := workOf_no (id := y.1) (l := pcsV t (P + y.2) xs) fun p hp => by
        obtain ⟨⟨z, hz, h3, _⟩, _⟩ := pcsV_in ht xs (P + y.2) (by omega) hx' p hp
        rw [h3]
        exact (i1 z hz).symm
      rw [e1, e2, e3, e4]
      split <;> omega
    · have hn := i1 y hy
      obtain ⟨e3, e4⟩ := workOf_no (id := y.1) (l := jobPcs t P x.2 x.1) fun p hp => by
        rw [(jobPcs_in ht hP hb.1 hb.2 p hp).1]
        exact hn
      have := pcsV_work ht xs (P + x.2) (by omega) hx' i2 y hy
      rw [e3, e4]
      omega

/-- how many are parted -/
def partedV (all : List Pc) : List (Int × Int) → Int
  | [] => 0
  | x :: xs => (partsOf x.1 all - 1) + partedV all xs

theorem partedV_skip {a b : List Pc} : ∀ (l : List (Int × Int)), (∀ x ∈ l, partsOf x.1 a = 0) → partedV (a ++ b) l = partedV b l
  | [], _ => rfl
  | x :: xs, h => by
    simp only [partedV]
    rw [partsOf_app, h x List.mem_cons_self, partedV_skip xs fun z hz => h z (List.mem_cons_of_mem _ hz)]
    omega

theorem ediv_step {t P Q : Int} (ht : 0 < t) (h : t * (P / t + 1) ≤ Q) : P / t + 1 ≤ Q / t := (Int.le_ediv_iff_mul_le ht).2 (by rw [Int.mul_comm]; exact h)

theorem parted_le {t : Int} (ht : 0 < t) : ∀ (l : List (Int × Int)) (P : Int), 0 ≤ P → (∀ x ∈ l, 1 ≤ x.2 ∧ x.2 ≤ t) → idsOk l → l ≠ [] → partedV (pcsV t P l) l ≤ (P + sumL l - 1) / t - P / t
  | [], _, _, _, _, h => absurd rfl h
  | x :: xs, P, hP, hx, hi, _ => by
    have hb := hx x List.mem_cons_self
    obtain ⟨i1, i2⟩ := List.pairwise_cons.1 hi
    have hx' := fun z hz => hx z (List.mem_cons_of_mem _ hz)
    have hd := Int.mul_ediv_add_emod P t
    have hx1 : t * (P / t + 1) = t * (P / t) + t := by rw [Int.mul_add, Int.mul_one]
    obtain ⟨e1, e2⟩ := jobPcs_work t P x.2 x.1
    obtain ⟨e3, e4⟩ := workOf_no (id := x.1) (l := pcsV t (P + x.2) xs) fun p hp => by
      obtain ⟨⟨z, hz, h3, _⟩, _⟩ := pcsV_in ht xs (P + x.2) (by omega) hx' p hp
      rw [h3]
      exact (i1 z hz).symm
    have hsk := partedV_skip (a := jobPcs t P x.2 x.1) (b := pcsV t (P + x.2) xs) xs fun y hy => (workOf_no (id := y.1) fun p hp => by
      rw [(jobPcs_in ht hP hb.1 hb.2 p hp).1]
      exact i1 y hy).2
    simp only [partedV, pcsV, sumL]
    rw [hsk, partsOf_app, e2, e4]
    by_cases hn : xs = []
    · subst hn
      simp only [partedV, sumL]
      split
      · have : P / t ≤ (P + (x.2 + 0) - 1) / t := Int.ediv_le_ediv ht (by omega)
        omega
      · have := ediv_step (t := t) (P := P) (Q := P + (x.2 + 0) - 1) ht (by omega)
        omega
    · have ih := parted_le ht xs (P + x.2) (by omega) hx' i2 hn
      have ea : P + (x.2 + sumL xs) - 1 = P + x.2 + sumL xs - 1 := by omega
      rw [ea]
      split
      · have : P / t ≤ (P + x.2) / t := Int.ediv_le_ediv ht (by omega)
        omega
      · have := ediv_step (t := t) (P := P) (Q := P + x.2) ht (by omega)
        omega

/-- no more are parted than there are ends of machines within -/
theorem parted_machines {t m : Int} (ht : 0 < t) {l : List (Int × Int)} (hx : ∀ x ∈ l, 1 ≤ x.2 ∧ x.2 ≤ t) (hi : idsOk l) (hS : sumL l ≤ t * m) (hm : 1 ≤ m) : partedV (pcsV t 0 l) l ≤ m - 1 := by
  by_cases hn : l = []
  · subst hn; simp [partedV]; omega
  · have := parted_le ht l 0 (by omega) hx hi hn
    have h0 : (0 : Int) / t = 0 := Int.zero_ediv t
    rw [h0] at this
    have : (0 + sumL l - 1) / t < m := Int.ediv_lt_of_lt_mul ht (by rw [Int.mul_comm]; omega)
    omega

theorem pcsV_mac {t m : Int} (ht : 0 < t) {l : List (Int × Int)} (hx : ∀ x ∈ l, 1 ≤ x.2 ∧ x.2 ≤ t) (hS : sumL l ≤ t * m) : ∀ p ∈ pcsV t 0 l, 0 ≤ p.mac ∧ p.mac < m := by
  intro p hp
  obtain ⟨_, h⟩ := pcsV_in ht l 0 (Int.le_refl _) hx p hp
  have f0 := h.f0
  have f1 := h.f1
  have f2 := h.f2
  have g0 := h.g0
  have g1 := h.g1
  constructor
  · rcases Int.lt_or_le p.mac 0 with c | c
    · have : t * p.mac ≤ t * (-1) := Int.mul_le_mul_of_nonneg_left (by omega) (by omega)
      omega
    · exact c
  · rcases Int.lt_or_le p.mac m with c | c
    · exact c
    · have : t * m ≤ t * p.mac := Int.mul_le_mul_of_nonneg_left c (by omega)
      omega

theorem finV_le {t : Int} (ht : 0 ≤ t) : ∀ (l : List Pc), (∀ p ∈ l, p.up ≤ t) → finV l ≤ t
  | [], _ => by simpa [finV] using ht
  | p :: l, h => by
    have := finV_le ht l fun q hq => h q (List.mem_cons_of_mem _ hq)
    have := h p List.mem_cons_self
    simp only [finV]; omega
theorem finV_ge : ∀ {l : List Pc} {p : Pc}, p ∈ l → p.up ≤ finV l
  | q :: l, p, h => by
    simp only [finV]
    rcases List.mem_cons.1 h with rfl | h
    · omega
    · have := finV_ge h; omega

theorem pcsV_fills {t : Int} (ht : 0 < t) : ∀ (l : List (Int × Int)) (P : Int), 0 ≤ P → P < t → t ≤ P + sumL l → (∀ x ∈ l, 1 ≤ x.2 ∧ x.2 ≤ t) → ∃ p ∈ pcsV t P l, p.up = t
  | [], P, _, h1, h2, _ => by simp [sumL] at h2; omega
  | x :: xs, P, h0, h1, h2, hx => by
    have hb := hx x List.mem_cons_self
    have hm : P % t = P := Int.emod_eq_of_lt h0 h1
    by_cases c : P + x.2 < t
    · obtain ⟨p, hp, e⟩ := pcsV_fills ht xs (P + x.2) (by omega) c (by simp only [sumL] at h2; omega) fun z hz => hx z (List.mem_cons_of_mem _ hz)
      exact ⟨p, List.mem_append_right _ hp, e⟩
    · by_cases d : x.2 ≤ t - P % t
      · refine ⟨⟨x.1, P / t, P % t, P % t + x.2⟩, List.mem_append_left _ ?_, by show P % t + x.2 = t; omega⟩
        unfold jobPcs
        rw [if_pos d]
        exact List.mem_cons_self
      · refine ⟨⟨x.1, P / t, P % t, t⟩, List.mem_append_left _ ?_, rfl⟩
        unfold jobPcs
        rw [if_neg d]
        exact List.mem_cons_self

/-- all is done at the bound -/
theorem pcsV_finish {t : Int} (ht : 0 < t) {l : List (Int × Int)} (hx : ∀ x ∈ l, 1 ≤ x.2 ∧ x.2 ≤ t) (hS : t ≤ sumL l) : finV (pcsV t 0 l) = t := by
  apply Int.le_antisymm
  · exact finV_le (by omega) _ fun p hp => (pcsV_in ht l 0 (Int.le_refl _) hx p hp).2.f2
  · obtain ⟨p, hp, e⟩ := pcsV_fills ht l 0 (Int.le_refl _) ht (by omega) hx
    have := finV_ge hp
    omega

end Go.Proofs.Ytnndkdonbjeejaa
