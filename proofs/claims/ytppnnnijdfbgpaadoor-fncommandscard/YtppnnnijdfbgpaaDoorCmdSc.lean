/- A text read number by number: what holds at each step. -/
import Derived.Test.YtppnnnijdfbgpaaDoorCmdD
namespace Go.Proofs.YtppnnnijdfbgpaaDoor
open Go.RowKit

/-- the digit at i, -1 where there is none -/
def dgL (l : List UInt8) (i : Nat) : Int := if i < l.length ∧ 48 ≤ btL l i ∧ btL l i ≤ 57 then btL l i - 48 else -1
theorem dgL_no {l : List UInt8} {i : Nat} (h : dgL l i = -1) : ∀ c t, l.drop i = c :: t → ¬ (48 ≤ c.toNat ∧ c.toNat ≤ 57) := by
  intro c t e hc
  have hi : i < l.length := by
    rcases Nat.lt_or_ge i l.length with h1 | h1
    · exact h1
    · rw [List.drop_eq_nil_of_le h1] at e; cases e
  rw [List.drop_eq_getElem_cons hi] at e
  obtain ⟨e1, _⟩ := List.cons.inj e
  have e2 : btL l i = (c.toNat : Int) := by unfold btL; rw [List.getElem?_eq_getElem hi, ← e1]; rfl
  unfold dgL at h
  rw [if_pos ⟨hi, by rw [e2]; omega, by rw [e2]; omega⟩, e2] at h
  omega
theorem dgL_is {l : List UInt8} {i d : Nat} (h : dgL l i = (d : Int)) : i < l.length ∧ d ≤ 9 ∧ l.drop i = UInt8.ofNat (48 + d) :: l.drop (i + 1) ∧ l.take (i + 1) = l.take i ++ [UInt8.ofNat (48 + d)] := by
  unfold dgL at h
  split at h
  · rename_i hc
    obtain ⟨hi, h1, h2⟩ := hc
    have e2 : btL l i = ((l[i]).toNat : Int) := by unfold btL; rw [List.getElem?_eq_getElem hi]; rfl
    have hd : (l[i]).toNat = 48 + d := by omega
    have e3 : l[i] = UInt8.ofNat (48 + d) := by apply UInt8.toNat_inj.1; rw [hd, dig_toNat (by omega)]
    refine ⟨hi, by omega, ?_, ?_⟩
    · rw [← e3]; exact List.drop_eq_getElem_cons hi
    · rw [← e3]; exact List.take_succ_eq_append_getElem hi
  · omega
theorem dgL_cases (l : List UInt8) (i : Nat) : dgL l i = -1 ∨ ∃ d : Nat, dgL l i = (d : Int) ∧ d ≤ 9 := by
  by_cases h : i < l.length ∧ 48 ≤ btL l i ∧ btL l i ≤ 57
  · refine Or.inr ⟨(btL l i - 48).toNat, ?_, by omega⟩
    unfold dgL; rw [if_pos h]; omega
  · left; unfold dgL; rw [if_neg h]
theorem btS_at {l : List UInt8} {i : Nat} (hi : i < l.length) : btL l i = ((l[i]).toNat : Int) := by unfold btL; rw [List.getElem?_eq_getElem hi]; rfl
theorem btS_32 {l : List UInt8} {i : Nat} (hi : i < l.length) : btL l i = 32 ↔ l[i] = 32 := by
  rw [btS_at hi]
  constructor
  · intro h; apply UInt8.toNat_inj.1; show (l[i]).toNat = 32; omega
  · intro h; rw [h]; rfl

/-- l is a word and numbers that can be -/
def Rep (l w : List UInt8) (ns : List Int) : Prop := (∀ c ∈ w, c ≠ 32) ∧ (∀ n ∈ ns, 0 ≤ n ∧ n ≤ 1000000000) ∧ l = w ++ tailB ns
def NoRep (l : List UInt8) : Prop := ∀ w ns, ¬ Rep l w ns
def okN (ns : List Int) : Prop := ∀ n ∈ ns, 0 ≤ n ∧ n ≤ 1000000000

/-- behind a word or a number -/
def S1 (l : List UInt8) (i : Nat) (w0 : List UInt8) (ns : List Int) : Prop :=
  i ≤ l.length ∧ (∀ c ∈ w0, c ≠ 32) ∧ (∀ n ∈ ns, 0 ≤ n) ∧ l.take i = w0 ++ tailB ns ∧ ∀ w ms, Rep l w ms → ∃ rest, okN rest ∧ l.drop i = tailB rest
/-- behind a blank -/
def S2 (l : List UInt8) (i : Nat) (w0 : List UInt8) (ns : List Int) : Prop :=
  i ≤ l.length ∧ (∀ c ∈ w0, c ≠ 32) ∧ (∀ n ∈ ns, 0 ≤ n) ∧ l.take i = (w0 ++ tailB ns) ++ [32] ∧ ∀ w ms, Rep l w ms → ∃ (n : Nat) (rest : List Int), n ≤ 1000000000 ∧ okN rest ∧ l.drop i = Lib.decDigits n ++ tailB rest
/-- inside of a number -/
def S3 (l : List UInt8) (i : Nat) (w0 : List UInt8) (ns : List Int) (q : Nat) : Prop :=
  i ≤ l.length ∧ (∀ c ∈ w0, c ≠ 32) ∧ (∀ n ∈ ns, 0 ≤ n) ∧ l.take i = ((w0 ++ tailB ns) ++ [32]) ++ Lib.decDigits q ∧ ∀ w ms, Rep l w ms → ∃ (n : Nat) (rest : List Int), n ≤ 1000000000 ∧ okN rest ∧ Lib.decDigits q ++ l.drop i = Lib.decDigits n ++ tailB rest

theorem tailB_head (ns : List Int) : tailB ns = [] ∧ ns = [] ∨ ∃ t n ms, ns = n :: ms ∧ tailB ns = 32 :: t ∧ t = Lib.decDigits n.toNat ++ tailB ms := by
  cases ns with
  | nil => exact Or.inl ⟨rfl, rfl⟩
  | cons n ms => exact Or.inr ⟨_, n, ms, rfl, rfl, rfl⟩
theorem S1.start {l : List UInt8} {i : Nat} (hi : i ≤ l.length) (h : ∀ j, j < i → btL l j ≠ 32) (he : i = l.length ∨ btL l i = 32) : S1 l i (l.take i) [] := by
  have hb : ∀ c ∈ l.take i, c ≠ 32 := fun c hc e => by
    obtain ⟨j, hj, rfl⟩ := List.getElem_of_mem hc
    have hj2 : j < i := by rw [List.length_take] at hj; omega
    rw [List.getElem_take] at e
    exact h j hj2 ((btS_32 (by omega)).2 e)
  refine ⟨hi, hb, (fun n hn => absurd hn (by simp)), (by show _ = _ ++ []; rw [List.append_nil]), ?_⟩
  rintro w ms ⟨h1, h2, h3⟩
  refine ⟨ms, h2, ?_⟩
  -- both are the first blank-free stretch
  have hsplit : l.take i ++ l.drop i = w ++ tailB ms := by rw [List.take_append_drop]; exact h3
  rcases List.append_eq_append_iff.1 hsplit with ⟨m, e1, e2⟩ | ⟨m, e1, e2⟩
  · -- w = take i ++ m, drop i = m ++ tail
    cases m with
    | nil => simpa using e2
    | cons c t =>
      exfalso
      have hd : l.drop i = c :: (t ++ tailB ms) := e2
      have hi2 : i < l.length := by
        rcases Nat.lt_or_ge i l.length with h9 | h9
        · exact h9
        · rw [List.drop_eq_nil_of_le h9] at hd; cases hd
      have hc : c ≠ 32 := h1 c (by rw [e1]; simp)
      rw [List.drop_eq_getElem_cons hi2] at hd
      obtain ⟨e3, _⟩ := List.cons.inj hd
      rcases he with he | he
      · omega
      · exact hc (e3.symm.trans ((btS_32 hi2).1 he))
  · cases m with
    | nil => simpa using e2.symm
    | cons c t =>
      exfalso
      have hc : c ≠ 32 := hb c (by rw [e1]; simp)
      rcases tailB_head ms with ⟨e4, _⟩ | ⟨t', n, ms', _, e4, _⟩
      · rw [e4] at e2; cases e2
      · rw [e4] at e2; exact hc (List.cons.inj e2).1.symm
theorem S1.all {l : List UInt8} {w0 : List UInt8} {ns : List Int} (h : S1 l l.length w0 ns) : l = w0 ++ tailB ns := by
  have := h.2.2.2.1
  rwa [List.take_length] at this
theorem S1.next {l : List UInt8} {i : Nat} {w0 : List UInt8} {ns : List Int} (h : S1 l i w0 ns) (hi : i < l.length) (hb : btL l i = 32) : S2 l (i + 1) w0 ns := by
  obtain ⟨_, h1, h2, h3, h4⟩ := h
  have e := (btS_32 hi).1 hb
  refine ⟨hi, h1, h2, ?_, fun w ms hr => ?_⟩
  · rw [List.take_succ_eq_append_getElem hi, e, h3]
  · obtain ⟨rest, hk, hd⟩ := h4 w ms hr
    rw [List.drop_eq_getElem_cons hi] at hd
    rcases tailB_head rest with ⟨e4, _⟩ | ⟨t', n, ms', e5, e4, e6⟩
    · rw [e4] at hd; cases hd
    · rw [e4] at hd
      have hn := hk n (by rw [e5]; simp)
      exact ⟨n.toNat, ms', by omega, fun x hx => hk x (by rw [e5]; simp [hx]), (List.cons.inj hd).2.trans e6⟩
theorem S1.none_ {l : List UInt8} {i : Nat} {w0 : List UInt8} {ns : List Int} (h : S1 l i w0 ns) (hi : i < l.length) (hb : btL l i ≠ 32) : NoRep l := fun w ms hr => by
  obtain ⟨rest, hk, hd⟩ := h.2.2.2.2 w ms hr
  rw [List.drop_eq_getElem_cons hi] at hd
  rcases tailB_head rest with ⟨e4, _⟩ | ⟨t', n, ms', e5, e4, e6⟩
  · rw [e4] at hd; cases hd
  · rw [e4] at hd
    exact hb ((btS_32 hi).2 (List.cons.inj hd).1)
theorem S2.none_ {l : List UInt8} {i : Nat} {w0 : List UInt8} {ns : List Int} (h : S2 l i w0 ns) (hd : dgL l i = -1) : NoRep l := fun w ms hr => by
  obtain ⟨n, rest, hn, hk, e⟩ := h.2.2.2.2 w ms hr
  have h9 := dec_dig n
  have h8 := dec_ne n
  cases hq : Lib.decDigits n with
  | nil => exact h8 hq
  | cons c t =>
    rw [hq] at e h9
    exact dgL_no hd c (t ++ tailB rest) e (h9 c (by simp))
theorem dec_one {d : Nat} (h : d ≤ 9) : Lib.decDigits d = [UInt8.ofNat (48 + d)] := by rw [Lib.decDigits, dif_pos (by omega)]
theorem dec_snoc {q d : Nat} (hq : 1 ≤ q) (h : d ≤ 9) : Lib.decDigits (10 * q + d) = Lib.decDigits q ++ [UInt8.ofNat (48 + d)] := by
  rw [Lib.decDigits, dif_neg (by omega)]
  have e1 : (10 * q + d) / 10 = q := by omega
  have e2 : (10 * q + d) % 10 = d := by omega
  rw [e1, e2]
theorem S2.dig {l : List UInt8} {i d : Nat} {w0 : List UInt8} {ns : List Int} (h : S2 l i w0 ns) (hd : dgL l i = (d : Int)) : S3 l (i + 1) w0 ns d := by
  obtain ⟨_, h1, h2, h3, h4⟩ := h
  obtain ⟨hi, h9, e1, e2⟩ := dgL_is hd
  refine ⟨hi, h1, h2, ?_, fun w ms hr => ?_⟩
  · rw [e2, h3, dec_one h9]
  · obtain ⟨n, rest, hn, hk, e⟩ := h4 w ms hr
    exact ⟨n, rest, hn, hk, by rw [dec_one h9, ← e, e1]; rfl⟩
theorem S3.dig {l : List UInt8} {i d q : Nat} {w0 : List UInt8} {ns : List Int} (h : S3 l i w0 ns q) (hq : 1 ≤ q) (hd : dgL l i = (d : Int)) : S3 l (i + 1) w0 ns (10 * q + d) := by
  obtain ⟨_, h1, h2, h3, h4⟩ := h
  obtain ⟨hi, h9, e1, e2⟩ := dgL_is hd
  refine ⟨hi, h1, h2, ?_, fun w ms hr => ?_⟩
  · rw [e2, h3, dec_snoc hq h9]; simp
  · obtain ⟨n, rest, hn, hk, e⟩ := h4 w ms hr
    exact ⟨n, rest, hn, hk, by rw [dec_snoc hq h9, ← e, e1]; simp⟩
theorem fold_ge : ∀ (b : List UInt8) (x : Nat), x ≤ b.foldl (fun n c => n * 10 + (c.toNat - 48)) x
  | [], x => Nat.le_refl _
  | c :: t, x => by
    have := fold_ge t (x * 10 + (c.toNat - 48))
    show x ≤ t.foldl (fun n c => n * 10 + (c.toNat - 48)) (x * 10 + (c.toNat - 48))
    omega
theorem valB_ge (a b : List UInt8) : valB a ≤ valB (a ++ b) := by
  unfold valB
  rw [List.foldl_append]
  exact fold_ge b _
theorem tailB_snoc (ns : List Int) (q : Nat) : tailB (ns ++ [(q : Int)]) = tailB ns ++ (32 :: Lib.decDigits q) := by
  induction ns with
  | nil => show (32 :: (Lib.decDigits (q : Int).toNat ++ [])) = _; rw [List.append_nil]; rfl
  | cons y t ih => show (32 :: (Lib.decDigits y.toNat ++ tailB (t ++ [(q : Int)]))) = (32 :: (Lib.decDigits y.toNat ++ tailB t)) ++ _; rw [ih, List.cons_append, List.append_assoc]
theorem S3.whole {l : List UInt8} {i q : Nat} {w0 : List UInt8} {ns : List Int} (h : S3 l i w0 ns q) (he : dgL l i = -1 ∨ q = 0 ∨ 1000000000 < q) : S1 l i w0 (ns ++ [(q : Int)]) := by
  obtain ⟨h0, h1, h2, h3, h4⟩ := h
  refine ⟨h0, h1, fun n hn => ?_, ?_, fun w ms hr => ?_⟩
  · rcases List.mem_append.1 hn with hn | hn
    · exact h2 n hn
    · rw [List.mem_singleton.1 hn]; omega
  · rw [h3, tailB_snoc]; simp
  · obtain ⟨n, rest, hn, hk, e⟩ := h4 w ms hr
    refine ⟨rest, hk, ?_⟩
    have key : ∃ m, Lib.decDigits n = Lib.decDigits q ++ m ∧ l.drop i = m ++ tailB rest := by
      rcases List.append_eq_append_iff.1 e with ⟨m, e1, e2⟩ | ⟨m, e1, e2⟩
      · exact ⟨m, e1, e2⟩
      · cases m with
        | nil => exact ⟨[], by simpa using e1.symm, by simpa using e2.symm⟩
        | cons c t =>
          exfalso
          have hc := dec_dig q c (by rw [e1]; simp)
          rcases tailB_head rest with ⟨e4, _⟩ | ⟨t', n', ms', _, e4, _⟩
          · rw [e4] at e2; cases e2
          · rw [e4] at e2
            have e5 : (32 : UInt8) = c := (List.cons.inj e2).1
            rw [← e5] at hc
            have e6 : (32 : UInt8).toNat = 32 := rfl
            omega
    obtain ⟨m, e1, e2⟩ := key
    cases m with
    | nil => simpa using e2
    | cons c t =>
      exfalso
      rcases he with he | he | he
      · exact dgL_no he c (t ++ tailB rest) e2 (dec_dig n c (by rw [e1]; simp))
      · subst he
        have e7 : Lib.decDigits n = 48 :: (c :: t) := e1.trans (by rw [dec_one (d := 0) (by omega)]; rfl)
        cases dec_zero n (c :: t) e7
      · have := valB_ge (Lib.decDigits q) (c :: t)
        rw [← e1, valB_dec, valB_dec] at this
        omega

theorem tailB_len : ∀ ns : List Int, ns.length ≤ (tailB ns).length
  | [] => Nat.le_refl _
  | n :: t => by
    have := tailB_len t
    show t.length + 1 ≤ (Lib.decDigits n.toNat ++ tailB t).length + 1
    rw [List.length_append]; omega
theorem take_ns {l p r : List UInt8} {i : Nat} {ns : List Int} (h : l.take i = (p ++ tailB ns) ++ r) : ns.length ≤ l.length := by
  have h1 := tailB_len ns
  have h2 := congrArg List.length h
  rw [List.length_append, List.length_append, List.length_take] at h2
  omega

end Go.Proofs.YtppnnnijdfbgpaaDoor
