/- A command's text: words, numbers; one text belongs to one command. -/
import Derived.Test.YtppnnnijdfbgpaaDoorCmdOk
import Derived.Lib.ItoaNum
namespace Go.Proofs.YtppnnnijdfbgpaaDoor
open Go.RowKit

/-- the number that digits tell -/
def valB (l : List UInt8) : Nat := l.foldl (fun n c => n * 10 + (c.toNat - 48)) 0
theorem valB_snoc (l : List UInt8) (c : UInt8) : valB (l ++ [c]) = valB l * 10 + (c.toNat - 48) := by
  unfold valB; rw [List.foldl_append]; rfl
theorem dig_toNat {d : Nat} (h : d < 10) : (UInt8.ofNat (48 + d)).toNat = 48 + d := by
  rw [UInt8.toNat_ofNat']; omega
theorem valB_dec (u : Nat) : valB (Lib.decDigits u) = u := by
  induction u using Nat.strongRecOn with
  | ind u ih =>
    rw [Lib.decDigits]
    split
    · rename_i h
      show 0 * 10 + ((UInt8.ofNat (48 + u)).toNat - 48) = u
      rw [dig_toNat h]; omega
    · rename_i h
      rw [valB_snoc, ih (u / 10) (by omega), dig_toNat (Nat.mod_lt _ (by omega))]
      omega
theorem dec_inj {u v : Nat} (h : Lib.decDigits u = Lib.decDigits v) : u = v := by
  rw [← valB_dec u, ← valB_dec v, h]
theorem dec_dig (u : Nat) : ∀ c ∈ Lib.decDigits u, 48 ≤ c.toNat ∧ c.toNat ≤ 57 := by
  induction u using Nat.strongRecOn with
  | ind u ih =>
    rw [Lib.decDigits]
    split
    · rename_i h
      intro c hc
      rw [List.mem_singleton.1 hc, dig_toNat h]; omega
    · rename_i h
      intro c hc
      rcases List.mem_append.1 hc with hc | hc
      · exact ih (u / 10) (by omega) c hc
      · rw [List.mem_singleton.1 hc, dig_toNat (Nat.mod_lt _ (by omega))]; have := Nat.mod_lt u (show 0 < 10 by omega); omega
theorem dec_ne (u : Nat) : Lib.decDigits u ≠ [] := by
  rw [Lib.decDigits]
  split <;> simp
theorem dec_noblank (u : Nat) : ∀ c ∈ Lib.decDigits u, c ≠ 32 := fun c hc e => by
  have := dec_dig u c hc
  rw [e] at this
  have e2 : (32 : UInt8).toNat = 32 := rfl
  omega

/-- a text cut at its blanks -/
def wordsB : List UInt8 → List (List UInt8)
  | [] => [[]]
  | c :: t => if c = 32 then [] :: wordsB t else match wordsB t with
    | [] => [[c]]
    | w :: ws => (c :: w) :: ws
theorem wordsB_app : ∀ (w r : List UInt8), (∀ c ∈ w, c ≠ 32) → wordsB (w ++ 32 :: r) = w :: wordsB r
  | [], r, _ => by show (if (32 : UInt8) = 32 then [] :: wordsB r else _) = _; rw [if_pos rfl]
  | c :: t, r, h => by
    have ih := wordsB_app t r (fun x hx => h x (List.mem_cons_of_mem _ hx))
    show (if c = 32 then [] :: wordsB (t ++ 32 :: r) else match wordsB (t ++ 32 :: r) with | [] => [[c]] | w :: ws => (c :: w) :: ws) = _
    rw [if_neg (h c List.mem_cons_self), ih]
theorem wordsB_one : ∀ (w : List UInt8), (∀ c ∈ w, c ≠ 32) → wordsB w = [w]
  | [], _ => rfl
  | c :: t, h => by
    have ih := wordsB_one t (fun x hx => h x (List.mem_cons_of_mem _ hx))
    show (if c = 32 then [] :: wordsB t else match wordsB t with | [] => [[c]] | w :: ws => (c :: w) :: ws) = _
    rw [if_neg (h c List.mem_cons_self), ih]

/-- a kind's word -/
def kW (k : Int) : List UInt8 :=
  if k = 1 then [115, 117, 98, 109, 105, 116] else if k = 2 then [99, 97, 110, 99, 101, 108] else if k = 3 then [116, 105, 99, 107]
  else if k = 4 then [100, 114, 97, 105, 110] else if k = 5 then [117, 112] else if k = 6 then [100, 111, 119, 110]
  else if k = 7 then [100, 111, 110, 101] else []
/-- the numbers that a kind tells -/
def kN (k a b c : Int) : List Int := if k = 1 then [a, b, c] else if k = 7 then [a, b] else [a]
/-- words with blanks ahead of each -/
def tailB : List Int → List UInt8
  | [] => []
  | n :: t => 32 :: (Lib.decDigits n.toNat ++ tailB t)
/-- a right command's text -/
def cmSh (k a b c : Int) : List UInt8 := kW k ++ tailB (kN k a b c)
theorem wordsB_tail : ∀ (w : List UInt8) (ns : List Int), (∀ c ∈ w, c ≠ 32) → wordsB (w ++ tailB ns) = w :: ns.map (fun n => Lib.decDigits n.toNat)
  | w, [], h => by show wordsB (w ++ []) = _; rw [List.append_nil, wordsB_one w h]; rfl
  | w, n :: t, h => by
    show wordsB (w ++ 32 :: (Lib.decDigits n.toNat ++ tailB t)) = _
    rw [wordsB_app w _ h, wordsB_tail _ t (dec_noblank _)]; rfl
theorem kind_of {k a b c : Int} (h : cmB k a b c = true) : k = 1 ∨ k = 2 ∨ k = 3 ∨ k = 4 ∨ k = 5 ∨ k = 6 ∨ k = 7 := by
  by_cases e : k = 1 ∨ k = 2 ∨ k = 3 ∨ k = 4 ∨ k = 5 ∨ k = 6 ∨ k = 7
  · exact e
  · have : cmB k a b c = false := by
      unfold cmB
      rw [if_neg (by omega), if_neg (by omega), if_neg (by omega), if_neg (by omega), if_neg (by omega), if_neg (by omega), if_neg (by omega)]
    rw [this] at h; cases h
theorem kW_blank (k : Int) : ∀ c ∈ kW k, c ≠ 32 := by
  unfold kW
  split
  · decide
  split
  · decide
  split
  · decide
  split
  · decide
  split
  · decide
  split
  · decide
  split
  · decide
  · intro c hc; cases hc
theorem kW_inj {k k' : Int} (h : k = 1 ∨ k = 2 ∨ k = 3 ∨ k = 4 ∨ k = 5 ∨ k = 6 ∨ k = 7) (h' : k' = 1 ∨ k' = 2 ∨ k' = 3 ∨ k' = 4 ∨ k' = 5 ∨ k' = 6 ∨ k' = 7) (e : kW k = kW k') : k = k' := by
  rcases h with rfl | rfl | rfl | rfl | rfl | rfl | rfl <;> rcases h' with rfl | rfl | rfl | rfl | rfl | rfl | rfl <;> first | rfl | (exfalso; revert e; decide)
theorem cin_t {x lo hi : Int} (h : inB x lo hi = true) : lo ≤ x ∧ x ≤ hi := by unfold inB at h; simpa using h
theorem cok_t {x : Int} (h : okB x = true) : 0 ≤ x ∧ x ≤ 1000000000 := by unfold okB at h; simpa [inB] using h
theorem cmB_num {k a b c : Int} (h : cmB k a b c = true) : (0 ≤ a ∧ a ≤ 1000000000) ∧ (0 ≤ b ∧ b ≤ 1000000) ∧ (0 ≤ c ∧ c ≤ 9) ∧ (k ≠ 1 → c = 0) ∧ (k ≠ 1 → k ≠ 7 → b = 0) := by
  rcases kind_of h with rfl | rfl | rfl | rfl | rfl | rfl | rfl <;> simp [cmB] at h <;> obtain ⟨h1, h2, h3⟩ := h
  · have := cin_t h1; have := cin_t h2; have := cin_t h3; omega
  · have := cin_t h1; omega
  · have := cok_t h1; omega
  · have := cin_t h1; omega
  · have := cin_t h1; omega
  · have := cin_t h1; omega
  · have := cin_t h1; have := cin_t h2; omega
theorem cmSh_words (k a b c : Int) : wordsB (cmSh k a b c) = kW k :: (kN k a b c).map (fun n => Lib.decDigits n.toNat) := wordsB_tail _ _ (kW_blank k)
/-- one text belongs to one command -/
theorem cmSh_inj {k a b c k' a' b' c' : Int} (h : cmB k a b c = true) (h' : cmB k' a' b' c' = true) (e : cmSh k a b c = cmSh k' a' b' c') : k = k' ∧ a = a' ∧ b = b' ∧ c = c' := by
  have w := congrArg wordsB e
  rw [cmSh_words, cmSh_words] at w
  injection w with w1 w2
  obtain rfl := kW_inj (kind_of h) (kind_of h') w1
  obtain ⟨a1, b1, c1, d1, e1⟩ := cmB_num h
  obtain ⟨a2, b2, c2, d2, e2⟩ := cmB_num h'
  have key : ∀ {x y : Int}, 0 ≤ x → 0 ≤ y → Lib.decDigits x.toNat = Lib.decDigits y.toNat → x = y := fun hx hy q => by
    have := dec_inj q; omega
  unfold kN at w2
  by_cases k1 : k = 1
  · rw [if_pos k1, if_pos k1] at w2
    simp only [List.map_cons, List.map_nil, List.cons.injEq, and_true] at w2
    exact ⟨rfl, key a1.1 a2.1 w2.1, key b1.1 b2.1 w2.2.1, key c1.1 c2.1 w2.2.2⟩
  · rw [if_neg k1, if_neg k1] at w2
    by_cases k7 : k = 7
    · rw [if_pos k7, if_pos k7] at w2
      simp only [List.map_cons, List.map_nil, List.cons.injEq, and_true] at w2
      exact ⟨rfl, key a1.1 a2.1 w2.1, key b1.1 b2.1 w2.2, (d1 k1).trans (d2 k1).symm⟩
    · rw [if_neg k7, if_neg k7] at w2
      simp only [List.map_cons, List.map_nil, List.cons.injEq, and_true] at w2
      exact ⟨rfl, key a1.1 a2.1 w2, (e1 k1 k7).trans (e2 k1 k7).symm, (d1 k1).trans (d2 k1).symm⟩
theorem cmSh_ne (k a b c : Int) : cmSh k a b c ≠ [] := by
  intro e
  have := congrArg List.length e
  unfold cmSh at this
  have hn : kN k a b c ≠ [] := by
    unfold kN
    split
    · simp
    · split <;> simp
  cases h : kN k a b c with
  | nil => exact hn h
  | cons n t => rw [h] at this; simp [tailB] at this

/-- what a reading tells: the command of this text, none where there is none -/
def IsRd (s : List UInt8) (k a b c : Int) (is : Bool) : Prop :=
  (is = true ∧ cmB k a b c = true ∧ cmSh k a b c = s) ∨ (is = false ∧ k = 0 ∧ a = 0 ∧ b = 0 ∧ c = 0 ∧ ∀ k' a' b' c', cmB k' a' b' c' = true → cmSh k' a' b' c' ≠ s)
theorem IsRd.uniq {s : List UInt8} {k a b c k' a' b' c' : Int} {is is' : Bool} (h : IsRd s k a b c is) (h' : IsRd s k' a' b' c' is') : k = k' ∧ a = a' ∧ b = b' ∧ c = c' ∧ is = is' := by
  rcases h with ⟨rfl, h1, h2⟩ | ⟨rfl, rfl, rfl, rfl, rfl, h2⟩ <;> rcases h' with ⟨rfl, g1, g2⟩ | ⟨rfl, rfl, rfl, rfl, rfl, g2⟩
  · obtain ⟨e1, e2, e3, e4⟩ := cmSh_inj h1 g1 (h2.trans g2.symm)
    exact ⟨e1, e2, e3, e4, rfl⟩
  · exact absurd h2 (g2 _ _ _ _ h1)
  · exact absurd g2 (h2 _ _ _ _ g1)
  · exact ⟨rfl, rfl, rfl, rfl, rfl⟩
/-- the number that word i tells, 0 where there is no such word -/
def rdN (ws : List (List UInt8)) (f : List UInt8 → Int) (i : Nat) : Int := if i < ws.length then f ((ws[i]?).getD []) else 0
theorem rd_back {f : List UInt8 → Int} (hf : ∀ u : Nat, u ≤ 1000000000 → f (Lib.decDigits u) = (u : Int)) {k a b c : Int} (h : cmB k a b c = true) :
    rdN (wordsB (cmSh k a b c)) f 1 = a ∧ rdN (wordsB (cmSh k a b c)) f 2 = b ∧ rdN (wordsB (cmSh k a b c)) f 3 = c := by
  obtain ⟨a1, b1, c1, d1, e1⟩ := cmB_num h
  have key : ∀ x : Int, 0 ≤ x → x ≤ 1000000000 → f (Lib.decDigits x.toNat) = x := fun x h0 h1 => by
    rw [hf x.toNat (by omega)]; omega
  rw [cmSh_words]
  unfold kN rdN
  by_cases k1 : k = 1
  · rw [if_pos k1]
    refine ⟨?_, ?_, ?_⟩
    · exact key a a1.1 (by omega)
    · exact key b b1.1 (by omega)
    · exact key c c1.1 (by omega)
  · rw [if_neg k1]
    by_cases k7 : k = 7
    · rw [if_pos k7]
      refine ⟨?_, ?_, ?_⟩
      · exact key a a1.1 (by omega)
      · exact key b b1.1 (by omega)
      · exact (d1 k1).symm
    · rw [if_neg k7]
      refine ⟨?_, ?_, ?_⟩
      · exact key a a1.1 (by omega)
      · exact (e1 k1 k7).symm
      · exact (d1 k1).symm
/-- where no kind's text with the numbers read is this text, there is no command of this text -/
theorem isRd_none {f : List UInt8 → Int} (hf : ∀ u : Nat, u ≤ 1000000000 → f (Lib.decDigits u) = (u : Int)) {s : List UInt8}
    (h : ∀ k : Int, 1 ≤ k → k ≤ 7 → cmB k (rdN (wordsB s) f 1) (rdN (wordsB s) f 2) (rdN (wordsB s) f 3) = true → cmSh k (rdN (wordsB s) f 1) (rdN (wordsB s) f 2) (rdN (wordsB s) f 3) ≠ s) :
    IsRd s 0 0 0 0 false := by
  refine Or.inr ⟨rfl, rfl, rfl, rfl, rfl, fun k a b c hc e => ?_⟩
  obtain ⟨r1, r2, r3⟩ := rd_back hf hc
  rw [e] at r1 r2 r3
  have hk := kind_of hc
  refine h k (by omega) (by omega) ?_ ?_
  · rw [r1, r2, r3]; exact hc
  · rw [r1, r2, r3]; exact e
/-- no numeral but 0's begins with a 0 -/
theorem dec_zero (u : Nat) : ∀ t, Lib.decDigits u = 48 :: t → t = [] := by
  induction u using Nat.strongRecOn with
  | ind u ih =>
    intro t
    rw [Lib.decDigits]
    split
    · intro e; injection e with _ e; exact e.symm
    · rename_i h
      intro e
      cases hq : Lib.decDigits (u / 10) with
      | nil => exact absurd hq (dec_ne _)
      | cons c r =>
        rw [hq] at e
        injection e with e1 e2
        subst e1
        have hr := ih (u / 10) (by omega) r hq
        subst hr
        have hv := valB_dec (u / 10)
        rw [hq] at hv
        have : valB [48] = 0 := rfl
        omega
theorem valB_bd : ∀ (l : List UInt8), (∀ c ∈ l, 48 ≤ c.toNat ∧ c.toNat ≤ 57) → valB l < 10 ^ l.length := by
  intro l
  induction hn : l.length generalizing l with
  | zero => intro _; rw [List.length_eq_zero_iff.1 hn]; show 0 < 10 ^ 0; omega
  | succ n ih =>
    intro h
    obtain ⟨r, c, rfl⟩ : ∃ r c, l = r ++ [c] := ⟨l.dropLast, l.getLast (by intro e; rw [e] at hn; cases hn), (List.dropLast_concat_getLast _).symm⟩
    have hr := ih r (by simpa using hn) (fun x hx => h x (List.mem_append_left _ hx))
    have hc := h c (List.mem_append_right _ List.mem_cons_self)
    rw [valB_snoc, Nat.pow_succ]
    omega
end Go.Proofs.YtppnnnijdfbgpaaDoor
