/- What the program's ReadCommand tells is what the text says. -/
import Derived.Test.YtppnnnijdfbgpaaDoorCmdScan2
import Derived.Test.YtppnnnijdfbgpaaDoorShpI4
import Derived.Test.YtppnnnijdfbgpaaDoorInts
namespace Go.Proofs.YtppnnnijdfbgpaaDoor
open Go.RowKit

theorem kW_kd {kd : Nat} {k : Int} (h8 : kd < 8) (h1 : 1 ≤ kd) (hk : k = 1 ∨ k = 2 ∨ k = 3 ∨ k = 4 ∨ k = 5 ∨ k = 6 ∨ k = 7) (e : kW (kd : Int) = kW k) : (kd : Int) = k := kW_inj (by omega) hk e
theorem rd_yes {l wd : List UInt8} {ns : List Int} {kd : Nat} (h : ScD l wd ns) (hk : IsKd wd kd) (hc : cmB (kd : Int) (zg ns 0) (zg ns 1) (zg ns 2) = true) (hn : ns.length = tdK kd) : IsRd l kd (zg ns 0) (zg ns 1) (zg ns 2) true := by
  have h1 : 1 ≤ kd := by have := kind_of hc; omega
  have h8 := hk.1
  have hw := hk.2.1 h1
  rcases h with ⟨_, _, h3⟩ | ⟨rfl, _, _⟩
  · refine Or.inl ⟨rfl, hc, ?_⟩
    rw [h3, ← hw]
    unfold cmSh
    congr 2
    obtain rfl | rfl | rfl | rfl | rfl | rfl | rfl : kd = 1 ∨ kd = 2 ∨ kd = 3 ∨ kd = 4 ∨ kd = 5 ∨ kd = 6 ∨ kd = 7 := by omega
    · match ns, hn with
      | [_, _, _], _ => rfl
    · match ns, hn with
      | [_], _ => rfl
    · match ns, hn with
      | [_], _ => rfl
    · match ns, hn with
      | [_], _ => rfl
    · match ns, hn with
      | [_], _ => rfl
    · match ns, hn with
      | [_], _ => rfl
    · match ns, hn with
      | [_, _], _ => rfl
  · exact absurd hw (kW_pos h1 h8)
theorem map_dec_inj : ∀ {a b : List Int}, (∀ n ∈ a, 0 ≤ n) → (∀ n ∈ b, 0 ≤ n) → a.map (fun n => Lib.decDigits n.toNat) = b.map (fun n => Lib.decDigits n.toNat) → a = b
  | [], [], _, _, _ => rfl
  | [], _ :: _, _, _, h => by cases h
  | _ :: _, [], _, _, h => by cases h
  | x :: s, y :: t, ha, hb, h => by
    simp only [List.map_cons, List.cons.injEq] at h
    have e := dec_inj h.1
    have hx := ha x (by simp)
    have hy := hb y (by simp)
    have e2 : x = y := by omega
    rw [e2, map_dec_inj (fun n hn => ha n (by simp [hn])) (fun n hn => hb n (by simp [hn])) h.2]
theorem kN_ok {k a b c : Int} (h : cmB k a b c = true) : ∀ n ∈ kN k a b c, 0 ≤ n ∧ n ≤ 1000000000 := by
  obtain ⟨ha, hb, hc, _⟩ := cmB_num h
  intro n hn
  unfold kN at hn
  split at hn
  · simp only [List.mem_cons, List.not_mem_nil, or_false] at hn
    rcases hn with rfl | rfl | rfl <;> omega
  split at hn
  · simp only [List.mem_cons, List.not_mem_nil, or_false] at hn
    rcases hn with rfl | rfl <;> omega
  · simp only [List.mem_cons, List.not_mem_nil, or_false] at hn
    subst hn; omega
theorem rd_no {l wd : List UInt8} {ns : List Int} {kd : Nat} (h : ScD l wd ns) (hk : IsKd wd kd) (hno : cmB (kd : Int) (zg ns 0) (zg ns 1) (zg ns 2) = true → ns.length ≠ tdK kd) : IsRd l 0 0 0 0 false := by
  refine Or.inr ⟨rfl, rfl, rfl, rfl, rfl, fun k' a' b' c' hc e => ?_⟩
  have hb := kW_blank k'
  have hN := kN_ok hc
  have hkk := kind_of hc
  rcases h with ⟨h1, h2, h3⟩ | ⟨_, _, h3⟩
  · have e1 := wordsB_tail wd ns h1
    have e2 := wordsB_tail (kW k') (kN k' a' b' c') hb
    have e3 : cmSh k' a' b' c' = kW k' ++ tailB (kN k' a' b' c') := rfl
    rw [← e3, e, h3, e1] at e2
    obtain ⟨e4, e5⟩ := List.cons.inj e2
    have e6 := map_dec_inj h2 (fun n hn => (hN n hn).1) e5
    have hk1 : 1 ≤ kd := by
      rcases Nat.eq_zero_or_pos kd with h0 | h0
      · exfalso
        exact hk.2.2 h0 k'.toNat (by omega) (by omega) (by rw [show ((k'.toNat : Nat) : Int) = k' by omega, e4])
      · exact h0
    have e7 := kW_kd hk.1 hk1 hkk ((hk.2.1 hk1).trans e4)
    obtain ⟨_, _, _, d1, d2⟩ := cmB_num hc
    rw [e6] at hno
    obtain ⟨z0, z1, z2, z3⟩ : zg (kN k' a' b' c') 0 = a' ∧ zg (kN k' a' b' c') 1 = b' ∧ zg (kN k' a' b' c') 2 = c' ∧ (kN k' a' b' c').length = tdK kd := by
      by_cases q1 : k' = 1
      · subst q1
        obtain rfl : kd = 1 := by omega
        exact ⟨rfl, rfl, rfl, rfl⟩
      · by_cases q7 : k' = 7
        · subst q7
          obtain rfl : kd = 7 := by omega
          exact ⟨rfl, rfl, (d1 q1).symm, rfl⟩
        · have e8 : kN k' a' b' c' = [a'] := by unfold kN; rw [if_neg q1, if_neg q7]
          have e9 : tdK kd = 1 := by unfold tdK; rw [if_neg (by omega), if_neg (by omega), if_neg (by omega)]
          rw [e8, e9]
          exact ⟨rfl, (d2 q1 q7).symm, (d1 q1).symm, rfl⟩
    rw [z0, z1, z2, e7] at hno
    exact hno hc z3
  · exact h3 (kW k') (kN k' a' b' c') ⟨hb, hN, e.symm⟩
theorem own_sliceC {w : World} {base : Nat} {v : Value} {ns : List Int} (h : w.ownsRow base 2 1 v ns.length (ns.map (Value.int .i64))) : ∃ (a : Option Addr) (cap : Nat), v = .slice a ns.length cap := by
  rcases h.2 with ⟨rfl, e⟩ | ⟨g, cap, cur, rfl, _⟩
  · exact ⟨none, 0, by rw [e]⟩
  · exact ⟨_, cap, rfl⟩

end Go.Proofs.YtppnnnijdfbgpaaDoor
