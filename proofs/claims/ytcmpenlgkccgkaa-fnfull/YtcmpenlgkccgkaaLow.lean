/- The lower of two: the model goes through both at once, the program through the cuts of the one at the other's levels. -/
import Derived.Test.YtcmpenlgkccgkaaPkA
import Derived.Test.YtcmpenlgkccgkaaCut
namespace Go.Proofs.Ytcmpenlgkccgkaa
open Go.RowKit

def lowAt (la lb : List Lev) (t : Int) : Int := min (atI la t) (atI lb t)
def stepT (la lb : List Lev) (t : Int) : Int := min (nxt la (lvl la t) 1000000000) (nxt lb (lvl lb t) 1000000000)
/-- from t on these are the times of both, and what is free in both -/
inductive LowR (la lb : List Lev) : Int → List Lev → Prop
  | stop (t : Int) (h : ¬ t < 1000000000) : LowR la lb t []
  | step (t : Int) (l : List Lev) (h : t < 1000000000) (h2 : LowR la lb (stepT la lb t) l) : LowR la lb t ((t, lowAt la lb t) :: l)

def joinL (out l : List Lev) : List Lev := l.foldl (fun o m => addL o m.1 m.2) out
theorem joinL_cons (out : List Lev) (m : Lev) (l : List Lev) : joinL out (m :: l) = joinL (addL out m.1 m.2) l := rfl
theorem joinL_nil (out : List Lev) : joinL out [] = out := rfl
theorem joinL_app (out l r : List Lev) : joinL out (l ++ r) = joinL (joinL out l) r := by unfold joinL; rw [List.foldl_append]

/-- level i of the one against the other's cut -/
def rawC (la lb : List Lev) (i : Nat) : List Lev := (cpd lb (fr la i) (nxt la i 1000000000)).map fun m => (m.1, min (fe la i) m.2)
def rawFrom (la lb : List Lev) : Nat → Nat → List Lev
  | 0, _ => []
  | d + 1, i => rawC la lb i ++ rawFrom la lb d (i + 1)

theorem get_fr {c : List Lev} {j : Nat} (h : j < c.length) : c[j].1 = fr c j := by unfold fr; rw [List.getElem?_eq_getElem h]; rfl
theorem get_fe {c : List Lev} {j : Nat} (h : j < c.length) : c[j].2 = fe c j := by unfold fe; rw [List.getElem?_eq_getElem h]; rfl

theorem PO.cpd_nxt {T : Int} {ls : List Lev} (po : PO T ls) {x y : Int} (hx : 0 ≤ x) (h : x < y) (hy : y ≤ 1000000000) {j : Nat} (hj : j < (cpd ls x y).length) :
    nxt (cpd ls x y) j y = min (nxt ls (lvl ls x + j) 1000000000) y ∧ lvl ls (fr (cpd ls x y) j) = lvl ls x + j ∧ x ≤ fr (cpd ls x y) j ∧ fr (cpd ls x y) j < y ∧ fe (cpd ls x y) j = fe ls (lvl ls x + j) := by
  have hlen := po.dur_len hx h
  have hcl := cpd_len ls x y
  rw [hcl, hlen] at hj
  obtain ⟨a1, a2, a3⟩ := po.lvl_spec hx
  obtain ⟨b1, b2, b3⟩ := po.lvl_spec (t := y - 1) (by omega)
  have hfr : fr (cpd ls x y) j = max (fr ls (lvl ls x + j)) x := by
    cases j with
    | zero => rw [cpd_fr0 (by omega), Nat.add_zero]; omega
    | succ j =>
      rw [cpd_fr, dur_fr h hj]
      have := a3 (lvl ls x + (j + 1)) (by omega) (by omega)
      omega
  have hB := po.le (i := lvl ls x + j) (j := lvl ls (y - 1)) (by omega) b1
  have hnx : nxt (cpd ls x y) j y = min (nxt ls (lvl ls x + j) 1000000000) y := by
    by_cases hj1 : j + 1 < lvl ls (y - 1) + 1 - lvl ls x
    · rw [nxt_in (by omega), cpd_fr, dur_fr h hj1, nxt_in (by omega)]
      have := po.le (i := lvl ls x + (j + 1)) (j := lvl ls (y - 1)) (by omega) b1
      rw [show lvl ls x + j + 1 = lvl ls x + (j + 1) from by omega]
      omega
    · rw [nxt_out (by omega)]
      by_cases hn : lvl ls x + j + 1 < ls.length
      · rw [nxt_in hn]
        have := b3 (lvl ls x + j + 1) (by omega) hn
        omega
      · rw [nxt_out hn]; omega
  have hA : lvl ls x + j + 1 < ls.length → x < fr ls (lvl ls x + j + 1) := fun hn => a3 _ (by omega) hn
  refine ⟨hnx, po.lvl_eq (by omega) (by omega) (by omega) (fun hn => ?_), by omega, by omega, by rw [cpd_fe, dur_fe h hj]⟩
  have h1 := hA hn
  have h2 := po.lt (i := lvl ls x + j) (j := lvl ls x + j + 1) (by omega) hn
  omega

theorem low_run {Ta Tb : Int} {la lb : List Lev} (pa : PO Ta la) (pb : PO Tb lb) {i : Nat} (hi : i < la.length) {l : List Lev} (hl : LowR la lb (nxt la i 1000000000) l) :
    ∀ d j, j + d = (cpd lb (fr la i) (nxt la i 1000000000)).length →
      LowR la lb (if j < (cpd lb (fr la i) (nxt la i 1000000000)).length then fr (cpd lb (fr la i) (nxt la i 1000000000)) j else nxt la i 1000000000)
        (((cpd lb (fr la i) (nxt la i 1000000000)).drop j).map (fun m => (m.1, min (fe la i) m.2)) ++ l) := by
  have hb := nxt_bd pa hi
  have hx := pa.pos hi
  intro d
  induction d with
  | zero =>
    intro j hj
    rw [if_neg (by omega), List.drop_eq_nil_of_le (by omega)]
    exact hl
  | succ d ih =>
    intro j hj
    have hj1 : j < (cpd lb (fr la i) (nxt la i 1000000000)).length := by omega
    obtain ⟨n1, n2, n3, n4, n5⟩ := pb.cpd_nxt hx hb.1 hb.2 hj1
    have hla : lvl la (fr (cpd lb (fr la i) (nxt la i 1000000000)) j) = i := pa.lvl_eq (by omega) hi n3 (fun hn => by rw [nxt_in hn] at n4 ⊢; exact n4)
    rw [if_pos hj1, List.drop_eq_getElem_cons hj1, List.map_cons, List.cons_append]
    rw [get_fr hj1, get_fe hj1]
    have e3 : min (fe la i) (fe (cpd lb (fr la i) (nxt la i 1000000000)) j) = lowAt la lb (fr (cpd lb (fr la i) (nxt la i 1000000000)) j) := by
      unfold lowAt atI; rw [hla, n2, n5]
    rw [e3]
    refine LowR.step _ _ (by omega) ?_
    have e4 : stepT la lb (fr (cpd lb (fr la i) (nxt la i 1000000000)) j) = if j + 1 < (cpd lb (fr la i) (nxt la i 1000000000)).length then fr (cpd lb (fr la i) (nxt la i 1000000000)) (j + 1) else nxt la i 1000000000 := by
      unfold stepT; rw [hla, n2, Int.min_comm, ← n1]; rfl
    rw [e4]
    exact ih (j + 1) (by omega)

theorem low_all {Ta Tb : Int} {la lb : List Lev} (pa : PO Ta la) (pb : PO Tb lb) : ∀ d i, i + d = la.length → LowR la lb (if i < la.length then fr la i else 1000000000) (rawFrom la lb d i)
  | 0, i, h => by rw [if_neg (by omega)]; exact LowR.stop _ (by omega)
  | d + 1, i, h => by
    have hi : i < la.length := by omega
    have hn : LowR la lb (nxt la i 1000000000) (rawFrom la lb d (i + 1)) := low_all pa pb d (i + 1) (by omega)
    have hb := nxt_bd pa hi
    have hx := pa.pos hi
    have hlen := pb.dur_len hx hb.1
    have hcl := cpd_len lb (fr la i) (nxt la i 1000000000)
    have hm := pb.lvl_mono hx (t := nxt la i 1000000000 - 1) (by omega)
    have h0 : 0 < (cpd lb (fr la i) (nxt la i 1000000000)).length := by omega
    have := low_run pa pb hi hn _ 0 (Nat.zero_add _)
    rw [if_pos h0, cpd_fr0 (by omega)] at this
    rw [if_pos hi]
    exact this

theorem cpd_le {T : Int} {ls : List Lev} (po : PO T ls) (x y : Int) : (cpd ls x y).length ≤ 200 := by
  rw [cpd_len]
  have := po.n2
  by_cases c : y ≤ x
  · rw [dur_nil c]; simp
  · rw [dur_cut (by omega), List.length_take, List.length_drop]; omega

theorem rawFrom_len {Tb : Int} {la lb : List Lev} (pb : PO Tb lb) : ∀ d i, (rawFrom la lb d i).length ≤ 200 * d
  | 0, _ => by simp [rawFrom]
  | d + 1, i => by
    have := rawFrom_len (la := la) pb d (i + 1)
    have h2 := cpd_le pb (fr la i) (nxt la i 1000000000)
    rw [rawFrom, List.length_append, rawC, List.length_map]
    omega

end Go.Proofs.Ytcmpenlgkccgkaa
