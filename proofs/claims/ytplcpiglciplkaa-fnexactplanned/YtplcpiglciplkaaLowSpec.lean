/- The model's Lower. -/
import Derived.Test.YtplcpiglciplkaaLow
import Derived.Test.YtplcpiglciplkaaProfOk2
import Derived.Laws.ResultCell
namespace Go.Proofs.Ytplcpiglciplkaa
open Go.RowKit

/-- the lower of two -/
def lowL (la lb : List Lev) : List Lev := joinL [] (rawFrom la lb la.length 0)

theorem PO.nxt_next {T : Int} {ls : List Lev} (po : PO T ls) {t : Int} (ht : 0 ≤ t) {p : Nat} (hp : p ≤ ls.length) (h1 : ∀ j, j < p → fr ls j ≤ t) (h2 : p < ls.length → t < fr ls p) :
    nxt ls (lvl ls t) 1000000000 = if p < ls.length then fr ls p else 1000000000 := by
  have n1 := po.n1
  have hp0 : 0 < p := by
    by_cases c : p = 0
    · subst c; have := h2 (by omega); rw [po.z] at this; omega
    · omega
  have e : lvl ls t = p - 1 := po.lvl_eq ht (by omega) (h1 _ (by omega)) (fun h => by rw [show p - 1 + 1 = p from by omega] at h ⊢; exact h2 h)
  rw [e]
  unfold nxt
  rw [show p - 1 + 1 = p from by omega]

theorem own_LevS {w : World} {base : Nat} {a : Option Addr} {c : Nat} {out : List Lev} (h : w.ownsRow base 82 2 (.slice a out.length c) out.length (cellsOf out))
    (hw : ∀ i, i < out.length → (-9223372036854775808 ≤ fr out i ∧ fr out i ≤ 9223372036854775807) ∧ (-9223372036854775808 ≤ fe out i ∧ fe out i ≤ 9223372036854775807)) : LevS w a out.length c out := by
  have hc := @World.ownsRow.cells _ _ _ _ _ _ _ h
  have hl := h.lt
  rcases h.2 with ⟨h1, h0⟩ | ⟨g, cap, cur, h1, hb, hg, h2, h3, _⟩
  · obtain ⟨rfl, rfl⟩ : a = none ∧ c = 0 := by injection h1 with h1 _ h3; exact ⟨h1, h3⟩
    exact ⟨rfl, by omega, by omega, fun _ => rfl, hw, fun hn => by omega⟩
  · obtain ⟨rfl, rfl⟩ : a = some ⟨g, 0, none⟩ ∧ c = cap := by injection h1 with h1 _ h3; exact ⟨h1, h3⟩
    refine ⟨rfl, h2, h3, (fun h => by cases h), hw, fun hn => ⟨g, 0, rfl, (hl g rfl).2, fun i hi => ?_⟩⟩
    have hadd : ∀ j, (⟨g, 0, none⟩ : Addr).add j = ⟨g, j, none⟩ := fun j => by unfold Addr.add; split <;> simp_all
    obtain ⟨c0, c1⟩ := cellsOf_at out i hi
    have g0 := hc (g := g) rfl _ _ c0
    have g1 := hc (g := g) rfl _ _ c1
    rw [hadd] at g0 g1
    exact ⟨by simpa using g0, by simpa using g1⟩

theorem joinL_mem : ∀ (l out : List Lev) (m : Lev), m ∈ joinL out l → m ∈ out ∨ m ∈ l
  | [], _, _, h => Or.inl h
  | x :: l, out, m, h => by
    rw [joinL_cons] at h
    rcases joinL_mem l _ m h with h | h
    · unfold addL at h
      split at h
      · split at h
        · exact Or.inl h
        · rcases List.mem_append.1 h with h | h
          · exact Or.inl h
          · right; simp at h; rw [h]; exact List.mem_cons_self
      · rcases List.mem_append.1 h with h | h
        · exact Or.inl h
        · right; simp at h; rw [h]; exact List.mem_cons_self
    · exact Or.inr (List.mem_cons_of_mem _ h)

theorem LowR.bd {Ta Tb : Int} {la lb : List Lev} (pa : PO Ta la) (pb : PO Tb lb) {t : Int} {l : List Lev} (h : LowR la lb t l) (ht : 0 ≤ t) : ∀ m ∈ l, 0 ≤ m.1 ∧ m.1 < 1000000000 ∧ 0 ≤ m.2 ∧ m.2 ≤ 1000 := by
  induction h with
  | stop _ _ => intro m hm; cases hm
  | step t l h h2 ih =>
    intro m hm
    have a1 := pa.at_bd ht
    have b1 := pb.at_bd ht
    have a2 := nxt_bd pa (pa.lvl_spec ht).1
    have b2 := nxt_bd pb (pb.lvl_spec ht).1
    have a3 := pa.pos (pa.lvl_spec ht).1
    have b3 := pb.pos (pb.lvl_spec ht).1
    rcases List.mem_cons.1 hm with rfl | hm
    · unfold lowAt; omega
    · exact ih (by unfold stepT; omega) m hm

theorem lowL_bd {Ta Tb : Int} {la lb : List Lev} (pa : PO Ta la) (pb : PO Tb lb) : ∀ m ∈ lowL la lb, 0 ≤ m.1 ∧ m.1 < 1000000000 ∧ 0 ≤ m.2 ∧ m.2 ≤ 1000 := by
  intro m hm
  rcases joinL_mem _ _ m hm with h | h
  · cases h
  · have h1 := low_all pa pb la.length 0 (Nat.zero_add _)
    have n1 := pa.n1
    rw [if_pos (by omega), pa.z] at h1
    exact h1.bd pa pb (Int.le_refl _) m h

theorem lowL_wf {Ta Tb : Int} {la lb : List Lev} (pa : PO Ta la) (pb : PO Tb lb) : ∀ i, i < (lowL la lb).length → (-9223372036854775808 ≤ fr (lowL la lb) i ∧ fr (lowL la lb) i ≤ 9223372036854775807) ∧ (-9223372036854775808 ≤ fe (lowL la lb) i ∧ fe (lowL la lb) i ≤ 9223372036854775807) := by
  intro i hi
  have := lowL_bd pa pb _ (List.getElem_mem hi)
  rw [get_fr hi, get_fe hi] at this
  omega

theorem LowR.inv {la lb : List Lev} {t : Int} {l : List Lev} (h : LowR la lb t l) : (t < 1000000000 → ∃ l', l = (t, lowAt la lb t) :: l' ∧ LowR la lb (stepT la lb t) l') ∧ (¬ t < 1000000000 → l = []) :=
  match h with
  | .stop _ h => ⟨fun g => absurd g h, fun _ => rfl⟩
  | .step _ l h h2 => ⟨fun _ => ⟨l, rfl, h2⟩, fun g => absurd h g⟩

theorem results_box2 {P : Program} {fn : Func} {p u : Tmp} {ty : TypeId} (h : fn.results = #[.cell p ty, .tmp u]) (tmps : Array Value) (w : World) (g : Nat) (t : TypeId) (cs : Array Value) (fr : Nat × Nat) (d : TypeDesc)
    (hp : tmps.getD p undef = .pointer (some ⟨g, 0, none⟩)) (hg : w.heap[g]? = some (.cells cs t fr))
    (hu : P.underlying ty = some d) (hd : (match d with | .struct _ | .array _ _ => true | _ => false) = true) (hi : (P.info? ty).map (·.size) = some cs.size) (v : Value) (hv : tmps.getD u undef = v) :
    (results fn tmps).run P w = .ok (.tuple #[.agg cs, v]) w := by
  rw [results_cell_tmp h, hp, hv]
  simp [asAddr, run_loadVar_row w g t ty cs fr d hg hu hd hi]

theorem boxed {W : World} {k : Nat} {v0 v1 : Value} {ty : TypeId} (h : W.heap[k]? = some (.cells #[v0, v1] ty (0, 0))) :
    W.cell? ⟨k, 0, none⟩ = some v0 ∧ W.cell? ⟨k, 1, none⟩ = some v1 ∧ W.frozen? ⟨k, 0, none⟩ = false ∧ W.frozen? ⟨k, 1, none⟩ = false :=
  ⟨cell_of_blk 0 h (by simp), cell_of_blk 1 h (by simp), free_of_blk 0 h, free_of_blk 1 h⟩

end Go.Proofs.Ytplcpiglciplkaa
