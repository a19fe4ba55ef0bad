/- Several texts in one. -/
import Derived.Test.YtcmpenlgkccgkaaLow
import Derived.Test.YtcmpenlgkccgkaaProfOk2
import Derived.Laws.ResultCell
import Derived.Test.YtcmpenlgkccgkaaTime
import Derived.Test.YtcmpenlgkccgkaaPkA
import Derived.Maps.AppendAt
/- The model's Lower. -/
namespace Go.Proofs.Ytcmpenlgkccgkaa
open Go.RowKit

/-- the lower of two -/
def lowL (la lb : List Lev) : List Lev := joinL [] (rawFrom la lb la.length 0)

theorem PO.nxt_next {T : Int} {ls : List Lev} (po : PO T ls) {t : Int} (ht : 0 ≤ t) {p : Nat} (hp : p ≤ ls.length) (h1 : ∀ j, j < p → fr ls j ≤ t) (h2 : p < ls.length → t < fr ls p) :
    nxt ls (lvl ls t) 1000000000 = if p < ls.length then fr ls p else 1000000000 := by
  have n1 := po.n1
  have hp0 : 0 < p := by
    by_cases c : p = 0
    · subst c; have := h2 (by omega); rw [po.z] at this; omega
    · omega
  have e : lvl ls t = p - 1 := po.lvl_eq ht (by omega) (h1 _ (by omega)) (fun h => by rw [show p - 1 + 1 = p from by omega] at h ⊢; exact h2 h)
  rw [e]
  unfold nxt
  rw [show p - 1 + 1 = p from by omega]

theorem own_LevS {w : World} {base : Nat} {a : Option Addr} {c : Nat} {out : List Lev} (h : w.ownsRow base 80 2 (.slice a out.length c) out.length (cellsOf out))
    (hw : ∀ i, i < out.length → (-9223372036854775808 ≤ fr out i ∧ fr out i ≤ 9223372036854775807) ∧ (-9223372036854775808 ≤ fe out i ∧ fe out i ≤ 9223372036854775807)) : LevS w a out.length c out := by
  have hc := @World.ownsRow.cells _ _ _ _ _ _ _ h
  have hl := h.lt
  rcases h.2 with ⟨h1, h0⟩ | ⟨g, cap, cur, h1, hb, hg, h2, h3, _⟩
  · obtain ⟨rfl, rfl⟩ : a = none ∧ c = 0 := by injection h1 with h1 _ h3; exact ⟨h1, h3⟩
    exact ⟨rfl, by omega, by omega, fun _ => rfl, hw, fun hn => by omega⟩
  · obtain ⟨rfl, rfl⟩ : a = some ⟨g, 0, none⟩ ∧ c = cap := by injection h1 with h1 _ h3; exact ⟨h1, h3⟩
    refine ⟨rfl, h2, h3, (fun h => by cases h), hw, fun hn => ⟨g, 0, rfl, (hl g rfl).2, fun i hi => ?_⟩⟩
    have hadd : ∀ j, (⟨g, 0, none⟩ : Addr).add j = ⟨g, j, none⟩ := fun j => by unfold Addr.add; split <;> simp_all
    obtain ⟨c0, c1⟩ := cellsOf_at out i hi
    have g0 := hc (g := g) rfl _ _ c0
    have g1 := hc (g := g) rfl _ _ c1
    rw [hadd] at g0 g1
    exact ⟨by simpa using g0, by simpa using g1⟩

theorem joinL_mem : ∀ (l out : List Lev) (m : Lev), m ∈ joinL out l → m ∈ out ∨ m ∈ l
  | [], _, _, h => Or.inl h
  | x :: l, out, m, h => by
    rw [joinL_cons] at h
    rcases joinL_mem l _ m h with h | h
    · unfold addL at h
      split at h
      · split at h
        · exact Or.inl h
        · rcases List.mem_append.1 h with h | h
          · exact Or.inl h
          · right; simp at h; rw [h]; exact List.mem_cons_self
      · rcases List.mem_append.1 h with h | h
        · exact Or.inl h
        · right; simp at h; rw [h]; exact List.mem_cons_self
    · exact Or.inr (List.mem_cons_of_mem _ h)

theorem LowR.bd {Ta Tb : Int} {la lb : List Lev} (pa : PO Ta la) (pb : PO Tb lb) {t : Int} {l : List Lev} (h : LowR la lb t l) (ht : 0 ≤ t) : ∀ m ∈ l, 0 ≤ m.1 ∧ m.1 < 1000000000 ∧ 0 ≤ m.2 ∧ m.2 ≤ 1000 := by
  induction h with
  | stop _ _ => intro m hm; cases hm
  | step t l h h2 ih =>
    intro m hm
    have a1 := pa.at_bd ht
    have b1 := pb.at_bd ht
    have a2 := nxt_bd pa (pa.lvl_spec ht).1
    have b2 := nxt_bd pb (pb.lvl_spec ht).1
    have a3 := pa.pos (pa.lvl_spec ht).1
    have b3 := pb.pos (pb.lvl_spec ht).1
    rcases List.mem_cons.1 hm with rfl | hm
    · unfold lowAt; omega
    · exact ih (by unfold stepT; omega) m hm

theorem lowL_bd {Ta Tb : Int} {la lb : List Lev} (pa : PO Ta la) (pb : PO Tb lb) : ∀ m ∈ lowL la lb, 0 ≤ m.1 ∧ m.1 < 1000000000 ∧ 0 ≤ m.2 ∧ m.2 ≤ 1000 := by
  intro m hm
  rcases joinL_mem _ _ m hm with h | h
  · cases h
  · have h1 := low_all pa pb la.length 0 (Nat.zero_add _)
    have n1 := pa.n1
    rw [if_pos (by omega), pa.z] at h1
    exact h1.bd pa pb (Int.le_refl _) m h

theorem lowL_wf {Ta Tb : Int} {la lb : List Lev} (pa : PO Ta la) (pb : PO Tb lb) : ∀ i, i < (lowL la lb).length → (-9223372036854775808 ≤ fr (lowL la lb) i ∧ fr (lowL la lb) i ≤ 9223372036854775807) ∧ (-9223372036854775808 ≤ fe (lowL la lb) i ∧ fe (lowL la lb) i ≤ 9223372036854775807) := by
  intro i hi
  have := lowL_bd pa pb _ (List.getElem_mem hi)
  rw [get_fr hi, get_fe hi] at this
  omega

theorem LowR.inv {la lb : List Lev} {t : Int} {l : List Lev} (h : LowR la lb t l) : (t < 1000000000 → ∃ l', l = (t, lowAt la lb t) :: l' ∧ LowR la lb (stepT la lb t) l') ∧ (¬ t < 1000000000 → l = []) :=
  match h with
  | .stop _ h => ⟨fun g => absurd g h, fun _ => rfl⟩
  | .step _ l h h2 => ⟨fun _ => ⟨l, rfl, h2⟩, fun g => absurd h g⟩

theorem results_box2 {P : Program} {fn : Func} {p u : Tmp} {ty : TypeId} (h : fn.results = #[.cell p ty, .tmp u]) (tmps : Array Value) (w : World) (g : Nat) (t : TypeId) (cs : Array Value) (fr : Nat × Nat) (d : TypeDesc)
    (hp : tmps.getD p undef = .pointer (some ⟨g, 0, none⟩)) (hg : w.heap[g]? = some (.cells cs t fr))
    (hu : P.underlying ty = some d) (hd : (match d with | .struct _ | .array _ _ => true | _ => false) = true) (hi : (P.info? ty).map (·.size) = some cs.size) (v : Value) (hv : tmps.getD u undef = v) :
    (results fn tmps).run P w = .ok (.tuple #[.agg cs, v]) w := by
  rw [results_cell_tmp h, hp, hv]
  simp [asAddr, run_loadVar_row w g t ty cs fr d hg hu hd hi]

theorem boxed {W : World} {k : Nat} {v0 v1 : Value} {ty : TypeId} (h : W.heap[k]? = some (.cells #[v0, v1] ty (0, 0))) :
    W.cell? ⟨k, 0, none⟩ = some v0 ∧ W.cell? ⟨k, 1, none⟩ = some v1 ∧ W.frozen? ⟨k, 0, none⟩ = false ∧ W.frozen? ⟨k, 1, none⟩ = false :=
  ⟨cell_of_blk 0 h (by simp), cell_of_blk 1 h (by simp), free_of_blk 0 h, free_of_blk 1 h⟩

end Go.Proofs.Ytcmpenlgkccgkaa

/- The program's joined, of one cut, and Lower. -/
namespace Go.Proofs.Ytcmpenlgkccgkaa
open Go.RowKit

theorem joinL_take {l : List Lev} {m : Nat} (h : m < l.length) : joinL [] (l.take (m + 1)) = addL (joinL [] (l.take m)) (fr l m) (fe l m) := by
  rw [List.take_succ_eq_append_getElem h, joinL_app, joinL_cons, joinL_nil, get_fr h, get_fe h]

theorem joinL_le : ∀ (l out : List Lev), (joinL out l).length ≤ out.length + l.length
  | [], _ => Nat.le_refl _
  | x :: l, out => by
    have h1 := joinL_le l (addL out x.1 x.2)
    have h2 := addL_len out x.1 x.2
    rw [joinL_cons, List.length_cons]
    omega

set_option maxRecDepth 8000 in
set_option maxHeartbeats 2000000 in
theorem joined1_any (T : Int) (b off : Nat) (al : Option Addr) (nl capl : Nat) (l : List Lev) (w : World) (hb : b < w.heap.size) (hc : w.cell? ⟨b, off, none⟩ = some (.slice al nl capl)) (h : LevS w al nl capl l) (hn : nl ≤ 50000) :
    Calls Try.prog 48 #[.int .i64 T, .slice (some ⟨b, off, none⟩) 1 1] w fun e w' =>
      Below w.heap.size w w' ∧ ((joinL [] l).length ≤ 200 → ∃ v, e = .returned (.tuple #[.agg #[.int .i64 T, v], .bool true]) ∧ w'.ownsRow w.heap.size 80 2 v (joinL [] l).length (cellsOf (joinL [] l))) ∧
        (200 < (joinL [] l).length → e = .returned (.tuple #[.agg #[.int .i64 0, .slice none 0 0], .bool false])) := by
  obtain ⟨i1, hj, hj0, hj1, hj2⟩ := info_parts info69
  have hlen := h.len
  go_enter Try.func48, Try.ntmps48
  go_wp2
  obtain ⟨W, hW⟩ : ∃ W, W = (w.alloc (.cells #[.int .i64 0, .slice none 0 0] 38)).alloc (.cells #[] 80) := ⟨_, rfl⟩
  rw [← hW]
  have hW1 : w.heap.size + 2 ≤ W.heap.size := by rw [hW]; simp
  have hR : W.heap[w.heap.size]? = some (.cells #[.int .i64 0, .slice none 0 0] 38 (0, 0)) := by rw [hW]; exact (Below.heap_alloc _ _ _ (by simp)).trans (heap_alloc_new _ _)
  have BW : Below w.heap.size w W := by rw [hW]; exact box_below.alloc (by simp) _
  have own0 : W.ownsRow (w.heap.size + 1) 80 2 (.slice (some ⟨w.heap.size + 1, 0, none⟩) 0 0) 0 [] := by
    rw [hW]
    have := World.ownsRow_made (base := w.heap.size + 1) (e := 80) (size := 2) (w.alloc (.cells #[.int .i64 0, .slice none 0 0] 38)) #[] 0 (by simp) (Nat.zero_le _) rfl
    simpa using this
  have HR : Hid (W.heap[w.heap.size]? = some (.cells #[.int .i64 0, .slice none 0 0] 38 (0, 0))) := hR
  clear hW hR
  go_loopw [6, 15] (fun v i wr => ∃ k : Nat, k ≤ 1 ∧ i = .int .i64 k ∧ Hid (wr.ownsRow (w.heap.size + 1) 80 2 v (joinL [] (if k = 0 then [] else l)).length (cellsOf (joinL [] (if k = 0 then [] else l)))) ∧ Below (w.heap.size + 1) W wr) (fun _ i _ => 1 - (intOf i).toNat)
  case atStart => exact ⟨0, by omega, rfl, own0, Below.refl _ _⟩
  case round =>
    obtain ⟨k, hk, rfl, own1, hw⟩ := hrel
    have zw := hw.size
    have Vr : Below w.heap.size w wr := BW.trans (hw.mono (by omega))
    by_cases hlt : k = 0
    · subst hlt
      have c0 := (Vr.cell (p := ⟨b, off, none⟩) hb).trans hc
      have hbr : b < wr.heap.size := by omega
      go_wp2
      go_loopw [6, 21] (fun v j wr2 => ∃ m : Nat, m ≤ nl ∧ j = .int .i64 m ∧ Hid (wr2.ownsRow (w.heap.size + 1) 80 2 v (joinL [] (l.take m)).length (cellsOf (joinL [] (l.take m)))) ∧ Below (w.heap.size + 1) W wr2) (fun _ j _ => nl - (intOf j).toNat)
      case atStart => exact ⟨0, by omega, rfl, own1, hw⟩
      case round =>
        obtain ⟨m, hm, rfl, own2, hw2⟩ := hrel
        have zw2 := hw2.size
        have V2 : Below w.heap.size w wr := BW.trans (hw2.mono (by omega))
        by_cases hlt2 : m < nl
        · obtain ⟨bl, offl, rfl, hbl, hatl⟩ := h.at_ (by omega)
          obtain ⟨x0, x1⟩ := cells_below (k := m) hatl V2 hbl (by omega)
          have HT := joinL_take (l := l) (m := m) (by omega)
          obtain ⟨out, hout⟩ : ∃ out, joinL [] (l.take m) = out := ⟨_, rfl⟩
          obtain ⟨t, ht⟩ : ∃ t, fr l m = t := ⟨_, rfl⟩
          obtain ⟨f, hf⟩ : ∃ f, fe l m = f := ⟨_, rfl⟩
          have hol : out.length ≤ 50000 := by rw [← hout]; have := joinL_le (l.take m) []; simp at this; omega
          rw [hout, ht, hf] at HT
          rw [hout] at own2
          rw [ht] at x0
          rw [hf] at x1
          clear hout ht hf
          obtain ⟨va, vcap, rfl⟩ := own_shape own2.out
          have HT1 : Hid (joinL [] (l.take (m + 1)) = addL out t f) := HT
          clear HT V2
          by_cases hl0 : out.length = 0
          · obtain rfl : out = [] := List.eq_nil_of_length_eq_zero hl0
            have HS : Hid (addL [] t f = [] ++ [(t, f)]) := rfl
            go_wp2
            have gz : (((([] : List Lev).length : Nat) : Int) == 0) = true := rfl
            go_quiet (fail)
            obtain ⟨w5, hw5⟩ : ∃ w5, w5 = (wr.alloc (.cells #[.int .i64 t, .int .i64 f] 80)).drewN nq := ⟨_, rfl⟩
            rw [← hw5]
            have B5 : Below wr.heap.size wr w5 := by rw [hw5]; exact box_below.drewN _
            obtain ⟨l0, l1, z5⟩ := box_cells (w := wr) (v0 := .int .i64 t) (v1 := .int .i64 f) (T := 80) (wi := w5) (by rw [hw5]; exact (Below.refl _ _).drewN _)
            have own5 := own_below own2.out B5
            have hw6 : Below (w.heap.size + 1) W w5 := hw2.then B5 (by omega)
            clear hw5
            clear gz
            go_wp2_with (at_builtin; refine wpList_append_own _ rfl (.tmp 40) (.tmp 42) 36 rfl (w.heap.size + 1) 80 i1 (.agg #[.int .i64 0, .int .i64 0]) 2 16 Try.underlying36 hj hj0 hj1 hj2 rfl (by decide) _ _ _ rfl (own5.alloc _) ⟨w5.heap.size, 0, none⟩ 1 1 [.int .i64 t, .int .i64 f] rfl rfl ?g1 ?g2 ?g3 ?g4 ?g5 ?_)
            case g1 =>
              intro j u hj
              match j, hj with
              | 0, hj => simp at hj; subst hj; simp [Addr.add]
              | 1, hj => simp at hj; subst hj; simp [Addr.add]
            case g2 => intro u hu; simp at hu; rcases hu with rfl | rfl <;> rfl
            case g3 => unfold maxLen; omega
            case g4 => omega
            case g5 => simp; omega
            intro v' w4 hown' hgrow _
            rw [← cellsOf_more] at hown'
            have hown2 : w4.ownsRow (w.heap.size + 1) 80 2 v' ([] ++ [(t, f)]).length (cellsOf ([] ++ [(t, f)])) := by rw [List.length_append]; exact hown'
            have B4 : Below (w.heap.size + 1) W w4 := (hw6.alloc (by omega) _).grown hgrow (by simp; omega) (own_base own5)
            have HO2 : Hid (w4.ownsRow (w.heap.size + 1) 80 2 v' (joinL [] (l.take (m + 1))).length (cellsOf (joinL [] (l.take (m + 1))))) := by unfold Hid; rw [HT1.out, HS.out]; exact hown2
            clear hown' hown2 hgrow
            go_wp2
            go_roundw
            case rel => exact ⟨m + 1, by omega, by go_num, HO2, B4⟩
            case measure => simp [intOf]; omega
          · obtain ⟨g2, cap2, hsl, hg21, hg22, hle2, hmx2, hcell⟩ := own_levs own2.out (by omega)
            obtain ⟨rfl, rfl⟩ : va = some ⟨g2, 0, none⟩ ∧ vcap = cap2 := by injection hsl with h1 _ h2; exact ⟨h1, h2⟩
            clear hsl hle2 hmx2
            obtain ⟨la', hla⟩ : ∃ la', fe out (out.length - 1) = la' := ⟨_, rfl⟩
            rw [hla] at hcell
            have hl1 : 0 < out.length := by omega
            by_cases hs : la' = f
            · rw [← hla] at hs
              have HS : Hid (addL out t f = out) := addL_same hl1 hs
              rw [hla] at hs
              subst hs
              clear hla
              go_wp2
              have gz : ((out.length : Int) == 0) = false := beq_eq_false_iff_ne.2 (by omega)
              have q1 : (0 : Int) ≤ (out.length : Int) - 1 := by omega
              have q2 : (out.length : Int) - 1 < (out.length : Int) := by omega
              have q3 : IntKind.i64.wrap ((out.length : Int) - 1) = (out.length : Int) - 1 := by rw [IntKind.wrap_i64]; omega
              have q4 : ((out.length : Int) - 1).toNat = out.length - 1 := by omega
              go_quiet (fail)
              go_wp2
              go_roundw
              case rel => exact ⟨m + 1, by omega, by go_num, (by unfold Hid; rw [HT1.out, HS.out]; exact own_below own2.out (box_below.drewN _)), (hw2.alloc (by omega) _).drewN _⟩
              case measure => simp [intOf]; omega
            · have HS : Hid (addL out t f = out ++ [(t, f)]) := addL_other hl1 (by rw [hla]; exact hs)
              have hs1 : (la' == f) = false := by simpa using hs
              have hs2 : (la' != f) = true := by simpa using hs
              clear hla
              go_wp2
              have gz : ((out.length : Int) == 0) = false := beq_eq_false_iff_ne.2 (by omega)
              have q1 : (0 : Int) ≤ (out.length : Int) - 1 := by omega
              have q2 : (out.length : Int) - 1 < (out.length : Int) := by omega
              have q3 : IntKind.i64.wrap ((out.length : Int) - 1) = (out.length : Int) - 1 := by rw [IntKind.wrap_i64]; omega
              have q4 : ((out.length : Int) - 1).toNat = out.length - 1 := by omega
              go_quiet (fail)
              obtain ⟨w5, hw5⟩ : ∃ w5, w5 = (wr.alloc (.cells #[.int .i64 t, .int .i64 f] 80)).drewN nq := ⟨_, rfl⟩
              rw [← hw5]
              have B5 : Below wr.heap.size wr w5 := by rw [hw5]; exact box_below.drewN _
              obtain ⟨l0, l1, z5⟩ := box_cells (w := wr) (v0 := .int .i64 t) (v1 := .int .i64 f) (T := 80) (wi := w5) (by rw [hw5]; exact (Below.refl _ _).drewN _)
              have own5 := own_below own2.out B5
              have hw6 : Below (w.heap.size + 1) W w5 := hw2.then B5 (by omega)
              clear hw5
              clear q1 q2 q3 q4 gz
              go_wp2_with (at_builtin; refine wpList_append_own _ rfl (.tmp 40) (.tmp 42) 36 rfl (w.heap.size + 1) 80 i1 (.agg #[.int .i64 0, .int .i64 0]) 2 16 Try.underlying36 hj hj0 hj1 hj2 rfl (by decide) _ _ _ rfl (own5.alloc _) ⟨w5.heap.size, 0, none⟩ 1 1 [.int .i64 t, .int .i64 f] rfl rfl ?g1 ?g2 ?g3 ?g4 ?g5 ?_)
              case g1 =>
                intro j u hj
                match j, hj with
                | 0, hj => simp at hj; subst hj; simp [Addr.add]
                | 1, hj => simp at hj; subst hj; simp [Addr.add]
              case g2 => intro u hu; simp at hu; rcases hu with rfl | rfl <;> rfl
              case g3 => unfold maxLen; omega
              case g4 => omega
              case g5 => simp; omega
              intro v' w4 hown' hgrow _
              rw [← cellsOf_more] at hown'
              have hown2 : w4.ownsRow (w.heap.size + 1) 80 2 v' (out ++ [(t, f)]).length (cellsOf (out ++ [(t, f)])) := by rw [List.length_append]; exact hown'
              have B4 : Below (w.heap.size + 1) W w4 := (hw6.alloc (by omega) _).grown hgrow (by simp; omega) (own_base own5)
              have HO2 : Hid (w4.ownsRow (w.heap.size + 1) 80 2 v' (joinL [] (l.take (m + 1))).length (cellsOf (joinL [] (l.take (m + 1))))) := by unfold Hid; rw [HT1.out, HS.out]; exact hown2
              clear hown' hown2 hgrow
              go_wp2
              go_roundw
              case rel => exact ⟨m + 1, by omega, by go_num, HO2, B4⟩
              case measure => simp [intOf]; omega
        · have e : nl = m := by omega
          subst e
          have HO2 : Hid (wr.ownsRow (w.heap.size + 1) 80 2 u6 (joinL [] l).length (cellsOf (joinL [] l))) := by have := own2.out; rw [List.take_of_length_le (by omega)] at this; exact this
          clear own2
          go_wp2
          go_roundw
          case rel => exact ⟨1, by omega, by go_num, HO2, hw2⟩
          case measure => simp [intOf]
    · obtain rfl : k = 1 := by omega
      have own3 : Hid (wr.ownsRow (w.heap.size + 1) 80 2 u6 (joinL [] l).length (cellsOf (joinL [] l))) := own1
      clear own1
      obtain ⟨va, vcap, rfl⟩ := own_shape own3.out
      have hR := (hw.block _ (by omega)).trans HR.out
      obtain ⟨o0, o1, f0, f1⟩ := boxed hR
      by_cases hbig : 200 < (joinL [] l).length
      · have HB : Hid (200 < (joinL [] l).length) := hbig
        go_wp2
        have hg := blk_set (blk_set hR (.int .i64 0) (j := 0)) (.slice none 0 0) (j := 1)
        refine bodyPost_ret (results_box2 rfl _ _ w.heap.size _ _ _ _ rfl hg Try.underlying38 rfl sized26 _ rfl) rfl ⟨(Vr.setCell (by simp) _).setCell (by simp) _, fun h => ?_, fun _ => rfl⟩
        have := HB.out; omega
      · have HB : Hid (¬ 200 < (joinL [] l).length) := hbig
        go_wp2
        have hg := blk_set (blk_set hR (.int .i64 T) (j := 0)) (.slice va (joinL [] l).length vcap) (j := 1)
        refine bodyPost_ret (results_box2 rfl _ _ w.heap.size _ _ _ _ rfl hg Try.underlying38 rfl sized26 _ rfl) rfl ⟨(Vr.setCell (by simp) _).setCell (by simp) _, fun _ => ⟨_, rfl, own_low (own_set (a := ⟨w.heap.size, 1, none⟩) (own_set (a := ⟨w.heap.size, 0, none⟩) own3.out (show w.heap.size < w.heap.size + 1 by omega) _) (show w.heap.size < w.heap.size + 1 by omega) _) (by omega)⟩, fun h => absurd h HB.out⟩

end Go.Proofs.Ytcmpenlgkccgkaa

/- The faces Later and Until, of the model and of the program. -/
namespace Go.Proofs.Ytcmpenlgkccgkaa

def faceI (f : Int → Int → Int) (t b : Int) : Int := if okB t = true then if okB b = true then f t b else -1 else -1

theorem face_tt {f : Int → Int → Int} {t b : Int} (h : okB t = true) (h' : okB b = true) : faceI f t b = f t b := by unfold faceI; rw [if_pos h, if_pos h']
theorem face_f {f : Int → Int → Int} {t b : Int} (h : okB t = false) : faceI f t b = -1 := by unfold faceI; rw [if_neg (by rw [h]; simp)]
theorem face_tf {f : Int → Int → Int} {t b : Int} (h : okB t = true) (h' : okB b = false) : faceI f t b = -1 := by unfold faceI; rw [if_pos h, if_neg (by rw [h']; simp)]

theorem specLater_any (t b : Int) (w : World) :
    Calls Try.prog 30 #[.int .i64 t, .int .i64 b] w fun e w' => e = .returned (.int .i64 (faceI laterI t b)) ∧ w' = w := by
  by_cases c1 : okB t = true
  · by_cases c2 : okB b = true
    · rw [face_tt c1 c2]
      obtain ⟨t0, t1⟩ := okB_t c1
      obtain ⟨b0, b1⟩ := okB_t c2
      go_enter Try.func30, Try.ntmps30
      go_wp2_with (first | (go_at_call 58; refine (specOk_any _ _).mono ?_; rintro e w' ⟨rfl, rfl⟩) | (go_at_call 35; refine (l1Later_any _ _ _ (by assumption) (by assumption) (by assumption) (by assumption)).mono ?_; rintro e w' ⟨rfl, rfl⟩))
      go_ret
      exact ⟨rfl, rfl⟩
    · simp only [Bool.not_eq_true] at c2
      rw [face_tf c1 c2]
      go_enter Try.func30, Try.ntmps30
      go_wp2_with (first | (go_at_call 58; refine (specOk_any _ _).mono ?_; rintro e w' ⟨rfl, rfl⟩))
      go_ret
      exact ⟨rfl, rfl⟩
  · simp only [Bool.not_eq_true] at c1
    rw [face_f c1]
    go_enter Try.func30, Try.ntmps30
    go_wp2_with (first | (go_at_call 58; refine (specOk_any _ _).mono ?_; rintro e w' ⟨rfl, rfl⟩))
    go_ret
    exact ⟨rfl, rfl⟩

theorem implLater_any (t b : Int) (w : World) :
    Calls Try.prog 39 #[.int .i64 t, .int .i64 b] w fun e w' => e = .returned (.int .i64 (faceI laterI t b)) ∧ w' = w := by
  by_cases c1 : okB t = true
  · by_cases c2 : okB b = true
    · rw [face_tt c1 c2]
      obtain ⟨t0, t1⟩ := okB_t c1
      obtain ⟨b0, b1⟩ := okB_t c2
      go_enter Try.func39, Try.ntmps39
      go_wp2_with (first | (go_at_call 63; refine (implOk_any _ _).mono ?_; rintro e w' ⟨rfl, rfl⟩) | (go_at_call 67; go_in) | (go_at_call 68; refine (mLater_any _ _ _ (by assumption) (by assumption) (by assumption) (by assumption)).mono ?_; rintro e w' ⟨rfl, rfl⟩))
      go_ret
      exact ⟨rfl, rfl⟩
    · simp only [Bool.not_eq_true] at c2
      rw [face_tf c1 c2]
      go_enter Try.func39, Try.ntmps39
      go_wp2_with (first | (go_at_call 63; refine (implOk_any _ _).mono ?_; rintro e w' ⟨rfl, rfl⟩) | (go_at_call 67; go_in))
      go_ret
      exact ⟨rfl, rfl⟩
  · simp only [Bool.not_eq_true] at c1
    rw [face_f c1]
    go_enter Try.func39, Try.ntmps39
    go_wp2_with (first | (go_at_call 63; refine (implOk_any _ _).mono ?_; rintro e w' ⟨rfl, rfl⟩) | (go_at_call 67; go_in))
    go_ret
    exact ⟨rfl, rfl⟩

/-- how long two stretches are together -/
def overI (a b c d : Int) : Int := if okB a = true ∧ okB b = true ∧ okB c = true ∧ okB d = true then untilI (max a c) (min b d) else -1

theorem okB_max {a c : Int} (h : okB a = true) (h' : okB c = true) : okB (max a c) = true := by
  have := okB_t h; have := okB_t h'; unfold okB inB; simp; omega

theorem okB_min {a c : Int} (h : okB a = true) (h' : okB c = true) : okB (min a c) = true := by
  have := okB_t h; have := okB_t h'; unfold okB inB; simp; omega

theorem overI_not {a b c d : Int} (h : ¬ (okB a = true ∧ okB b = true ∧ okB c = true ∧ okB d = true)) : overI a b c d = -1 := by
  unfold overI; rw [if_neg h]

theorem overI_yes {a b c d : Int} (ha : okB a = true) (hb : okB b = true) (hc : okB c = true) (hd : okB d = true) : overI a b c d = untilI (max a c) (min b d) := by
  unfold overI; rw [if_pos ⟨ha, hb, hc, hd⟩]

theorem overI_zero {a b c d : Int} (ha : okB a = true) (hb : okB b = true) (hc : okB c = true) (hd : okB d = true) (h : b ≤ a ∨ d ≤ c) : overI a b c d = 0 := by
  rw [overI_yes ha hb hc hd]
  have := okB_t ha; have := okB_t hb; have := okB_t hc; have := okB_t hd
  unfold untilI; split <;> (try split) <;> omega

theorem okB_neg : okB (-1) = false := by decide

theorem over_faces (a b c d : Int) : faceI untilI (faceI max a c) (faceI min b d) = overI a b c d := by
  by_cases ha : okB a = true
  · by_cases hc : okB c = true
    · rw [face_tt ha hc]
      by_cases hb : okB b = true
      · by_cases hd : okB d = true
        · rw [face_tt hb hd, face_tt (okB_max ha hc) (okB_min hb hd), overI_yes ha hb hc hd]
        · rw [overI_not (by simp [hd]), face_tf hb (by simpa using hd), face_tf (okB_max ha hc) okB_neg]
      · have hb' : okB b = false := by simpa using hb
        rw [overI_not (by simp [hb]), face_f (f := min) hb', face_tf (okB_max ha hc) okB_neg]
    · rw [overI_not (by simp [hc]), face_tf ha (by simpa using hc), face_f okB_neg]
  · have ha' : okB a = false := by simpa using ha
    rw [overI_not (by simp [ha]), face_f (f := max) ha', face_f okB_neg]

end Go.Proofs.Ytcmpenlgkccgkaa

/- Fit, of the model and of the program. -/
namespace Go.Proofs.Ytcmpenlgkccgkaa
open Go.RowKit

theorem laterI_bd {t b : Int} (h : 0 ≤ t) (hb : 0 ≤ b) (h1 : t ≤ 1000000000) : t ≤ laterI t b ∧ laterI t b ≤ 1000000000 := by unfold laterI; split <;> omega

set_option maxHeartbeats 1000000 in
theorem firstFit_any (T x long n : Int) (B m : Nat) (ls : List Lev) (w : World) (po : PO T ls) (hx : okB x = true) (hl : okB long = true)
    (hL : LevS w (some ⟨B, 0, none⟩) m m (cpd ls x 1000000000)) (hm : m ≤ 200) :
    Calls Try.prog 100 #[.slice (some ⟨B, 0, none⟩) m m, .int .i64 long, .int .i64 n] w fun e w' => e = .returned (.int .i64 (fitI ls x long n)) ∧ Below w.heap.size w w' := by
  obtain ⟨x0, x1⟩ := okB_t hx
  obtain ⟨l0, l1⟩ := okB_t hl
  have hlen := hL.len
  have HS : Hid (LevS w (some ⟨B, 0, none⟩) m m (cpd ls x 1000000000)) := hL
  have HPO : Hid (PO T ls) := po
  clear hL po
  go_enter Try.func100, Try.ntmps100
  go_wp2
  go_step3
  go_wp2
  go_step3
  go_wp2
  go_loopg [7] (m + 1) (fun g s7 wx => ∃ F : Nat, F + g = m + 1 ∧ F ≤ m ∧ s7 = .int .i64 F ∧ Hid (∀ j, j < F → ¬ okFit (cpd ls x 1000000000) long n j) ∧ Below w.heap.size w wx)
  case atStart => exact ⟨0, by omega, by omega, rfl, fun j hj => by omega, Below.refl _ _⟩
  case round =>
    obtain ⟨F, hFg, hFm, rfl, HF, hw⟩ := hrel
    by_cases hlt : F < m
    · have hx2 : x < 1000000000 := by
        by_cases c : x < 1000000000
        · exact c
        · exfalso
          rw [cpd_len, dur_nil (by omega)] at hlen
          simp at hlen; omega
      obtain ⟨k1, k2, k3, k4⟩ := HPO.out.cpd_lvl x0 hx2 (j := F) (by omega)
      obtain ⟨b, off, hbo, hbw, hat⟩ := HS.out.at_ (by omega)
      cases hbo
      obtain ⟨q0, q1⟩ := cells_below (k := F) hat hw hbw (by omega)
      simp only [Nat.zero_add] at q0 q1
      have OK : okB (fr (cpd ls x 1000000000) F) = true := by unfold okB; exact inB_mk ⟨by omega, by omega⟩
      obtain ⟨z0, z1⟩ := laterI_bd (t := fr (cpd ls x 1000000000) F) (b := long) (by omega) l0 (by omega)
      have HLA : Hid (LevAt w B 0 (cpd ls x 1000000000)) := hat
      clear k1 k4 hat
      go_wp2_with (go_at_call 39; refine (implLater_any _ _ _).mono ?_; rw [face_tt OK hl]; rintro e w' ⟨rfl, hq⟩; have hq' := hq.symm; clear hq; subst hq')
      go_loopg [7, 28] (m - F + 1) (fun g s7 s28 wx => ∃ i : Nat, i + g = m - F + 1 ∧ i ≤ m - F ∧ s7 = .int .i64 F ∧ s28 = .int .i64 i ∧ Hid (∀ q, F ≤ q → q < F + i → n ≤ fe (cpd ls x 1000000000) q) ∧ Below w.heap.size w wx)
      case atStart => exact ⟨0, by omega, by omega, rfl, rfl, fun q h1 h2 => by omega, hw⟩
      case round =>
        obtain ⟨i, hig, him, rfl, rfl, HI, hw2⟩ := hrel
        obtain ⟨t0, t1⟩ := cells_below (k := F) HLA.out hw2 hbw (by omega)
        simp only [Nat.zero_add] at t0 t1
        have hz := hw2.size
        have hBr : B < wr.heap.size := by omega
        by_cases hi : i < m - F
        · obtain ⟨r0, r1⟩ := cells_below (k := F + i) HLA.out hw2 hbw (by omega)
          rw [show 0 + (F + i) * 2 = F * 2 + i * 2 from by omega] at r0 r1
          by_cases d1 : laterI (fr (cpd ls x 1000000000) F) long ≤ fr (cpd ls x 1000000000) (F + i)
          · have R : Hid (fitI ls x long n = fr (cpd ls x 1000000000) F) := fitI_at (by omega) (HPO.out.okFit_mk x0 hx2 (p := F + i) (fun _ => d1) HI.out) HF.out
            go_wp2
            try rw [Exit.noGoto_ret]
            go_ret
            exact ⟨by rw [R.out]; rfl, hw2.alloc hw2.size _⟩
          · by_cases d2 : fe (cpd ls x 1000000000) (F + i) < n
            · have N : Hid (∀ j, j < F + i + 1 → ¬ okFit (cpd ls x 1000000000) long n j) := by
                intro j hj
                by_cases hjF : j < F
                · exact HF.out j hjF
                · exact HPO.out.okFit_skip x0 hx2 (j := F) (p := F + i) (by omega) (by omega) d2 j (by omega) (by omega)
              go_wp2
              go_roundg (m - (F + i))
              case measure => omega
              case rel => exact ⟨F + i + 1, by omega, by omega, by go_num, N.out, hw2.alloc hw2.size _⟩
            · have N : Hid (∀ q, F ≤ q → q < F + (i + 1) → n ≤ fe (cpd ls x 1000000000) q) := by
                intro q h1 h2
                by_cases e : q = F + i
                · subst e; omega
                · exact HI.out q h1 (by omega)
              go_wp2
              go_roundg (m - F - i)
              case measure => omega
              case rel => exact ⟨i + 1, by omega, by omega, rfl, by go_num, N.out, hw2.alloc hw2.size _⟩
        · have R : Hid (fitI ls x long n = fr (cpd ls x 1000000000) F) := fitI_at (by omega) (HPO.out.okFit_mk x0 hx2 (p := F + i) (fun h => by omega) HI.out) HF.out
          go_wp2
          try rw [Exit.noGoto_ret]
          go_ret
          exact ⟨by rw [R.out]; rfl, hw2⟩
    · have e : F = m := by omega
      subst e
      have R : Hid (fitI ls x long n = 1000000000) := fitI_no (fun j hj => HF.out j (by omega))
      go_wp2
      try rw [Exit.noGoto_ret]
      go_ret
      exact ⟨by rw [R.out]; rfl, hw⟩

/-- what Fit tells -/
noncomputable def fitF (T : Int) (ls : List Lev) (x long n : Int) : Int := if (poB T ls && (okB x && (okB long && inB n 0 T))) = true then fitI ls x long n else -1
theorem fitF_t {T : Int} {ls : List Lev} {x long n : Int} (h : (poB T ls && (okB x && (okB long && inB n 0 T))) = true) : fitF T ls x long n = fitI ls x long n := by unfold fitF; rw [if_pos h]
theorem fitF_f {T : Int} {ls : List Lev} {x long n : Int} (h : (poB T ls && (okB x && (okB long && inB n 0 T))) = false) : fitF T ls x long n = -1 := by unfold fitF; rw [if_neg (by rw [h]; simp)]

theorem cpd_wf {T : Int} {ls : List Lev} (po : PO T ls) {x : Int} (hx : okB x = true) : ∀ i, i < (cpd ls x 1000000000).length → (-9223372036854775808 ≤ fr (cpd ls x 1000000000) i ∧ fr (cpd ls x 1000000000) i ≤ 9223372036854775807) ∧ (-9223372036854775808 ≤ fe (cpd ls x 1000000000) i ∧ fe (cpd ls x 1000000000) i ≤ 9223372036854775807) := by
  intro i hi
  have := areaTo_bd po (okB_t hx).1 (y := 1000000000) (by omega) hi
  omega

set_option maxHeartbeats 1000000 in
theorem implFit_any (T x long n' : Int) (a : Option Addr) (n cap : Nat) (ls : List Lev) (w : World) (h : LevS w a n cap ls) :
    Calls Try.prog 92 #[.agg #[.int .i64 T, .slice a n cap], .int .i64 x, .int .i64 long, .int .i64 n'] w fun e w' => e = .returned (.int .i64 (fitF T ls x long n')) ∧ Below w.heap.size w w' := by
  have w0 : Below w.heap.size w (w.alloc (.cells #[.int .i64 T, .slice a n cap] 38)) := box_below
  by_cases c : (poB T ls && (okB x && okB x)) = true
  · obtain ⟨c1, c2⟩ : poB T ls = true ∧ okB x = true := by simpa using c
    by_cases c3 : okB long = true
    · by_cases c4 : n' < 0
      · have e1 : fitF T ls x long n' = -1 := fitF_f (by rw [c1, c2, c3, inB_no (by omega)]; rfl)
        rw [e1]
        clear e1
        go_enter Try.func92, Try.ntmps92
        go_wp2_with fail
        refine (stretchOk_any T x x a n cap ls _ (h.below w0)).mono ?_
        rw [c]
        rintro e w1 ⟨rfl, U1⟩
        go_wp2_with (go_at_call 63; refine (implOk_any _ _).mono ?_; rintro e w' ⟨rfl, rfl⟩)
        go_ret
        exact ⟨rfl, w0.then U1 (by simp)⟩
      · by_cases c5 : T < n'
        · have e1 : fitF T ls x long n' = -1 := fitF_f (by rw [c1, c2, c3, inB_no (by omega)]; rfl)
          rw [e1]
          clear e1
          go_enter Try.func92, Try.ntmps92
          go_wp2_with fail
          refine (stretchOk_any T x x a n cap ls _ (h.below w0)).mono ?_
          rw [c]
          rintro e w1 ⟨rfl, U1⟩
          obtain ⟨p0, p1, hz1⟩ := box_cells U1
          go_wp2_with (go_at_call 63; refine (implOk_any _ _).mono ?_; rintro e w' ⟨rfl, rfl⟩)
          go_ret
          exact ⟨rfl, w0.then U1 (by simp)⟩
        · rw [fitF_t (by rw [c1, c2, c3, inB_mk ⟨by omega, by omega⟩]; rfl)]
          have po := poB_t c1
          go_enter Try.func92, Try.ntmps92
          go_wp2_with fail
          refine (stretchOk_any T x x a n cap ls _ (h.below w0)).mono ?_
          rw [c]
          rintro e w1 ⟨rfl, U1⟩
          obtain ⟨p0, p1, hz1⟩ := box_cells U1
          go_wp2_with (go_at_call 63; refine (implOk_any _ _).mono ?_; rintro e w' ⟨rfl, hq⟩; have hq' := hq.symm; clear hq; subst hq')
          refine (copied_any T x 1000000000 a n cap ls _ (h.below (w0.then U1 (by simp))) po c2 (by decide)).mono ?_
          rintro e w2 ⟨B, m, rfl, hB, hL, hm, hm2, hb2⟩
          have V2 := (w0.then U1 (by simp)).then hb2 (w0.then U1 (by simp)).size
          have hS := hL.toS hm (by omega) (by rw [← hm]; exact cpd_wf po c2)
          clear p0 p1
          go_wp2_with fail
          refine (firstFit_any T x long n' B m ls _ po c2 c3 hS hm2).mono ?_
          rintro e w3 ⟨rfl, hb3⟩
          go_wp2
          go_ret
          exact ⟨rfl, V2.then hb3 V2.size⟩
    · simp only [Bool.not_eq_true] at c3
      have e1 : fitF T ls x long n' = -1 := fitF_f (by rw [c1, c2, c3]; rfl)
      rw [e1]
      clear e1
      go_enter Try.func92, Try.ntmps92
      go_wp2_with fail
      refine (stretchOk_any T x x a n cap ls _ (h.below w0)).mono ?_
      rw [c]
      rintro e w1 ⟨rfl, U1⟩
      go_wp2_with (go_at_call 63; refine (implOk_any _ _).mono ?_; rintro e w' ⟨rfl, rfl⟩)
      go_ret
      exact ⟨rfl, w0.then U1 (by simp)⟩
  · simp only [Bool.not_eq_true] at c
    have e1 : fitF T ls x long n' = -1 := by
      by_cases c1 : poB T ls = true
      · exact fitF_f (by rw [c1, show okB x = false from by simpa [c1] using c]; rfl)
      · exact fitF_f (by rw [show poB T ls = false from by simpa using c1]; rfl)
    rw [e1]
    clear e1
    go_enter Try.func92, Try.ntmps92
    go_wp2_with fail
    refine (stretchOk_any T x x a n cap ls _ (h.below w0)).mono ?_
    rw [c]
    rintro e w1 ⟨rfl, U1⟩
    go_wp2
    go_ret
    exact ⟨rfl, w0.then U1 (by simp)⟩

set_option maxHeartbeats 1000000 in
theorem l2Fit_any (T x long n' : Int) (a : Option Addr) (n cap : Nat) (ls : List Lev) (w : World) (h : LevS w a n cap ls) (po : PO T ls) (hx : okB x = true) (hl : okB long = true) (hn' : n' ≤ T) :
    Calls Try.prog 82 #[.agg #[.int .i64 T, .slice a n cap], .int .i64 x, .int .i64 long, .int .i64 n'] w fun e w' => e = .returned (.int .i64 (fitI ls x long n')) ∧ Below w.heap.size w w' := by
  obtain ⟨x0, x1⟩ := okB_t hx
  obtain ⟨l0, l1⟩ := okB_t hl
  have w0 : Below w.heap.size w (w.alloc (.cells #[.int .i64 T, .slice a n cap] 38)) := box_below
  by_cases c : x = 1000000000
  · subst c
    have e1 : fitI ls 1000000000 long n' = 1000000000 := fitI_no (fun i hi => by rw [cpd_len, dur_nil (by omega)] at hi; simp at hi)
    rw [e1]
    clear e1
    go_enter Try.func82, Try.ntmps82
    go_wp2
    go_ret
    exact ⟨rfl, w0⟩
  · have hx2 : x < 1000000000 := by omega
    have c' : (x == 1000000000) = false := by simpa using c
    obtain ⟨c1, c2, c3, c4, c5⟩ := po.cpd_all x0 hx2
    have hlen := h.len
    have hn2 := po.n2
    have I0 := po.okFit_iff (long := long) x0 hx2 hn' (j := 0) c2
    rw [c3] at I0
    have HI0 : Hid (n' ≤ leastI T ls x (laterI x long) ↔ okFit (cpd ls x 1000000000) long n' 0) := I0
    obtain ⟨z0, z1⟩ := laterI_bd (t := x) (b := long) x0 l0 x1
    have OL : okB (laterI x long) = true := by unfold okB; exact inB_mk ⟨by omega, z1⟩
    have HPO : Hid (PO T ls) := po
    have HC : Hid (lvl ls x + (cpd ls x 1000000000).length = ls.length ∧ 0 < (cpd ls x 1000000000).length ∧ fr (cpd ls x 1000000000) 0 = x) := ⟨c1, c2, c3⟩
    clear c I0 c1 c2 c3 c4 c5 po
    have HL0 := h.below w0
    by_cases d : n' ≤ leastI T ls x (laterI x long)
    · have R : Hid (fitI ls x long n' = x) := (fitI_at HC.out.2.1 (HI0.out.1 d) (fun i hi => by omega)).trans HC.out.2.2
      go_enter Try.func82, Try.ntmps82
      go_wp2
      go_region_held3 (fun w' => w'.cell? ⟨w.heap.size, 0, none⟩ = some (.int .i64 T) ∧ w'.cell? ⟨w.heap.size, 1, none⟩ = some (.slice a n cap)) (first | go_keep | exact KS2) (first | (go_at_call 35; refine (l1Later_any _ _ _ x0 x1 l0 l1).mono ?_; rintro e w' ⟨rfl, hq⟩; have hq' := hq.symm; clear hq; subst hq') | (go_at_call 93; refine (l2Least_any T x (laterI x long) a n cap ls _ ?_ HPO.out hx OL).mono ?_; (first | exact (h.below w0) | exact ((h.below w0)).drew); rintro e w2 ⟨rfl, hb2⟩; have U2 := (Below.refl (w.alloc (.cells #[.int .i64 T, .slice a n cap] 38)).heap.size (w.alloc (.cells #[.int .i64 T, .slice a n cap] 38))).drew.then hb2 (Below.refl (w.alloc (.cells #[.int .i64 T, .slice a n cap] 38)).heap.size (w.alloc (.cells #[.int .i64 T, .slice a n cap] 38))).size; obtain ⟨s0, s1, _⟩ := box_cells U2; have KS2 := And.intro s0 s1))
      all_goals
        go_wp2
        go_ret
        exact ⟨by rw [R.out]; rfl, w0.then U2 (by simp)⟩
    · have N0 : ¬ okFit (cpd ls x 1000000000) long n' 0 := fun g => d (HI0.out.2 g)
      have HN : Hid (∀ j, j < (cpd ls x 1000000000).length → (j = 0 ∨ lvl ls x + j < 0) → ¬ okFit (cpd ls x 1000000000) long n' j) := by
        intro j _ hj
        obtain rfl : j = 0 := by omega
        exact N0
      clear N0
      go_enter Try.func82, Try.ntmps82
      go_wp2
      go_region_held3 (fun w' => w'.cell? ⟨w.heap.size, 0, none⟩ = some (.int .i64 T) ∧ w'.cell? ⟨w.heap.size, 1, none⟩ = some (.slice a n cap)) (first | go_keep | exact KS2) (first | (go_at_call 35; refine (l1Later_any _ _ _ x0 x1 l0 l1).mono ?_; rintro e w' ⟨rfl, hq⟩; have hq' := hq.symm; clear hq; subst hq') | (go_at_call 93; refine (l2Least_any T x (laterI x long) a n cap ls _ ?_ HPO.out hx OL).mono ?_; (first | exact (h.below w0) | exact ((h.below w0)).drew); rintro e w2 ⟨rfl, hb2⟩; have U2 := (Below.refl (w.alloc (.cells #[.int .i64 T, .slice a n cap] 38)).heap.size (w.alloc (.cells #[.int .i64 T, .slice a n cap] 38))).drew.then hb2 (Below.refl (w.alloc (.cells #[.int .i64 T, .slice a n cap] 38)).heap.size (w.alloc (.cells #[.int .i64 T, .slice a n cap] 38))).size; obtain ⟨s0, s1, _⟩ := box_cells U2; have KS2 := And.intro s0 s1))
      all_goals
        clear KS2 s0 s1
        go_wp2
        go_loopw [9] (fun i wr => ∃ k : Nat, k ≤ n ∧ i = .int .i64 k ∧ Hid (∀ j, j < (cpd ls x 1000000000).length → (j = 0 ∨ lvl ls x + j < k) → ¬ okFit (cpd ls x 1000000000) long n' j) ∧ Below (w.alloc (.cells #[.int .i64 T, .slice a n cap] 38)).heap.size (w.alloc (.cells #[.int .i64 T, .slice a n cap] 38)) wr) (fun i _ => n - (intOf i).toNat)
        case atStart => exact ⟨0, by omega, rfl, HN, U2⟩
        case round =>
          obtain ⟨k, hk, rfl, HK, U⟩ := hrel
          obtain ⟨p0, p1, hz⟩ := box_cells U
          have V := w0.then U (by simp)
          have HV := h.below V
          by_cases hlt : k < n
          · obtain ⟨b, off, rfl, hbw, hat⟩ := h.at_ (by omega)
            obtain ⟨q0, q1⟩ := cells_below (k := k) hat V hbw (by omega)
            have f0 := HPO.out.pos (i := k) (by omega)
            have f1' := (HPO.out.el k (by omega)).1
            have f1 : fr ls k ≤ 1000000000 := by omega
            by_cases g : x < fr ls k
            · obtain ⟨y0, y1⟩ := laterI_bd (t := fr ls k) (b := long) f0 l0 f1
              have OK1 : okB (fr ls k) = true := by unfold okB; exact inB_mk ⟨f0, f1⟩
              have OK2 : okB (laterI (fr ls k) long) = true := by unfold okB; exact inB_mk ⟨by omega, y1⟩
              have g' : decide (x < fr ls k) = true := by simpa using g
              have J : Hid (∃ j, j < (cpd ls x 1000000000).length ∧ lvl ls x + j = k ∧ 0 < j ∧ fr (cpd ls x 1000000000) j = fr ls k) := by
                obtain ⟨a1, a2, a3⟩ := HPO.out.lvl_spec x0
                obtain ⟨c1, c2, c3, c4, c5⟩ := HPO.out.cpd_all x0 hx2
                have hkl : lvl ls x < k := by
                  by_cases hh : lvl ls x < k
                  · exact hh
                  · have := HPO.out.le (i := k) (j := lvl ls x) (by omega) a1; omega
                refine ⟨k - lvl ls x, by omega, by omega, by omega, ?_⟩
                obtain ⟨i', hi'⟩ : ∃ i', k - lvl ls x = i' + 1 := ⟨k - lvl ls x - 1, by omega⟩
                rw [hi', c4 i' (by omega), show lvl ls x + (i' + 1) = k from by omega]
              by_cases d2 : n' ≤ leastI T ls (fr ls k) (laterI (fr ls k) long)
              · have R : Hid (fitI ls x long n' = fr ls k) := by
                  obtain ⟨j, j1, j2, j3, j4⟩ := J.out
                  have ok := (HPO.out.okFit_iff (long := long) x0 hx2 hn' j1).1 (by rw [j4]; exact d2)
                  exact (fitI_at j1 ok (fun i hi => HK.out i (by omega) (by omega))).trans j4
                go_wp2
                go_region_held3 (fun w' => w'.cell? ⟨w.heap.size, 0, none⟩ = some (.int .i64 T) ∧ w'.cell? ⟨w.heap.size, 1, none⟩ = some (.slice (some ⟨b, off, none⟩) n cap)) (first | go_keep | exact KS2) (first | (go_at_call 35; refine (l1Later_any _ _ _ f0 f1 l0 l1).mono ?_; rintro e w' ⟨rfl, hq⟩; have hq' := hq.symm; clear hq; subst hq') | (go_at_call 93; refine (l2Least_any T (fr ls k) (laterI (fr ls k) long) _ n cap ls _ ?_ HPO.out OK1 OK2).mono ?_; (first | exact HV | exact (HV).drew); rintro e w2 ⟨rfl, hb2⟩; have U2 := (U).drew.then hb2 (U).size; obtain ⟨s0, s1, _⟩ := box_cells U2; have KS2 := And.intro s0 s1))
                all_goals
                  go_wp2
                  go_ret
                  exact ⟨by rw [R.out]; rfl, w0.then U2 (by simp)⟩
              · have N : Hid (∀ j, j < (cpd ls x 1000000000).length → (j = 0 ∨ lvl ls x + j < k + 1) → ¬ okFit (cpd ls x 1000000000) long n' j) := by
                  intro i hi hi2
                  obtain ⟨j, j1, j2, j3, j4⟩ := J.out
                  by_cases e : i = j
                  · subst e
                    intro ok
                    have := (HPO.out.okFit_iff (long := long) x0 hx2 hn' j1).2 ok
                    rw [j4] at this
                    exact d2 this
                  · exact HK.out i hi (by omega)
                go_wp2
                go_region_held3 (fun w' => w'.cell? ⟨w.heap.size, 0, none⟩ = some (.int .i64 T) ∧ w'.cell? ⟨w.heap.size, 1, none⟩ = some (.slice (some ⟨b, off, none⟩) n cap)) (first | go_keep | exact KS2) (first | (go_at_call 35; refine (l1Later_any _ _ _ f0 f1 l0 l1).mono ?_; rintro e w' ⟨rfl, hq⟩; have hq' := hq.symm; clear hq; subst hq') | (go_at_call 93; refine (l2Least_any T (fr ls k) (laterI (fr ls k) long) _ n cap ls _ ?_ HPO.out OK1 OK2).mono ?_; (first | exact HV | exact (HV).drew); rintro e w2 ⟨rfl, hb2⟩; have U2 := (U).drew.then hb2 (U).size; obtain ⟨s0, s1, _⟩ := box_cells U2; have KS2 := And.intro s0 s1))
                all_goals
                  go_wp2
                  go_roundw
                  case rel => exact ⟨k + 1, by omega, by go_num, N.out, U2⟩
                  case measure => simp [intOf]; omega
            · have g' : decide (x < fr ls k) = false := by simpa using g
              have N : Hid (∀ j, j < (cpd ls x 1000000000).length → (j = 0 ∨ lvl ls x + j < k + 1) → ¬ okFit (cpd ls x 1000000000) long n' j) := by
                intro i hi hi2
                by_cases e : lvl ls x + i = k ∧ 0 < i
                · exfalso
                  have := (HPO.out.lvl_spec x0).2.2 k (by omega) (by omega)
                  omega
                · exact HK.out i hi (by omega)
              go_wp2
              go_quiet (fail)
              go_wp2
              go_roundw
              case rel => exact ⟨k + 1, by omega, by go_num, N.out, U.drewN _⟩
              case measure => simp [intOf]; omega
          · have e : k = n := by omega
            subst e
            have R : Hid (fitI ls x long n' = 1000000000) := by
              refine fitI_no fun j hj => HK.out j hj ?_
              have := (HC.out).1
              omega
            go_wp2
            go_ret
            exact ⟨by rw [R.out]; rfl, V⟩

end Go.Proofs.Ytcmpenlgkccgkaa

/- No time ahead of the first fit has room: the plain mathematics. -/
namespace Go.Proofs.Ytcmpenlgkccgkaa
open Go.RowKit

theorem least_ex {p : Nat → Prop} : ∀ m, p m → ∃ j, j ≤ m ∧ p j ∧ ∀ i, i < j → ¬ p i := by
  intro m
  induction m using Nat.strongRecOn with
  | ind m ih =>
    intro hm
    by_cases h : ∃ i, i < m ∧ p i
    · obtain ⟨i, hi, hp⟩ := h
      obtain ⟨j, h1, h2, h3⟩ := ih i hi hp
      exact ⟨j, by omega, h2, h3⟩
    · exact ⟨m, Nat.le_refl _, hm, fun i hi hp => h ⟨i, hi, hp⟩⟩

theorem PO.least_le {T : Int} {ls : List Lev} (po : PO T ls) {x y : Int} (hx : 0 ≤ x) : leastI T ls x y ≤ T := by
  have h := (minTo_ge (dur ls x y) T (leastI T ls x y) (dur ls x y).length).1 (by rw [least_same po hx]; exact Int.le_refl _)
  exact h.1

/-- what is free all along is free at each time -/
theorem PO.least_at {T : Int} {ls : List Lev} (po : PO T ls) {x y t : Int} (hx : 0 ≤ x) (h1 : x ≤ t) (h2 : t < y) : leastI T ls x y ≤ atI ls t := by
  obtain ⟨a1, a2, _⟩ := po.lvl_spec (t := t) (by omega)
  exact (po.least_ge hx (po.least_le hx)).1 (Int.le_refl _) (by omega) (lvl ls t) (po.lvl_mono hx h1) a1 (by omega)

theorem later_pos {s t long : Int} (hs : s < 1000000000) (h : s < laterI s long) (ht : t < 1000000000) : t < laterI t long := by
  unfold laterI at *
  split at h <;> split <;> omega

theorem fitI_never {ls : List Lev} {x long n : Int} (h : ¬ x < 1000000000) : fitI ls x long n = 1000000000 := by
  refine fitI_no fun i hi => ?_
  have : (cpd ls x 1000000000).length = 0 := by rw [cpd_len, dur_nil (by omega)]; rfl
  omega

/-- either there is room somewhere, and the first such beginning is told, or Never is -/
theorem PO.fit_cases {T : Int} {ls : List Lev} (_po : PO T ls) {x long n : Int} :
    (∃ j, j < (cpd ls x 1000000000).length ∧ okFit (cpd ls x 1000000000) long n j ∧ (∀ i, i < j → ¬ okFit (cpd ls x 1000000000) long n i) ∧ fitI ls x long n = fr (cpd ls x 1000000000) j) ∨ ((∀ i, i < (cpd ls x 1000000000).length → ¬ okFit (cpd ls x 1000000000) long n i) ∧ fitI ls x long n = 1000000000) := by
  by_cases h : ∃ i, i < (cpd ls x 1000000000).length ∧ okFit (cpd ls x 1000000000) long n i
  · obtain ⟨i, hi, ho⟩ := h
    obtain ⟨j, h1, h2, h3⟩ := least_ex i ho
    exact Or.inl ⟨j, by omega, h2, h3, fitI_at (by omega) h2 h3⟩
  · have hn : ∀ i, i < (cpd ls x 1000000000).length → ¬ okFit (cpd ls x 1000000000) long n i := fun i hi ho => h ⟨i, hi, ho⟩
    exact Or.inr ⟨hn, fitI_no hn⟩

theorem PO.fit_bd {T : Int} {ls : List Lev} (po : PO T ls) {x long n : Int} (hx : 0 ≤ x) (hx2 : x ≤ 1000000000) : x ≤ fitI ls x long n ∧ fitI ls x long n ≤ 1000000000 := by
  by_cases h : x < 1000000000
  · rcases po.fit_cases (x := x) (long := long) (n := n) with ⟨j, hj, _, _, e⟩ | ⟨_, e⟩
    · obtain ⟨_, l2, l3, _⟩ := po.cpd_lvl hx h hj
      rw [e]; omega
    · rw [e]; omega
  · rw [fitI_never h]; omega

/-- at the first fit there is room as long as is wanted -/
theorem PO.fit_room {T : Int} {ls : List Lev} (po : PO T ls) {x long n : Int} (hx : 0 ≤ x) (hn : n ≤ T) (h : fitI ls x long n < 1000000000) : n ≤ leastI T ls (fitI ls x long n) (laterI (fitI ls x long n) long) := by
  by_cases h1 : x < 1000000000
  · rcases po.fit_cases (x := x) (long := long) (n := n) with ⟨j, hj, ho, _, e⟩ | ⟨_, e⟩
    · rw [e]; exact (po.okFit_iff hx h1 hn hj).2 ho
    · omega
  · rw [fitI_never h1] at h; omega

/-- no time ahead of it has -/
theorem PO.fit_ahead {T : Int} {ls : List Lev} (po : PO T ls) {x long n t : Int} (hx : 0 ≤ x) (hn : n ≤ T) (h1 : x ≤ t) (h2 : t < fitI ls x long n) (h3 : t < 1000000000) : leastI T ls t (laterI t long) < n := by
  have hx1 : x < 1000000000 := by omega
  obtain ⟨c1, c2, c3, c4, c5⟩ := po.cpd_all hx hx1
  obtain ⟨a1, a2, a3⟩ := po.lvl_spec (t := t) (by omega)
  have hmono := po.lvl_mono hx h1
  by_cases hc : leastI T ls t (laterI t long) < n
  · exact hc
  · exfalso
    obtain ⟨p, hp⟩ : ∃ p, lvl ls t = lvl ls x + p := ⟨lvl ls t - lvl ls x, by omega⟩
    have hpl : p < (cpd ls x 1000000000).length := by omega
    obtain ⟨l1, l2, l3, l4⟩ := po.cpd_lvl hx hx1 hpl
    have hfp : fr (cpd ls x 1000000000) p ≤ t := by
      cases p with
      | zero => rw [c3]; exact h1
      | succ q => rw [c4 q hpl, ← hp]; exact a2
    have ok : okFit (cpd ls x 1000000000) long n p := by
      refine (po.okFit_iff hx hx1 hn hpl).1 ((po.least_ge (by omega) hn).2 fun hlt i hi1 hi2 hi3 => ?_)
      have hm := laterI_mono (b := long) hfp
      exact (po.least_ge (by omega) hn).1 (by omega) (later_pos l3 hlt h3) i (by omega) hi2 (by omega)
    rcases po.fit_cases (x := x) (long := long) (n := n) with ⟨j, hj, _, hno, e⟩ | ⟨hno, _⟩
    · have hjp : j ≤ p := by
        rcases Nat.lt_or_ge p j with h | h
        · exact absurd ok (hno p h)
        · exact h
      by_cases ej : j = p
      · rw [ej] at e; omega
      · have := po.cpd_le hx hx1 (i := j) (j := p) (by omega) hpl
        omega
    · exact hno p hpl ok

end Go.Proofs.Ytcmpenlgkccgkaa

/- The program's Lower. -/
namespace Go.Proofs.Ytcmpenlgkccgkaa
open Go.RowKit

theorem LevB.cells {w : World} {B n : Nat} {ls : List Lev} (h : LevB w B n n ls) {i : Nat} (hi : i < n) :
    w.cell? ⟨B, i * 2, none⟩ = some (.int .i64 (fr ls i)) ∧ w.cell? ⟨B, i * 2 + 1, none⟩ = some (.int .i64 (fe ls i)) := by
  obtain ⟨cur, h1, h2, h3⟩ := h
  obtain ⟨c0, c1⟩ := h3 i hi
  refine ⟨(cell_of_blk (i * 2) h1 (by omega)).trans ?_, (cell_of_blk (i * 2 + 1) h1 (by omega)).trans ?_⟩
  · rw [← Array.getElem?_eq_getElem]; exact c0
  · rw [← Array.getElem?_eq_getElem]; exact c1

theorem LevB.but {W w : World} {G B n : Nat} {ls : List Lev} (h : LevB W B n n ls) (hb : But G W w) (hG : B ≠ G) : LevB w B n n ls := by
  obtain ⟨cur, h1, h2, h3⟩ := h
  exact ⟨cur, (hb.block B (lt_of_block h1) hG).trans h1, h2, h3⟩

theorem But.grownAt {O : Nat} {W w w' : World} {row : Option Nat} (h : But O W w) (hg : w.grownBy w' row) (hr : ∀ k, row = some k → k = O ∨ W.heap.size ≤ k) : But O W w' :=
  ⟨hg.os.trans h.os, hg.tape.trans h.tape, hg.output.trans h.output, Nat.le_trans h.size hg.size, fun k hk hne =>
    (hg.block k (Nat.lt_of_lt_of_le hk h.size) (fun e => by rcases hr k e.symm with h | h <;> omega)).trans (h.block k hk hne)⟩

theorem own_block {w : World} {base : Nat} {a : Option Addr} {n c : Nat} {e : TypeId} {size : Nat} {xs : List Value} (h : w.ownsRow base e size (.slice a n c) n xs) (hb : base < w.heap.size) :
    ∃ G, base ≤ G ∧ G < w.heap.size ∧ ∀ k, (Value.slice a n c).ownBlock = some k → k = G := by
  have hl := h.lt
  cases a with
  | none => exact ⟨base, Nat.le_refl _, hb, fun k hk => by simp [Value.ownBlock] at hk⟩
  | some ad => exact ⟨ad.block, (hl _ rfl).1, (hl _ rfl).2, fun k hk => by simp [Value.ownBlock] at hk; exact hk.symm⟩

theorem rawC_take {la lb : List Lev} {k q : Nat} (h : q < (cpd lb (fr la k) (nxt la k 1000000000)).length) :
    (rawC la lb k).take (q + 1) = (rawC la lb k).take q ++ [(fr (cpd lb (fr la k) (nxt la k 1000000000)) q, min (fe la k) (fe (cpd lb (fr la k) (nxt la k 1000000000)) q))] := by
  have h2 : q < (rawC la lb k).length := by unfold rawC; rw [List.length_map]; exact h
  rw [List.take_succ_eq_append_getElem h2]
  congr 2
  simp only [rawC, List.getElem_map, get_fr h, get_fe h]

theorem box1_below {w : World} {v0 : Value} {T : TypeId} : Below w.heap.size w (w.alloc (.cells #[v0] T)) := (Below.refl _ _).alloc (Nat.le_refl _) _

theorem rawFrom_wf {Ta Tb : Int} {la lb : List Lev} (pa : PO Ta la) (pb : PO Tb lb) : ∀ i, i < (rawFrom la lb la.length 0).length → (-9223372036854775808 ≤ fr (rawFrom la lb la.length 0) i ∧ fr (rawFrom la lb la.length 0) i ≤ 9223372036854775807) ∧ (-9223372036854775808 ≤ fe (rawFrom la lb la.length 0) i ∧ fe (rawFrom la lb la.length 0) i ≤ 9223372036854775807) := by
  intro i hi
  have h1 := low_all pa pb la.length 0 (Nat.zero_add _)
  have n1 := pa.n1
  rw [if_pos (by omega), pa.z] at h1
  have := h1.bd pa pb (Int.le_refl _) _ (List.getElem_mem hi)
  rw [get_fr hi, get_fe hi] at this
  omega

end Go.Proofs.Ytcmpenlgkccgkaa

/- Lower where one of the two is not right. -/
namespace Go.Proofs.Ytcmpenlgkccgkaa
open Go.RowKit

end Go.Proofs.Ytcmpenlgkccgkaa

/- The lower of two right profiles is right wherever it is short enough. -/
namespace Go.Proofs.Ytcmpenlgkccgkaa
open Go.RowKit

/-- neighbours rise and are unlike -/
def goodL (out : List Lev) : Prop := ∀ i, i + 1 < out.length → fr out i < fr out (i + 1) ∧ fe out i ≠ fe out (i + 1)

theorem fr_app_l {a b : List Lev} {i : Nat} (h : i < a.length) : fr (a ++ b) i = fr a i := by unfold fr; rw [List.getElem?_append_left h]
theorem fe_app_l {a b : List Lev} {i : Nat} (h : i < a.length) : fe (a ++ b) i = fe a i := by unfold fe; rw [List.getElem?_append_left h]
theorem fr_app_r {a : List Lev} {x : Lev} : fr (a ++ [x]) a.length = x.1 := by unfold fr; simp
theorem fe_app_r {a : List Lev} {x : Lev} : fe (a ++ [x]) a.length = x.2 := by unfold fe; simp
theorem fr_mem {a : List Lev} {i : Nat} (h : i < a.length) : ∃ m ∈ a, m.1 = fr a i := ⟨a[i], List.getElem_mem h, get_fr h⟩

theorem addL_good {out : List Lev} {t f : Int} (h : goodL out) (ht : ∀ m ∈ out, m.1 < t) : goodL (addL out t f) ∧ (∀ m ∈ addL out t f, m ∈ out ∨ m = (t, f)) ∧ 0 < (addL out t f).length ∧ (0 < out.length → fr (addL out t f) 0 = fr out 0) := by
  by_cases h0 : 0 < out.length
  · by_cases hs : fe out (out.length - 1) = f
    · rw [addL_same h0 hs]
      exact ⟨h, fun m hm => Or.inl hm, h0, fun _ => rfl⟩
    · rw [addL_other h0 hs]
      refine ⟨fun i hi => ?_, fun m hm => ?_, by simp, fun _ => fr_app_l h0⟩
      · have hl : (out ++ [(t, f)]).length = out.length + 1 := by simp
        by_cases hc : i + 1 < out.length
        · rw [fr_app_l (by omega), fr_app_l hc, fe_app_l (by omega), fe_app_l hc]
          exact h i hc
        · obtain rfl : i = out.length - 1 := by omega
          have e : out.length - 1 + 1 = out.length := by omega
          rw [e, fr_app_r, fe_app_r, fr_app_l (by omega), fe_app_l (by omega)]
          obtain ⟨m, hm, e2⟩ := fr_mem (a := out) (i := out.length - 1) (by omega)
          exact ⟨by rw [← e2]; exact ht m hm, hs⟩
      · rcases List.mem_append.1 hm with h1 | h1
        · exact Or.inl h1
        · exact Or.inr (List.mem_singleton.1 h1)
  · obtain rfl : out = [] := List.eq_nil_of_length_eq_zero (by omega)
    rw [addL_nil]
    exact ⟨fun i hi => by simp at hi, fun m hm => Or.inr (List.mem_singleton.1 hm), by simp, fun h => by simp at h⟩

theorem joinL_good : ∀ (l out : List Lev), goodL out → (∀ m ∈ out, ∀ x ∈ l, m.1 < x.1) → l.Pairwise (fun a b => a.1 < b.1) → goodL (joinL out l) ∧ (0 < out.length → 0 < (joinL out l).length ∧ fr (joinL out l) 0 = fr out 0)
  | [], out, h, _, _ => ⟨h, fun h0 => ⟨h0, rfl⟩⟩
  | x :: l, out, h, hlt, hp => by
    rw [joinL_cons]
    obtain ⟨hp1, hp2⟩ := List.pairwise_cons.1 hp
    obtain ⟨g1, g2, g3, g4⟩ := addL_good (t := x.1) (f := x.2) h (fun m hm => hlt m hm x List.mem_cons_self)
    have ih := joinL_good l (addL out x.1 x.2) g1 (fun m hm y hy => by
      rcases g2 m hm with h1 | h1
      · exact hlt m h1 y (List.mem_cons_of_mem _ hy)
      · rw [h1]; exact hp1 y hy) hp2
    exact ⟨ih.1, fun h0 => ⟨(ih.2 g3).1, by rw [(ih.2 g3).2, g4 h0]⟩⟩

theorem LowR.rise {Ta Tb : Int} {la lb : List Lev} (pa : PO Ta la) (pb : PO Tb lb) {t : Int} {l : List Lev} (h : LowR la lb t l) (ht : 0 ≤ t) :
    l.Pairwise (fun a b => a.1 < b.1) ∧ (∀ m ∈ l, t ≤ m.1) ∧ ∀ m ∈ l, 0 ≤ m.1 ∧ m.1 < 1000000000 ∧ 0 ≤ m.2 ∧ m.2 ≤ min Ta Tb := by
  induction h with
  | stop _ _ => exact ⟨List.Pairwise.nil, (fun m hm => by cases hm), (fun m hm => by cases hm)⟩
  | step t l h h2 ih =>
    have la1 := pa.lvl_spec ht
    have lb1 := pb.lvl_spec ht
    have ea := pa.el _ la1.1
    have eb := pb.el _ lb1.1
    have hs : t < stepT la lb t := by
      unfold stepT
      have ha : t < nxt la (lvl la t) 1000000000 := by
        by_cases hn : lvl la t + 1 < la.length
        · rw [nxt_in hn]; exact la1.2.2 _ (by omega) hn
        · rw [nxt_out hn]; exact h
      have hb : t < nxt lb (lvl lb t) 1000000000 := by
        by_cases hn : lvl lb t + 1 < lb.length
        · rw [nxt_in hn]; exact lb1.2.2 _ (by omega) hn
        · rw [nxt_out hn]; exact h
      omega
    obtain ⟨i1, i2, i3⟩ := ih (by omega)
    refine ⟨List.pairwise_cons.2 ⟨fun m hm => ?_, i1⟩, fun m hm => ?_, fun m hm => ?_⟩
    · have := i2 m hm; show t < m.1; omega
    · rcases List.mem_cons.1 hm with rfl | hm
      · exact Int.le_refl _
      · have := i2 m hm; omega
    · rcases List.mem_cons.1 hm with rfl | hm
      · unfold lowAt atI
        show 0 ≤ t ∧ t < 1000000000 ∧ _
        refine ⟨ht, h, ?_, ?_⟩
        · show 0 ≤ min _ _; omega
        · show min _ _ ≤ _; omega
      · exact i3 m hm

theorem lowL_po {Ta Tb : Int} {la lb : List Lev} (pa : PO Ta la) (pb : PO Tb lb) (hl : (lowL la lb).length ≤ 200) : PO (min Ta Tb) (lowL la lb) := by
  have h1 := low_all pa pb la.length 0 (Nat.zero_add _)
  have n1 := pa.n1
  rw [if_pos (by omega), pa.z] at h1
  obtain ⟨r1, r2, r3⟩ := h1.rise pa pb (Int.le_refl _)
  obtain ⟨l', hl', _⟩ := h1.inv.1 (by omega)
  have hj : lowL la lb = joinL [(0, lowAt la lb 0)] l' := by unfold lowL; rw [hl']; rfl
  have hg : goodL (joinL [(0, lowAt la lb 0)] l') ∧ (0 < ([(0, lowAt la lb 0)] : List Lev).length → _) := joinL_good l' [(0, lowAt la lb 0)] (fun i hi => by simp at hi) (by
    intro m hm x hx
    rw [List.mem_singleton.1 hm]
    rw [hl'] at r1
    exact (List.pairwise_cons.1 r1).1 x hx) (by rw [hl'] at r1; exact (List.pairwise_cons.1 r1).2)
  have hz := hg.2 (by simp)
  have ta := pa.t0
  have tb := pb.t0
  have ta1 := pa.t1
  refine ⟨by omega, by omega, by rw [hj]; exact hz.1, hl, by rw [hj, hz.2]; rfl, fun i hi => ?_, fun i hi => ?_⟩
  · have hm : (lowL la lb)[i] ∈ rawFrom la lb la.length 0 := by
      rcases joinL_mem _ _ _ (List.getElem_mem hi) with h | h
      · cases h
      · exact h
    have := r3 _ hm
    rw [get_fr hi, get_fe hi] at this
    omega
  · rw [hj] at hi ⊢
    exact hg.1 i hi

theorem lowL_poB {Ta Tb : Int} {la lb : List Lev} (pa : PO Ta la) (pb : PO Tb lb) : poB (min Ta Tb) (lowL la lb) = decide ((lowL la lb).length ≤ 200) := by
  by_cases h : (lowL la lb).length ≤ 200
  · rw [poB_mk (lowL_po pa pb h)]; simp [h]
  · rw [poB_no fun p => h p.n2]; simp [h]

end Go.Proofs.Ytcmpenlgkccgkaa

/- Where less is free nothing fits sooner: the plain mathematics. -/
namespace Go.Proofs.Ytcmpenlgkccgkaa
open Go.RowKit

/-- the value of the last one that has begun -/
def lastV (d : Int) (l : List Lev) (τ : Int) : Int := l.foldl (fun v m => if m.1 ≤ τ then m.2 else v) d
theorem lastV_app (d : Int) (a b : List Lev) (τ : Int) : lastV d (a ++ b) τ = lastV (lastV d a τ) b τ := by unfold lastV; rw [List.foldl_append]
theorem lastV_gt (τ : Int) : ∀ (l : List Lev) (d : Int), (∀ m ∈ l, τ < m.1) → lastV d l τ = d
  | [], _, _ => rfl
  | m :: l, d, h => by
    have h1 := h m List.mem_cons_self
    show lastV (if m.1 ≤ τ then m.2 else d) l τ = d
    rw [if_neg (by omega)]
    exact lastV_gt τ l d (fun x hx => h x (List.mem_cons_of_mem _ hx))
theorem lastV_snoc (d : Int) (l : List Lev) (m : Lev) (τ : Int) : lastV d (l ++ [m]) τ = if m.1 ≤ τ then m.2 else lastV d l τ := by
  rw [lastV_app]; rfl

theorem last_snoc {out : List Lev} (h : 0 < out.length) : ∃ i m, out = i ++ [m] ∧ m.2 = fe out (out.length - 1) := by
  refine ⟨out.take (out.length - 1), out[out.length - 1], ?_, get_fe (by omega)⟩
  have e := List.take_succ_eq_append_getElem (show out.length - 1 < out.length by omega)
  rw [← e, show out.length - 1 + 1 = out.length by omega, List.take_length]

theorem addL_val (d τ : Int) {out : List Lev} {x : Lev} (h : ∀ m ∈ out, m.1 < x.1) : lastV d (addL out x.1 x.2) τ = lastV d (out ++ [x]) τ ∧ ∀ m ∈ addL out x.1 x.2, m ∈ out ∨ m = x := by
  by_cases h0 : 0 < out.length
  · by_cases hs : fe out (out.length - 1) = x.2
    · rw [addL_same h0 hs]
      refine ⟨?_, fun m hm => Or.inl hm⟩
      rw [lastV_snoc]
      by_cases hx : x.1 ≤ τ
      · rw [if_pos hx]
        obtain ⟨i, m, e, hm⟩ := last_snoc h0
        have h1 := h m (by rw [e]; simp)
        rw [hs] at hm
        rw [e, lastV_snoc, if_pos (by omega), hm]
      · rw [if_neg hx]
    · rw [addL_other h0 hs]
      exact ⟨rfl, fun m hm => by
        rcases List.mem_append.1 hm with h1 | h1
        · exact Or.inl h1
        · exact Or.inr (List.mem_singleton.1 h1)⟩
  · obtain rfl : out = [] := List.eq_nil_of_length_eq_zero (by omega)
    rw [addL_nil]
    exact ⟨rfl, fun m hm => Or.inr (List.mem_singleton.1 hm)⟩

theorem joinL_val (d τ : Int) : ∀ (l out : List Lev), (∀ m ∈ out, ∀ x ∈ l, m.1 < x.1) → l.Pairwise (fun a b => a.1 < b.1) → lastV d (joinL out l) τ = lastV d (out ++ l) τ
  | [], out, _, _ => by rw [joinL_nil, List.append_nil]
  | x :: l, out, h, hp => by
    obtain ⟨hp1, hp2⟩ := List.pairwise_cons.1 hp
    obtain ⟨v1, v2⟩ := addL_val d τ (fun m hm => h m hm x List.mem_cons_self)
    rw [joinL_cons, joinL_val d τ l _ (fun m hm y hy => by
      rcases v2 m hm with h1 | rfl
      · exact h m h1 y (List.mem_cons_of_mem _ hy)
      · exact hp1 y hy) hp2, lastV_app, v1, ← lastV_app, List.append_assoc]
    rfl

theorem PO.at_last {T : Int} {ls : List Lev} (po : PO T ls) {τ : Int} (h : 0 ≤ τ) (d : Int) : lastV d ls τ = atI ls τ := by
  obtain ⟨a1, a2, a3⟩ := po.lvl_spec h
  have e : ls = ls.take (lvl ls τ) ++ [ls[lvl ls τ]] ++ ls.drop (lvl ls τ + 1) := by
    rw [← List.take_succ_eq_append_getElem a1, List.take_append_drop]
  have h1 : lastV d ls τ = lastV d (ls.take (lvl ls τ) ++ [ls[lvl ls τ]] ++ ls.drop (lvl ls τ + 1)) τ := congrArg (fun l => lastV d l τ) e
  rw [h1, lastV_app, lastV_gt, lastV_snoc, if_pos (by rw [get_fr a1]; exact a2), get_fe a1]
  · rfl
  · intro m hm
    obtain ⟨i, hi, rfl⟩ := List.getElem_of_mem hm
    have hi' : lvl ls τ + 1 + i < ls.length := by simp at hi; omega
    have := a3 (lvl ls τ + 1 + i) (by omega) hi'
    rw [List.getElem_drop, get_fr hi']
    exact this

theorem LowR.val {Ta Tb : Int} {la lb : List Lev} (pa : PO Ta la) (pb : PO Tb lb) {t : Int} {l : List Lev} (h : LowR la lb t l) (ht : 0 ≤ t) (τ : Int) (hτ : t ≤ τ) (hτ2 : τ < 1000000000) : ∀ d, lastV d l τ = lowAt la lb τ := by
  induction h with
  | stop _ h => omega
  | step t l h h2 ih =>
    intro d
    have la1 := pa.lvl_spec ht
    have lb1 := pb.lvl_spec ht
    have ha : t < nxt la (lvl la t) 1000000000 := by
      by_cases hn : lvl la t + 1 < la.length
      · rw [nxt_in hn]; exact la1.2.2 _ (by omega) hn
      · rw [nxt_out hn]; exact h
    have hb : t < nxt lb (lvl lb t) 1000000000 := by
      by_cases hn : lvl lb t + 1 < lb.length
      · rw [nxt_in hn]; exact lb1.2.2 _ (by omega) hn
      · rw [nxt_out hn]; exact h
    have hs : t < stepT la lb t := by unfold stepT; omega
    show lastV (if t ≤ τ then lowAt la lb t else d) l τ = _
    rw [if_pos hτ]
    by_cases c : stepT la lb t ≤ τ
    · exact ih (by omega) c _
    · have r := (h2.rise pa pb (by omega)).2.1
      rw [lastV_gt τ l _ (fun m hm => by have := r m hm; omega)]
      have e1 : lvl la τ = lvl la t := pa.lvl_eq (by omega) la1.1 (by omega) (fun hn => by rw [← nxt_in (e := 1000000000) hn]; unfold stepT at c; omega)
      have e2 : lvl lb τ = lvl lb t := pb.lvl_eq (by omega) lb1.1 (by omega) (fun hn => by rw [← nxt_in (e := 1000000000) hn]; unfold stepT at c; omega)
      unfold lowAt atI
      rw [e1, e2]

/-- the lower of two is the lower at each time -/
theorem low_at {Ta Tb : Int} {la lb : List Lev} (pa : PO Ta la) (pb : PO Tb lb) (hl : (lowL la lb).length ≤ 200) {τ : Int} (h : 0 ≤ τ) (h2 : τ < 1000000000) : atI (lowL la lb) τ = min (atI la τ) (atI lb τ) := by
  have po := lowL_po pa pb hl
  have h1 := low_all pa pb la.length 0 (Nat.zero_add _)
  have n1 := pa.n1
  rw [if_pos (by omega), pa.z] at h1
  have r := (h1.rise pa pb (Int.le_refl _)).1
  rw [← po.at_last h 0]
  unfold lowL
  rw [joinL_val 0 τ _ [] (fun m hm => by cases hm) r, List.nil_append]
  exact h1.val pa pb (Int.le_refl _) τ h h2 0

theorem PO.least_ge_at {T : Int} {ls : List Lev} (po : PO T ls) {x y n : Int} (hx : 0 ≤ x) (hn : n ≤ T) : n ≤ leastI T ls x y ↔ ∀ t, x ≤ t → t < y → n ≤ atI ls t := by
  constructor
  · intro h t h1 h2
    have := po.least_at hx h1 h2; omega
  · intro h
    refine (po.least_ge hx hn).2 fun hxy i hi1 hi2 hi3 => ?_
    obtain ⟨a1, a2, a3⟩ := po.lvl_spec hx
    have e : lvl ls (max x (fr ls i)) = i := po.lvl_eq (by omega) hi2 (by omega) (fun hn => by
      have h1 := a3 (i + 1) (by omega) hn
      have h2 := po.lt (i := i) (j := i + 1) (by omega) hn
      omega)
    have := h (max x (fr ls i)) (by omega) (by omega)
    unfold atI at this
    rwa [e] at this

theorem PO.fit_first {T : Int} {ls : List Lev} (po : PO T ls) {x long n s : Int} (hx : 0 ≤ x) (hn : n ≤ T) (h1 : x ≤ s) (h2 : s ≤ 1000000000) (h3 : s < 1000000000 → ∀ t, s ≤ t → t < laterI s long → n ≤ atI ls t) : fitI ls x long n ≤ s := by
  by_cases c : fitI ls x long n ≤ s
  · exact c
  · exfalso
    have hb := (po.fit_bd (x := x) (long := long) (n := n) hx (by omega)).2
    have := po.fit_ahead (x := x) (long := long) (n := n) (t := s) hx hn h1 (by omega) (by omega)
    have h4 := (po.least_ge_at (x := s) (y := laterI s long) (by omega) hn).2 (h3 (by omega))
    omega

theorem later_le {s b b' : Int} (h : b ≤ b') : laterI s b ≤ laterI s b' := by unfold laterI; split <;> split <;> omega
theorem later_1e9 (s b : Int) : laterI s b ≤ 1000000000 := by unfold laterI; split <;> omega

/-- the four ways in which nothing fits sooner -/
theorem sooner {Ta Tb : Int} {la lb : List Lev} (pa : PO Ta la) (pb : PO Tb lb) (hl : (lowL la lb).length ≤ 200) {x long n p q : Int} (x0 : 0 ≤ x) (x1 : x ≤ 1000) (hn : n ≤ min Ta Tb) (hp : 0 ≤ p) (hq : 0 ≤ q ∧ q ≤ 1000) :
    fitI la x long n ≤ fitI (lowL la lb) x long n ∧ fitI la x long n ≤ fitI la x (long + p) n ∧ fitI la x long n ≤ fitI la (x + q) long n ∧ (n + 1 ≤ Ta → fitI la x long n ≤ fitI la x long (n + 1)) ∧ 0 ≤ fitI la x long n := by
  have po := lowL_po pa pb hl
  have hna : n ≤ Ta := by omega
  have f0 := pa.fit_bd (x := x) (long := long) (n := n) x0 (by omega)
  have f1 := po.fit_bd (x := x) (long := long) (n := n) x0 (by omega)
  have f2 := pa.fit_bd (x := x) (long := long + p) (n := n) x0 (by omega)
  have f3 := pa.fit_bd (x := x + q) (long := long) (n := n) (by omega) (by omega)
  have f4 := pa.fit_bd (x := x) (long := long) (n := n + 1) x0 (by omega)
  refine ⟨pa.fit_first x0 hna f1.1 f1.2 fun hs t h1 h2 => ?_, pa.fit_first x0 hna f2.1 f2.2 fun hs t h1 h2 => ?_, pa.fit_first x0 hna (by omega) f3.2 fun hs t h1 h2 => ?_, fun hn1 => pa.fit_first x0 hna f4.1 f4.2 fun hs t h1 h2 => ?_, by omega⟩
  · have r := (po.least_ge_at (by omega) hn).1 (po.fit_room x0 hn hs) t h1 h2
    have hlt := later_1e9 (fitI (lowL la lb) x long n) long
    rw [low_at pa pb hl (by omega) (by omega)] at r
    omega
  · have := later_le (s := fitI la x (long + p) n) (show long ≤ long + p by omega)
    exact (pa.least_ge_at (by omega) hna).1 (pa.fit_room x0 hna hs) t h1 (by omega)
  · exact (pa.least_ge_at (by omega) hna).1 (pa.fit_room (by omega) hna hs) t h1 h2
  · have := (pa.least_ge_at (by omega) hn1).1 (pa.fit_room x0 hn1 hs) t h1 h2
    omega

end Go.Proofs.Ytcmpenlgkccgkaa
