/- The model's Lower. -/
import Derived.Test.YtdaedggmeoganaaLow
import Derived.Test.YtdaedggmeoganaaProfOk2
import Derived.Laws.ResultCell
namespace Go.Proofs.Ytdaedggmeoganaa
open Go.RowKit

/-- the lower of two -/
def lowL (la lb : List Lev) : List Lev := joinL [] (rawFrom la lb la.length 0)

theorem PO.nxt_next {T : Int} {ls : List Lev} (po : PO T ls) {t : Int} (ht : 0 ≤ t) {p : Nat} (hp : p ≤ ls.length) (h1 : ∀ j, j < p → fr ls j ≤ t) (h2 : p < ls.length → t < fr ls p) :
    nxt ls (lvl ls t) 1000000000 = if p < ls.length then fr ls p else 1000000000 := by
  have n1 := po.n1
  have hp0 : 0 < p := by
    by_cases c : p = 0
    · subst c; have := h2 (by omega); rw [po.z] at this; omega
    · omega
  have e : lvl ls t = p - 1 := po.lvl_eq ht (by omega) (h1 _ (by omega)) (fun h => by rw [show p - 1 + 1 = p from by omega] at h ⊢; exact h2 h)
  rw [e]
  unfold nxt
  rw [show p - 1 + 1 = p from by omega]

theorem own_LevS {w : World} {base : Nat} {a : Option Addr} {c : Nat} {out : List Lev} (h : w.ownsRow base 63 2 (.slice a out.length c) out.length (cellsOf out))
    (hw : ∀ i, i < out.length → (-9223372036854775808 ≤ fr out i ∧ fr out i ≤ 9223372036854775807) ∧ (-9223372036854775808 ≤ fe out i ∧ fe out i ≤ 9223372036854775807)) : LevS w a out.length c out := by
  have hc := @World.ownsRow.cells _ _ _ _ _ _ _ h
  have hl := h.lt
  rcases h.2 with ⟨h1, h0⟩ | ⟨g, cap, cur, h1, hb, hg, h2, h3, _⟩
  · obtain ⟨rfl, rfl⟩ : a = none ∧ c = 0 := by injection h1 with h1 _ h3; exact ⟨h1, h3⟩
    exact ⟨rfl, by omega, by omega, fun _ => rfl, hw, fun hn => by omega⟩
  · obtain ⟨rfl, rfl⟩ : a = some ⟨g, 0, none⟩ ∧ c = cap := by injection h1 with h1 _ h3; exact ⟨h1, h3⟩
    refine ⟨rfl, h2, h3, (fun h => by cases h), hw, fun hn => ⟨g, 0, rfl, (hl g rfl).2, fun i hi => ?_⟩⟩
    have hadd : ∀ j, (⟨g, 0, none⟩ : Addr).add j = ⟨g, j, none⟩ := fun j => by unfold Addr.add; split <;> simp_all
    obtain ⟨c0, c1⟩ := cellsOf_at out i hi
    have g0 := hc (g := g) rfl _ _ c0
    have g1 := hc (g := g) rfl _ _ c1
    rw [hadd] at g0 g1
    exact ⟨by simpa using g0, by simpa using g1⟩

theorem joinL_mem : ∀ (l out : List Lev) (m : Lev), m ∈ joinL out l → m ∈ out ∨ m ∈ l
  | [], _, _, h => Or.inl h
  | x :: l, out, m, h => by
    rw [joinL_cons] at h
    rcases joinL_mem l _ m h with h | h
    · unfold addL at h
      split at h
      · split at h
        · exact Or.inl h
        · rcases List.mem_append.1 h with h | h
          · exact Or.inl h
          · right; simp at h; rw [h]; exact List.mem_cons_self
      · rcases List.mem_append.1 h with h | h
        · exact Or.inl h
        · right; simp at h; rw [h]; exact List.mem_cons_self
    · exact Or.inr (List.mem_cons_of_mem _ h)

theorem LowR.bd {Ta Tb : Int} {la lb : List Lev} (pa : PO Ta la) (pb : PO Tb lb) {t : Int} {l : List Lev} (h : LowR la lb t l) (ht : 0 ≤ t) : ∀ m ∈ l, 0 ≤ m.1 ∧ m.1 < 1000000000 ∧ 0 ≤ m.2 ∧ m.2 ≤ 1000 := by
  induction h with
  | stop _ _ => intro m hm; cases hm
  | step t l h h2 ih =>
    intro m hm
    have a1 := pa.at_bd ht
    have b1 := pb.at_bd ht
    have a2 := nxt_bd pa (pa.lvl_spec ht).1
    have b2 := nxt_bd pb (pb.lvl_spec ht).1
    have a3 := pa.pos (pa.lvl_spec ht).1
    have b3 := pb.pos (pb.lvl_spec ht).1
    rcases List.mem_cons.1 hm with rfl | hm
    · unfold lowAt; omega
    · exact ih (by unfold stepT; omega) m hm

theorem lowL_bd {Ta Tb : Int} {la lb : List Lev} (pa : PO Ta la) (pb : PO Tb lb) : ∀ m ∈ lowL la lb, 0 ≤ m.1 ∧ m.1 < 1000000000 ∧ 0 ≤ m.2 ∧ m.2 ≤ 1000 := by
  intro m hm
  rcases joinL_mem _ _ m hm with h | h
  · cases h
  · have h1 := low_all pa pb la.length 0 (Nat.zero_add _)
    have n1 := pa.n1
    rw [if_pos (by omega), pa.z] at h1
    exact h1.bd pa pb (Int.le_refl _) m h

theorem lowL_wf {Ta Tb : Int} {la lb : List Lev} (pa : PO Ta la) (pb : PO Tb lb) : ∀ i, i < (lowL la lb).length → (-9223372036854775808 ≤ fr (lowL la lb) i ∧ fr (lowL la lb) i ≤ 9223372036854775807) ∧ (-9223372036854775808 ≤ fe (lowL la lb) i ∧ fe (lowL la lb) i ≤ 9223372036854775807) := by
  intro i hi
  have := lowL_bd pa pb _ (List.getElem_mem hi)
  rw [get_fr hi, get_fe hi] at this
  omega

theorem LowR.inv {la lb : List Lev} {t : Int} {l : List Lev} (h : LowR la lb t l) : (t < 1000000000 → ∃ l', l = (t, lowAt la lb t) :: l' ∧ LowR la lb (stepT la lb t) l') ∧ (¬ t < 1000000000 → l = []) :=
  match h with
  | .stop _ h => ⟨fun g => absurd g h, fun _ => rfl⟩
  | .step _ l h h2 => ⟨fun _ => ⟨l, rfl, h2⟩, fun g => absurd h g⟩

theorem results_box2 {P : Program} {fn : Func} {p u : Tmp} {ty : TypeId} (h : fn.results = #[.cell p ty, .tmp u]) (tmps : Array Value) (w : World) (g : Nat) (t : TypeId) (cs : Array Value) (fr : Nat × Nat) (d : TypeDesc)
    (hp : tmps.getD p undef = .pointer (some ⟨g, 0, none⟩)) (hg : w.heap[g]? = some (.cells cs t fr))
    (hu : P.underlying ty = some d) (hd : (match d with | .struct _ | .array _ _ => true | _ => false) = true) (hi : (P.info? ty).map (·.size) = some cs.size) (v : Value) (hv : tmps.getD u undef = v) :
    (results fn tmps).run P w = .ok (.tuple #[.agg cs, v]) w := by
  rw [results_cell_tmp h, hp, hv]
  simp [asAddr, run_loadVar_row w g t ty cs fr d hg hu hd hi]

theorem boxed {W : World} {k : Nat} {v0 v1 : Value} {ty : TypeId} (h : W.heap[k]? = some (.cells #[v0, v1] ty (0, 0))) :
    W.cell? ⟨k, 0, none⟩ = some v0 ∧ W.cell? ⟨k, 1, none⟩ = some v1 ∧ W.frozen? ⟨k, 0, none⟩ = false ∧ W.frozen? ⟨k, 1, none⟩ = false :=
  ⟨cell_of_blk 0 h (by simp), cell_of_blk 1 h (by simp), free_of_blk 0 h, free_of_blk 1 h⟩

set_option maxRecDepth 8000 in
set_option maxHeartbeats 2000000 in
theorem specLower_ok (Ta Tb : Int) (a b : Option Addr) (na ca nb cb : Nat) (la lb : List Lev) (w : World) (hA : LevS w a na ca la) (hB : LevS w b nb cb lb) (pa : PO Ta la) (pb : PO Tb lb) :
    Calls Try.prog 22 #[.agg #[.int .i64 Ta, .slice a na ca], .agg #[.int .i64 Tb, .slice b nb cb]] w fun e w' =>
      Below w.heap.size w w' ∧ (poB (min Ta Tb) (lowL la lb) = true → ∃ v, e = .returned (.tuple #[.agg #[.int .i64 (min Ta Tb), v], .bool true]) ∧ w'.ownsRow w.heap.size 63 2 v (lowL la lb).length (cellsOf (lowL la lb))) ∧
        (poB (min Ta Tb) (lowL la lb) = false → e = .returned (.tuple #[.agg #[.int .i64 0, .slice none 0 0], .bool false])) := by
  obtain ⟨i1, hj, hj0, hj1, hj2⟩ := info_parts info69
  have qa := poB_mk pa
  have qb := poB_mk pb
  have hlena := hA.len
  have hlenb := hB.len
  have hna : na ≤ 200 := by have := pa.n2; omega
  have hnb : nb ≤ 200 := by have := pb.n2; omega
  have h0a : 0 < na := by have := pa.n1; omega
  have h0b : 0 < nb := by have := pb.n1; omega
  obtain ⟨ba, offa, rfl, hba, hata⟩ := hA.at_ h0a
  obtain ⟨bb, offb, rfl, hbb, hatb⟩ := hB.at_ h0b
  go_enter Try.func22, Try.ntmps22
  go_wp2_with fail
  obtain ⟨W, hW⟩ : ∃ W, W = ((w.alloc (.cells #[.int .i64 Ta, .slice (some ⟨ba, offa, none⟩) na ca] 26)).alloc (.cells #[.int .i64 Tb, .slice (some ⟨bb, offb, none⟩) nb cb] 26)).alloc (.cells #[.int .i64 0, .slice none 0 0] 26) := ⟨_, rfl⟩
  rw [← hW]
  have hW1 : W.heap.size ≤ w.heap.size + 3 := by rw [hW]; simp
  have hW2 : w.heap.size + 3 ≤ W.heap.size := by rw [hW]; simp
  have hbA : W.heap[w.heap.size]? = some (.cells #[.int .i64 Ta, .slice (some ⟨ba, offa, none⟩) na ca] 26 (0, 0)) := by rw [hW]; exact (Below.heap_alloc _ _ _ (by simp; omega)).trans ((Below.heap_alloc _ _ _ (by simp)).trans (heap_alloc_new _ _))
  have hbB : W.heap[w.heap.size + 1]? = some (.cells #[.int .i64 Tb, .slice (some ⟨bb, offb, none⟩) nb cb] 26 (0, 0)) := by rw [hW]; exact (Below.heap_alloc _ _ _ (by simp)).trans (new_at _ _ _ (by simp))
  have hbR : W.heap[w.heap.size + 1 + 1]? = some (.cells #[.int .i64 0, .slice none 0 0] 26 (0, 0)) := by rw [hW]; exact new_at _ _ _ (by simp)
  have BW : Below w.heap.size w W := by rw [hW]; exact (box_below.alloc (by simp) _).alloc (by simp; omega) _
  clear hW
  refine (specProfileOk_any Ta _ na ca la _ (hA.below BW)).mono ?_
  rintro e w1 ⟨rfl, U1⟩
  rw [qa]
  obtain ⟨a0, a1, _, _⟩ := boxed ((U1.block _ (by omega)).trans hbA)
  obtain ⟨b0, b1, _, _⟩ := boxed ((U1.block _ (by omega)).trans hbB)
  have z1 := U1.size
  go_wp2_with fail
  refine (specProfileOk_any Tb _ nb cb lb _ (hB.below (BW.trans (U1.mono (by omega))))).mono ?_
  rintro e w2 ⟨rfl, U2⟩
  rw [qb]
  have V2 : Below W.heap.size W w2 := U1.trans (U2.mono z1)
  clear a0 a1 b0 b1
  obtain ⟨a0, a1, _, _⟩ := boxed ((V2.block _ (by omega)).trans hbA)
  obtain ⟨b0, b1, _, _⟩ := boxed ((V2.block _ (by omega)).trans hbB)
  have z2 := V2.size
  clear U1 U2 z1
  go_wp2_with (go_at_call 56; refine (l1Min_any _ _ _).mono ?_; rintro e w' ⟨rfl, hq⟩; have hq' := hq.symm; clear hq; subst hq')
  obtain ⟨Tm, hTm⟩ : ∃ Tm, min Ta Tb = Tm := ⟨_, rfl⟩
  rw [hTm]
  obtain ⟨X, hX⟩ : ∃ X, X = w2.alloc (.cells #[.int .i64 Tm, .slice none 0 0] 26) := ⟨_, rfl⟩
  rw [← hX]
  obtain ⟨O, hOe⟩ : ∃ O, O = w2.heap.size := ⟨_, rfl⟩
  rw [← hOe]
  have hO1 : X.heap[O]? = some (.cells #[.int .i64 Tm, .slice none 0 0] 26 (0, 0)) := by rw [hX, hOe]; exact heap_alloc_new _ _
  have hX1 : X.heap.size ≤ O + 1 := by rw [hX, hOe]; simp
  have hX2 : O + 1 ≤ X.heap.size := by rw [hX, hOe]; simp
  have hOW : W.heap.size ≤ O := by rw [hOe]; exact z2
  have BX : Below W.heap.size W X := by rw [hX]; exact V2.trans (box_below.mono z2)
  clear hX hOe V2 z2 a0 a1 b0 b1
  have HTm : Hid (min Ta Tb = Tm) := hTm
  have HbA : Hid (X.heap[w.heap.size]? = some (.cells #[.int .i64 Ta, .slice (some ⟨ba, offa, none⟩) na ca] 26 (0, 0))) := (BX.block _ (by omega)).trans hbA
  have HbB : Hid (X.heap[w.heap.size + 1]? = some (.cells #[.int .i64 Tb, .slice (some ⟨bb, offb, none⟩) nb cb] 26 (0, 0))) := (BX.block _ (by omega)).trans hbB
  have HbR : Hid (X.heap[w.heap.size + 1 + 1]? = some (.cells #[.int .i64 0, .slice none 0 0] 26 (0, 0))) := (BX.block _ (by omega)).trans hbR
  have hA0 := hA
  have hB0 := hB
  have BX0 : Below w.heap.size w X := BW.trans (BX.mono (by omega))
  clear hTm hbA hbB hbR hA hB BW BX qa qb
  have hO3 : w.heap.size + 3 ≤ O := by omega
  clear hOW hW1 hW2
  have HPA : Hid (PO Ta la) := pa
  have HPB : Hid (PO Tb lb) := pb
  have HR0 : Hid (LowR la lb 0 (rawFrom la lb la.length 0)) := by
    have := low_all pa pb la.length 0 (Nat.zero_add _)
    rw [if_pos (by omega), pa.z] at this
    exact this
  have HL0 : (rawFrom la lb la.length 0).length ≤ 40000 := by have := rawFrom_len (la := la) pb la.length 0; omega
  clear pa pb
  go_loopg [7, 8, 9] ((rawFrom la lb la.length 0).length) (fun gg si sk st wx => ∃ (p q : Nat) (t : Int) (l out : List Lev) (u : Value), si = .int .i64 p ∧ sk = .int .i64 q ∧ st = .int .i64 t ∧ l.length = gg ∧ p ≤ na ∧ q ≤ nb ∧ 0 ≤ t ∧ Hid (∀ j, j < p → fr la j ≤ t) ∧ Hid (∀ j, j < q → fr lb j ≤ t) ∧ Hid (LowR la lb t l) ∧ Hid (joinL out l = lowL la lb) ∧ out.length + l.length ≤ 50000 ∧ CutS X O Tm u out wx)
  case atStart => exact ⟨0, 0, 0, _, [], .slice none 0 0, rfl, rfl, rfl, rfl, by omega, by omega, by omega, fun j hj => by omega, fun j hj => by omega, HR0, rfl, by simp; omega, ⟨hO1, World.ownsRow_nil _ _ _ _, But.refl _ _⟩⟩
  case round =>
    obtain ⟨p, q, t, l, out, u, rfl, rfl, rfl, hlg, hp, hq, t0, Hp, Hq, HR, HJ, hol, S⟩ := hrel
    obtain ⟨ua, ucap, rfl⟩ := own_shape S.own
    clear HR0 HL0 hO1
    have VX : Below (w.heap.size + 3) X wr := S.but.below (by omega) (by omega)
    have hA1 : Hid (wr.heap[w.heap.size]? = some (.cells #[.int .i64 Ta, .slice (some ⟨ba, offa, none⟩) na ca] 26 (0, 0))) := (VX.block _ (by omega)).trans HbA.out
    have hB1 : Hid (wr.heap[w.heap.size + 1]? = some (.cells #[.int .i64 Tb, .slice (some ⟨bb, offb, none⟩) nb cb] 26 (0, 0))) := (VX.block _ (by omega)).trans HbB.out
    have zr := S.but.size
    obtain ⟨a0, a1, _, _⟩ := boxed hA1.out
    obtain ⟨b0, b1, _, _⟩ := boxed hB1.out
    have hBw : Below w.heap.size w wr := BX0.trans (VX.mono (by omega))
    have hAr := hA0.below hBw
    have hBr := hB0.below hBw
    have SS : Hid (CutS X O Tm (.slice ua out.length ucap) out wr) := S
    clear S
    by_cases hlt : t < 1000000000
    · go_wp2
      have HS : wr.cell? ⟨w.heap.size, 0, none⟩ = some (.int .i64 Ta) ∧ wr.cell? ⟨w.heap.size, 1, none⟩ = some (.slice (some ⟨ba, offa, none⟩) na ca) ∧ wr.cell? ⟨w.heap.size + 1, 0, none⟩ = some (.int .i64 Tb) ∧ wr.cell? ⟨w.heap.size + 1, 1, none⟩ = some (.slice (some ⟨bb, offb, none⟩) nb cb) := ⟨a0, a1, b0, b1⟩
      clear a0 a1 b0 b1
      go_region_held3 (fun w' => w'.cell? ⟨w.heap.size, 0, none⟩ = some (.int .i64 Ta) ∧ w'.cell? ⟨w.heap.size, 1, none⟩ = some (.slice (some ⟨ba, offa, none⟩) na ca) ∧ w'.cell? ⟨w.heap.size + 1, 0, none⟩ = some (.int .i64 Tb) ∧ w'.cell? ⟨w.heap.size + 1, 1, none⟩ = some (.slice (some ⟨bb, offb, none⟩) nb cb)) (first | go_keep | exact KS) (first | (go_at_call 56; refine (l1Min_any _ _ _).mono ?_; rintro e w' ⟨rfl, hq⟩; have hq' := hq.symm; clear hq; subst hq') | (go_at_call 50; first
        | (have KC := KB; refine (specAt_any Tb t _ nb cb lb _ ?_ h0b).mono ?_; (first | exact hBr.below KC | exact (hBr.below KC).drew); rintro e w6 ⟨rfl, hb⟩; have KB := (show Below wr.heap.size wr w6 from (by first | exact KC.then hb KC.size | exact KC.drew.then hb KC.drew.size)); clear KC; have KS := And.intro (boxed ((KB.block _ (by omega)).trans hA1.out)).1 (And.intro (boxed ((KB.block _ (by omega)).trans hA1.out)).2.1 (And.intro (boxed ((KB.block _ (by omega)).trans hB1.out)).1 (boxed ((KB.block _ (by omega)).trans hB1.out)).2.1)))
        | (refine (specAt_any Ta t _ na ca la _ ?_ h0a).mono ?_; (first | exact hAr | exact hAr.drew); rintro e w5 ⟨rfl, hb⟩; have KB := (show Below wr.heap.size wr w5 from (by first | exact hb | exact (Below.refl _ _).drew.trans hb)); have KS := And.intro (boxed ((KB.block _ (by omega)).trans hA1.out)).1 (And.intro (boxed ((KB.block _ (by omega)).trans hA1.out)).2.1 (And.intro (boxed ((KB.block _ (by omega)).trans hB1.out)).1 (boxed ((KB.block _ (by omega)).trans hB1.out)).2.1)))))
      have hf0 : ∃ f, lowAt la lb t = f := ⟨_, rfl⟩
      obtain ⟨f, hf⟩ := hf0
      have hf' : min (atI la t) (atI lb t) = f := hf
      rw [hf']
      obtain ⟨l', rfl, hR'⟩ : ∃ l', l = (t, f) :: l' ∧ Hid (LowR la lb (stepT la lb t) l') := by
        obtain ⟨l', h1, h2⟩ := HR.out.inv.1 hlt
        exact ⟨l', by rw [h1, hf], h2⟩
      have HJ1 : Hid (joinL (addL out t f) l' = lowL la lb) := HJ.out
      have hO6 := (KB.block O (by omega)).trans SS.out.blk
      have own6 := own_below SS.out.own KB
      have But6 := SS.out.but.trans (But.of KB)
      have z6 := KB.size
      obtain ⟨o0, o1, f0, f1⟩ := boxed hO6
      clear hf hf' HR HJ KB hb SS hAr hBr hA1 hB1 hBw VX HS KS
      by_cases hl : out.length = 0
      · obtain rfl : out = [] := List.eq_nil_of_length_eq_zero hl
        have HS : Hid (addL [] t f = [] ++ [(t, f)]) := rfl
        go_wp2_with (at_builtin; refine wpList_append_own _ rfl (.tmp 53) (.tmp 57) 24 rfl X.heap.size 63 i1 (.agg #[.int .i64 0, .int .i64 0]) 2 16 Try.underlying24 hj hj0 hj1 hj2 rfl (by decide) _ _ _ rfl (own6.alloc _) ⟨w6.heap.size, 0, none⟩ 1 1 [.int .i64 t, .int .i64 f] rfl rfl ?g1 ?g2 ?g3 ?g4 ?g5 ?_)
        case g1 =>
          intro j u hj
          match j, hj with
          | 0, hj => simp at hj; subst hj; simp [Addr.add]
          | 1, hj => simp at hj; subst hj; simp [Addr.add]
        case g2 => intro u hu; simp at hu; rcases hu with rfl | rfl <;> rfl
        case g3 => unfold maxLen; omega
        case g4 => omega
        case g5 => simp; omega
        intro v' w4 hown' hgrow _
        rw [← cellsOf_more] at hown'
        have hown2 : w4.ownsRow X.heap.size 63 2 v' ([] ++ [(t, f)]).length (cellsOf ([] ++ [(t, f)])) := by rw [List.length_append]; exact hown'
        have But4 : But O X w4 := (But6.alloc _).grown hgrow (own_base own6)
        have hO4 := (hgrow.block O (by simp; omega) (fun e => by have := own_base own6 O e.symm; omega)).trans ((Below.heap_alloc _ _ _ (by omega)).trans hO6)
        clear hown' hgrow own6 But6 o0 o1 f0 f1 hO6
        obtain ⟨va, vcap, rfl⟩ := own_shape hown2
        obtain ⟨o0, o1, f0, f1⟩ := boxed hO4
        go_wp2
        have S2 : Hid (CutS X O Tm (.slice va (0 + 1) vcap) ([] ++ [(t, f)]) (w4.setCell ⟨O, 1, none⟩ (.slice va (0 + 1) vcap))) := ⟨blk_set hO4 _ (j := 1), by exact own_set (a := ⟨O, 1, none⟩) hown2 (show O < X.heap.size by omega) _, But4.setCell 1 _⟩
        clear hown2 But4 hO4 o0 o1 f0 f1
        have HJ2 : Hid (joinL ([] ++ [(t, f)]) l' = lowL la lb) := by have := HS.out; rw [← this]; exact HJ1.out
        have hol2 : ([] ++ [(t, f)]).length + l'.length ≤ 50000 := by simp at hol ⊢; omega
        obtain ⟨wz, hwz⟩ : ∃ wz, wz = w4.setCell ⟨O, 1, none⟩ (.slice va (0 + 1) vcap) := ⟨_, rfl⟩
        rw [← hwz] at S2 ⊢
        clear hwz
        have VZ : Below (w.heap.size + 3) X wz := S2.out.but.below (by omega) (by omega)
        obtain ⟨a0, a1, _, _⟩ := boxed ((VZ.block _ (by omega)).trans HbA.out)
        obtain ⟨b0, b1, _, _⟩ := boxed ((VZ.block _ (by omega)).trans HbB.out)
        have hBz : Below w.heap.size w wz := BX0.trans (VZ.mono (by omega))
        clear VZ
        go_loop [7] (fun i => ∃ p' : Nat, p' ≤ na ∧ i = .int .i64 p' ∧ Hid (∀ j, j < p' → fr la j ≤ t)) (fun i => na - (intOf i).toNat)
        case atStart => exact ⟨p, hp, rfl, Hp⟩
        case round =>
          obtain ⟨p', hp', rfl, Hp'⟩ := hrel
          by_cases hlta : p' < na
          · obtain ⟨x0, x1⟩ := cells_below (k := p') hata hBz hba (by omega)
            by_cases hca : fr la p' ≤ t
            · go_wp2
              go_round
              case rel => exact ⟨p' + 1, by omega, by go_num, fun j hj => by (by_cases e : j = p'; (subst e; exact hca); exact Hp'.out j (by omega))⟩
              case measure => simp [intOf]; omega
            · have hel := (HPA.out.el p' (by omega)).1
              have Ea : Hid (nxt la (lvl la t) 1000000000 = fr la p') := by have := HPA.out.nxt_next t0 (p := p') (by omega) Hp'.out (fun _ => by omega); rw [if_pos (by omega)] at this; exact this
              go_wp2
              go_loop [8] (fun i => ∃ q' : Nat, q' ≤ nb ∧ i = .int .i64 q' ∧ Hid (∀ j, j < q' → fr lb j ≤ t)) (fun i => nb - (intOf i).toNat)
              case atStart => exact ⟨q, hq, rfl, Hq⟩
              case round =>
                obtain ⟨q', hq', rfl, Hq'⟩ := hrel
                by_cases hltb : q' < nb
                · obtain ⟨y0, y1⟩ := cells_below (k := q') hatb hBz hbb (by omega)
                  by_cases hcb : fr lb q' ≤ t
                  · go_wp2
                    go_round
                    case rel => exact ⟨q' + 1, by omega, by go_num, fun j hj => by (by_cases e : j = q'; (subst e; exact hcb); exact Hq'.out j (by omega))⟩
                    case measure => simp [intOf]; omega
                  · have Eb : Hid (nxt lb (lvl lb t) 1000000000 = fr lb q') := by have := HPB.out.nxt_next t0 (p := q') (by omega) Hq'.out (fun _ => by omega); rw [if_pos (by omega)] at this; exact this
                    have E : Hid (stepT la lb t = min (fr la p') (fr lb q')) := by unfold Hid stepT; rw [Ea.out, Eb.out]
                    have hR2 : Hid (LowR la lb (min (fr la p') (fr lb q')) l') := by have := hR'; rw [E.out] at this; exact this
                    clear hR' Ea Eb E
                    go_wp2_with (go_at_call 56; refine (l1Min_any _ _ _).mono ?_; rintro e w' ⟨rfl, hq⟩; have hq' := hq.symm; clear hq; subst hq')
                    go_roundg (l'.length)
                    case measure => simp only [List.length_cons] at hlg; omega
                    case rel => exact ⟨p', q', _, l', _, _, rfl, rfl, rfl, rfl, by omega, by omega, by omega, (fun j hj => by have := Hp'.out j hj; omega), (fun j hj => by have := Hq'.out j hj; omega), hR2, HJ2, hol2, S2.out⟩
                · have Eb : Hid (nxt lb (lvl lb t) 1000000000 = 1000000000) := by have := HPB.out.nxt_next t0 (p := q') (by omega) Hq'.out (fun _ => by omega); rw [if_neg (by omega)] at this; exact this
                  have E : Hid (stepT la lb t = fr la p') := by unfold Hid stepT; rw [Ea.out, Eb.out]; omega
                  have hR2 : Hid (LowR la lb (fr la p') l') := by have := hR'; rw [E.out] at this; exact this
                  clear hR' Ea Eb E
                  go_wp2_with (go_at_call 56; refine (l1Min_any _ _ _).mono ?_; rintro e w' ⟨rfl, hq⟩; have hq' := hq.symm; clear hq; subst hq')
                  go_roundg (l'.length)
                  case measure => simp only [List.length_cons] at hlg; omega
                  case rel => exact ⟨p', q', _, l', _, _, rfl, rfl, rfl, rfl, by omega, by omega, by omega, (fun j hj => by have := Hp'.out j hj; omega), (fun j hj => by have := Hq'.out j hj; omega), hR2, HJ2, hol2, S2.out⟩
          · have Ea : Hid (nxt la (lvl la t) 1000000000 = 1000000000) := by have := HPA.out.nxt_next t0 (p := p') (by omega) Hp'.out (fun _ => by omega); rw [if_neg (by omega)] at this; exact this
            go_wp2
            go_loop [8] (fun i => ∃ q' : Nat, q' ≤ nb ∧ i = .int .i64 q' ∧ Hid (∀ j, j < q' → fr lb j ≤ t)) (fun i => nb - (intOf i).toNat)
            case atStart => exact ⟨q, hq, rfl, Hq⟩
            case round =>
              obtain ⟨q', hq', rfl, Hq'⟩ := hrel
              by_cases hltb : q' < nb
              · obtain ⟨y0, y1⟩ := cells_below (k := q') hatb hBz hbb (by omega)
                by_cases hcb : fr lb q' ≤ t
                · go_wp2
                  go_round
                  case rel => exact ⟨q' + 1, by omega, by go_num, fun j hj => by (by_cases e : j = q'; (subst e; exact hcb); exact Hq'.out j (by omega))⟩
                  case measure => simp [intOf]; omega
                · have Eb : Hid (nxt lb (lvl lb t) 1000000000 = fr lb q') := by have := HPB.out.nxt_next t0 (p := q') (by omega) Hq'.out (fun _ => by omega); rw [if_pos (by omega)] at this; exact this
                  have E : Hid (stepT la lb t = min (1000000000) (fr lb q')) := by unfold Hid stepT; rw [Ea.out, Eb.out]
                  have hR2 : Hid (LowR la lb (min (1000000000) (fr lb q')) l') := by have := hR'; rw [E.out] at this; exact this
                  clear hR' Ea Eb E
                  go_wp2_with (go_at_call 56; refine (l1Min_any _ _ _).mono ?_; rintro e w' ⟨rfl, hq⟩; have hq' := hq.symm; clear hq; subst hq')
                  go_roundg (l'.length)
                  case measure => simp only [List.length_cons] at hlg; omega
                  case rel => exact ⟨p', q', _, l', _, _, rfl, rfl, rfl, rfl, by omega, by omega, by omega, (fun j hj => by have := Hp'.out j hj; omega), (fun j hj => by have := Hq'.out j hj; omega), hR2, HJ2, hol2, S2.out⟩
              · have Eb : Hid (nxt lb (lvl lb t) 1000000000 = 1000000000) := by have := HPB.out.nxt_next t0 (p := q') (by omega) Hq'.out (fun _ => by omega); rw [if_neg (by omega)] at this; exact this
                have E : Hid (stepT la lb t = 1000000000) := by unfold Hid stepT; rw [Ea.out, Eb.out]; omega
                have hR2 : Hid (LowR la lb (1000000000) l') := by have := hR'; rw [E.out] at this; exact this
                clear hR' Ea Eb E
                go_wp2_with (go_at_call 56; refine (l1Min_any _ _ _).mono ?_; rintro e w' ⟨rfl, hq⟩; have hq' := hq.symm; clear hq; subst hq')
                go_roundg (l'.length)
                case measure => simp only [List.length_cons] at hlg; omega
                case rel => exact ⟨p', q', _, l', _, _, rfl, rfl, rfl, rfl, by omega, by omega, by omega, (fun j hj => by have := Hp'.out j hj; omega), (fun j hj => by have := Hq'.out j hj; omega), hR2, HJ2, hol2, S2.out⟩
      · obtain ⟨g2, cap2, hsl, hg21, hg22, hle2, hmx2, hcell⟩ := own_levs own6 (by omega)
        obtain ⟨rfl, rfl⟩ : ua = some ⟨g2, 0, none⟩ ∧ ucap = cap2 := by injection hsl with h1 _ h2; exact ⟨h1, h2⟩
        clear hsl hle2 hmx2
        obtain ⟨la', hla⟩ : ∃ la', fe out (out.length - 1) = la' := ⟨_, rfl⟩
        rw [hla] at hcell
        have hl1 : 0 < out.length := by omega
        by_cases hs : la' = f
        · rw [← hla] at hs
          have HS : Hid (addL out t f = out) := addL_same hl1 hs
          rw [hla] at hs
          subst hs
          clear hla
          go_wp2
          have S2 : Hid (CutS X O Tm (.slice (some ⟨g2, 0, none⟩) out.length ucap) out w6) := ⟨hO6, own6, But6⟩
          have HJ2 : Hid (joinL out l' = lowL la lb) := by have := HS.out; have h2 := HJ1.out; rw [this] at h2; exact h2
          have hol2 : out.length + l'.length ≤ 50000 := by simp at hol; omega
          clear hO6 own6 But6 o0 o1 f0 f1 hcell
          obtain ⟨wz, hwz⟩ : ∃ wz, wz = w6 := ⟨_, rfl⟩
          rw [← hwz] at S2 ⊢
          clear hwz
          have VZ : Below (w.heap.size + 3) X wz := S2.out.but.below (by omega) (by omega)
          obtain ⟨a0, a1, _, _⟩ := boxed ((VZ.block _ (by omega)).trans HbA.out)
          obtain ⟨b0, b1, _, _⟩ := boxed ((VZ.block _ (by omega)).trans HbB.out)
          have hBz : Below w.heap.size w wz := BX0.trans (VZ.mono (by omega))
          clear VZ
          go_loop [7] (fun i => ∃ p' : Nat, p' ≤ na ∧ i = .int .i64 p' ∧ Hid (∀ j, j < p' → fr la j ≤ t)) (fun i => na - (intOf i).toNat)
          case atStart => exact ⟨p, hp, rfl, Hp⟩
          case round =>
            obtain ⟨p', hp', rfl, Hp'⟩ := hrel
            by_cases hlta : p' < na
            · obtain ⟨x0, x1⟩ := cells_below (k := p') hata hBz hba (by omega)
              by_cases hca : fr la p' ≤ t
              · go_wp2
                go_round
                case rel => exact ⟨p' + 1, by omega, by go_num, fun j hj => by (by_cases e : j = p'; (subst e; exact hca); exact Hp'.out j (by omega))⟩
                case measure => simp [intOf]; omega
              · have hel := (HPA.out.el p' (by omega)).1
                have Ea : Hid (nxt la (lvl la t) 1000000000 = fr la p') := by have := HPA.out.nxt_next t0 (p := p') (by omega) Hp'.out (fun _ => by omega); rw [if_pos (by omega)] at this; exact this
                go_wp2
                go_loop [8] (fun i => ∃ q' : Nat, q' ≤ nb ∧ i = .int .i64 q' ∧ Hid (∀ j, j < q' → fr lb j ≤ t)) (fun i => nb - (intOf i).toNat)
                case atStart => exact ⟨q, hq, rfl, Hq⟩
                case round =>
                  obtain ⟨q', hq', rfl, Hq'⟩ := hrel
                  by_cases hltb : q' < nb
                  · obtain ⟨y0, y1⟩ := cells_below (k := q') hatb hBz hbb (by omega)
                    by_cases hcb : fr lb q' ≤ t
                    · go_wp2
                      go_round
                      case rel => exact ⟨q' + 1, by omega, by go_num, fun j hj => by (by_cases e : j = q'; (subst e; exact hcb); exact Hq'.out j (by omega))⟩
                      case measure => simp [intOf]; omega
                    · have Eb : Hid (nxt lb (lvl lb t) 1000000000 = fr lb q') := by have := HPB.out.nxt_next t0 (p := q') (by omega) Hq'.out (fun _ => by omega); rw [if_pos (by omega)] at this; exact this
                      have E : Hid (stepT la lb t = min (fr la p') (fr lb q')) := by unfold Hid stepT; rw [Ea.out, Eb.out]
                      have hR2 : Hid (LowR la lb (min (fr la p') (fr lb q')) l') := by have := hR'; rw [E.out] at this; exact this
                      clear hR' Ea Eb E
                      go_wp2_with (go_at_call 56; refine (l1Min_any _ _ _).mono ?_; rintro e w' ⟨rfl, hq⟩; have hq' := hq.symm; clear hq; subst hq')
                      go_roundg (l'.length)
                      case measure => simp only [List.length_cons] at hlg; omega
                      case rel => exact ⟨p', q', _, l', _, _, rfl, rfl, rfl, rfl, by omega, by omega, by omega, (fun j hj => by have := Hp'.out j hj; omega), (fun j hj => by have := Hq'.out j hj; omega), hR2, HJ2, hol2, S2.out⟩
                  · have Eb : Hid (nxt lb (lvl lb t) 1000000000 = 1000000000) := by have := HPB.out.nxt_next t0 (p := q') (by omega) Hq'.out (fun _ => by omega); rw [if_neg (by omega)] at this; exact this
                    have E : Hid (stepT la lb t = fr la p') := by unfold Hid stepT; rw [Ea.out, Eb.out]; omega
                    have hR2 : Hid (LowR la lb (fr la p') l') := by have := hR'; rw [E.out] at this; exact this
                    clear hR' Ea Eb E
                    go_wp2_with (go_at_call 56; refine (l1Min_any _ _ _).mono ?_; rintro e w' ⟨rfl, hq⟩; have hq' := hq.symm; clear hq; subst hq')
                    go_roundg (l'.length)
                    case measure => simp only [List.length_cons] at hlg; omega
                    case rel => exact ⟨p', q', _, l', _, _, rfl, rfl, rfl, rfl, by omega, by omega, by omega, (fun j hj => by have := Hp'.out j hj; omega), (fun j hj => by have := Hq'.out j hj; omega), hR2, HJ2, hol2, S2.out⟩
            · have Ea : Hid (nxt la (lvl la t) 1000000000 = 1000000000) := by have := HPA.out.nxt_next t0 (p := p') (by omega) Hp'.out (fun _ => by omega); rw [if_neg (by omega)] at this; exact this
              go_wp2
              go_loop [8] (fun i => ∃ q' : Nat, q' ≤ nb ∧ i = .int .i64 q' ∧ Hid (∀ j, j < q' → fr lb j ≤ t)) (fun i => nb - (intOf i).toNat)
              case atStart => exact ⟨q, hq, rfl, Hq⟩
              case round =>
                obtain ⟨q', hq', rfl, Hq'⟩ := hrel
                by_cases hltb : q' < nb
                · obtain ⟨y0, y1⟩ := cells_below (k := q') hatb hBz hbb (by omega)
                  by_cases hcb : fr lb q' ≤ t
                  · go_wp2
                    go_round
                    case rel => exact ⟨q' + 1, by omega, by go_num, fun j hj => by (by_cases e : j = q'; (subst e; exact hcb); exact Hq'.out j (by omega))⟩
                    case measure => simp [intOf]; omega
                  · have Eb : Hid (nxt lb (lvl lb t) 1000000000 = fr lb q') := by have := HPB.out.nxt_next t0 (p := q') (by omega) Hq'.out (fun _ => by omega); rw [if_pos (by omega)] at this; exact this
                    have E : Hid (stepT la lb t = min (1000000000) (fr lb q')) := by unfold Hid stepT; rw [Ea.out, Eb.out]
                    have hR2 : Hid (LowR la lb (min (1000000000) (fr lb q')) l') := by have := hR'; rw [E.out] at this; exact this
                    clear hR' Ea Eb E
                    go_wp2_with (go_at_call 56; refine (l1Min_any _ _ _).mono ?_; rintro e w' ⟨rfl, hq⟩; have hq' := hq.symm; clear hq; subst hq')
                    go_roundg (l'.length)
                    case measure => simp only [List.length_cons] at hlg; omega
                    case rel => exact ⟨p', q', _, l', _, _, rfl, rfl, rfl, rfl, by omega, by omega, by omega, (fun j hj => by have := Hp'.out j hj; omega), (fun j hj => by have := Hq'.out j hj; omega), hR2, HJ2, hol2, S2.out⟩
                · have Eb : Hid (nxt lb (lvl lb t) 1000000000 = 1000000000) := by have := HPB.out.nxt_next t0 (p := q') (by omega) Hq'.out (fun _ => by omega); rw [if_neg (by omega)] at this; exact this
                  have E : Hid (stepT la lb t = 1000000000) := by unfold Hid stepT; rw [Ea.out, Eb.out]; omega
                  have hR2 : Hid (LowR la lb (1000000000) l') := by have := hR'; rw [E.out] at this; exact this
                  clear hR' Ea Eb E
                  go_wp2_with (go_at_call 56; refine (l1Min_any _ _ _).mono ?_; rintro e w' ⟨rfl, hq⟩; have hq' := hq.symm; clear hq; subst hq')
                  go_roundg (l'.length)
                  case measure => simp only [List.length_cons] at hlg; omega
                  case rel => exact ⟨p', q', _, l', _, _, rfl, rfl, rfl, rfl, by omega, by omega, by omega, (fun j hj => by have := Hp'.out j hj; omega), (fun j hj => by have := Hq'.out j hj; omega), hR2, HJ2, hol2, S2.out⟩
        · have HS : Hid (addL out t f = out ++ [(t, f)]) := addL_other hl1 (by rw [hla]; exact hs)
          have hs1 : (la' == f) = false := by simpa using hs
          have hs2 : (la' != f) = true := by simpa using hs
          clear hla
          go_wp2_with (at_builtin; refine wpList_append_own _ rfl (.tmp 53) (.tmp 57) 24 rfl X.heap.size 63 i1 (.agg #[.int .i64 0, .int .i64 0]) 2 16 Try.underlying24 hj hj0 hj1 hj2 rfl (by decide) _ _ _ rfl (own6.alloc _) ⟨w6.heap.size, 0, none⟩ 1 1 [.int .i64 t, .int .i64 f] rfl rfl ?g1 ?g2 ?g3 ?g4 ?g5 ?_)
          case g1 =>
            intro j u hj
            match j, hj with
            | 0, hj => simp at hj; subst hj; simp [Addr.add]
            | 1, hj => simp at hj; subst hj; simp [Addr.add]
          case g2 => intro u hu; simp at hu; rcases hu with rfl | rfl <;> rfl
          case g3 => unfold maxLen; omega
          case g4 => omega
          case g5 => simp; omega
          intro v' w4 hown' hgrow _
          rw [← cellsOf_more] at hown'
          have hown2 : w4.ownsRow X.heap.size 63 2 v' (out ++ [(t, f)]).length (cellsOf (out ++ [(t, f)])) := by rw [List.length_append]; exact hown'
          have But4 : But O X w4 := (But6.alloc _).grown hgrow (own_base own6)
          have hO4 := (hgrow.block O (by simp; omega) (fun e => by have := own_base own6 O e.symm; omega)).trans ((Below.heap_alloc _ _ _ (by omega)).trans hO6)
          clear hown' hgrow own6 But6 o0 o1 f0 f1 hO6
          obtain ⟨va, vcap, rfl⟩ := own_shape hown2
          have hL : (out ++ [(t, f)]).length = out.length + 1 := by simp
          rw [hL] at hown2
          obtain ⟨o0, o1, f0, f1⟩ := boxed hO4
          go_wp2
          have S2 : Hid (CutS X O Tm (.slice va (out.length + 1) vcap) (out ++ [(t, f)]) (w4.setCell ⟨O, 1, none⟩ (.slice va (out.length + 1) vcap))) := ⟨blk_set hO4 _ (j := 1), by rw [hL]; exact own_set (a := ⟨O, 1, none⟩) hown2 (show O < X.heap.size by omega) _, But4.setCell 1 _⟩
          clear hown2 But4 hO4 o0 o1 f0 f1
          have HJ2 : Hid (joinL (out ++ [(t, f)]) l' = lowL la lb) := by have := HS.out; rw [← this]; exact HJ1.out
          have hol2 : (out ++ [(t, f)]).length + l'.length ≤ 50000 := by simp at hol ⊢; omega
          obtain ⟨wz, hwz⟩ : ∃ wz, wz = w4.setCell ⟨O, 1, none⟩ (.slice va (out.length + 1) vcap) := ⟨_, rfl⟩
          rw [← hwz] at S2 ⊢
          clear hwz
          have VZ : Below (w.heap.size + 3) X wz := S2.out.but.below (by omega) (by omega)
          obtain ⟨a0, a1, _, _⟩ := boxed ((VZ.block _ (by omega)).trans HbA.out)
          obtain ⟨b0, b1, _, _⟩ := boxed ((VZ.block _ (by omega)).trans HbB.out)
          have hBz : Below w.heap.size w wz := BX0.trans (VZ.mono (by omega))
          clear VZ
          go_loop [7] (fun i => ∃ p' : Nat, p' ≤ na ∧ i = .int .i64 p' ∧ Hid (∀ j, j < p' → fr la j ≤ t)) (fun i => na - (intOf i).toNat)
          case atStart => exact ⟨p, hp, rfl, Hp⟩
          case round =>
            obtain ⟨p', hp', rfl, Hp'⟩ := hrel
            by_cases hlta : p' < na
            · obtain ⟨x0, x1⟩ := cells_below (k := p') hata hBz hba (by omega)
              by_cases hca : fr la p' ≤ t
              · go_wp2
                go_round
                case rel => exact ⟨p' + 1, by omega, by go_num, fun j hj => by (by_cases e : j = p'; (subst e; exact hca); exact Hp'.out j (by omega))⟩
                case measure => simp [intOf]; omega
              · have hel := (HPA.out.el p' (by omega)).1
                have Ea : Hid (nxt la (lvl la t) 1000000000 = fr la p') := by have := HPA.out.nxt_next t0 (p := p') (by omega) Hp'.out (fun _ => by omega); rw [if_pos (by omega)] at this; exact this
                go_wp2
                go_loop [8] (fun i => ∃ q' : Nat, q' ≤ nb ∧ i = .int .i64 q' ∧ Hid (∀ j, j < q' → fr lb j ≤ t)) (fun i => nb - (intOf i).toNat)
                case atStart => exact ⟨q, hq, rfl, Hq⟩
                case round =>
                  obtain ⟨q', hq', rfl, Hq'⟩ := hrel
                  by_cases hltb : q' < nb
                  · obtain ⟨y0, y1⟩ := cells_below (k := q') hatb hBz hbb (by omega)
                    by_cases hcb : fr lb q' ≤ t
                    · go_wp2
                      go_round
                      case rel => exact ⟨q' + 1, by omega, by go_num, fun j hj => by (by_cases e : j = q'; (subst e; exact hcb); exact Hq'.out j (by omega))⟩
                      case measure => simp [intOf]; omega
                    · have Eb : Hid (nxt lb (lvl lb t) 1000000000 = fr lb q') := by have := HPB.out.nxt_next t0 (p := q') (by omega) Hq'.out (fun _ => by omega); rw [if_pos (by omega)] at this; exact this
                      have E : Hid (stepT la lb t = min (fr la p') (fr lb q')) := by unfold Hid stepT; rw [Ea.out, Eb.out]
                      have hR2 : Hid (LowR la lb (min (fr la p') (fr lb q')) l') := by have := hR'; rw [E.out] at this; exact this
                      clear hR' Ea Eb E
                      go_wp2_with (go_at_call 56; refine (l1Min_any _ _ _).mono ?_; rintro e w' ⟨rfl, hq⟩; have hq' := hq.symm; clear hq; subst hq')
                      go_roundg (l'.length)
                      case measure => simp only [List.length_cons] at hlg; omega
                      case rel => exact ⟨p', q', _, l', _, _, rfl, rfl, rfl, rfl, by omega, by omega, by omega, (fun j hj => by have := Hp'.out j hj; omega), (fun j hj => by have := Hq'.out j hj; omega), hR2, HJ2, hol2, S2.out⟩
                  · have Eb : Hid (nxt lb (lvl lb t) 1000000000 = 1000000000) := by have := HPB.out.nxt_next t0 (p := q') (by omega) Hq'.out (fun _ => by omega); rw [if_neg (by omega)] at this; exact this
                    have E : Hid (stepT la lb t = fr la p') := by unfold Hid stepT; rw [Ea.out, Eb.out]; omega
                    have hR2 : Hid (LowR la lb (fr la p') l') := by have := hR'; rw [E.out] at this; exact this
                    clear hR' Ea Eb E
                    go_wp2_with (go_at_call 56; refine (l1Min_any _ _ _).mono ?_; rintro e w' ⟨rfl, hq⟩; have hq' := hq.symm; clear hq; subst hq')
                    go_roundg (l'.length)
                    case measure => simp only [List.length_cons] at hlg; omega
                    case rel => exact ⟨p', q', _, l', _, _, rfl, rfl, rfl, rfl, by omega, by omega, by omega, (fun j hj => by have := Hp'.out j hj; omega), (fun j hj => by have := Hq'.out j hj; omega), hR2, HJ2, hol2, S2.out⟩
            · have Ea : Hid (nxt la (lvl la t) 1000000000 = 1000000000) := by have := HPA.out.nxt_next t0 (p := p') (by omega) Hp'.out (fun _ => by omega); rw [if_neg (by omega)] at this; exact this
              go_wp2
              go_loop [8] (fun i => ∃ q' : Nat, q' ≤ nb ∧ i = .int .i64 q' ∧ Hid (∀ j, j < q' → fr lb j ≤ t)) (fun i => nb - (intOf i).toNat)
              case atStart => exact ⟨q, hq, rfl, Hq⟩
              case round =>
                obtain ⟨q', hq', rfl, Hq'⟩ := hrel
                by_cases hltb : q' < nb
                · obtain ⟨y0, y1⟩ := cells_below (k := q') hatb hBz hbb (by omega)
                  by_cases hcb : fr lb q' ≤ t
                  · go_wp2
                    go_round
                    case rel => exact ⟨q' + 1, by omega, by go_num, fun j hj => by (by_cases e : j = q'; (subst e; exact hcb); exact Hq'.out j (by omega))⟩
                    case measure => simp [intOf]; omega
                  · have Eb : Hid (nxt lb (lvl lb t) 1000000000 = fr lb q') := by have := HPB.out.nxt_next t0 (p := q') (by omega) Hq'.out (fun _ => by omega); rw [if_pos (by omega)] at this; exact this
                    have E : Hid (stepT la lb t = min (1000000000) (fr lb q')) := by unfold Hid stepT; rw [Ea.out, Eb.out]
                    have hR2 : Hid (LowR la lb (min (1000000000) (fr lb q')) l') := by have := hR'; rw [E.out] at this; exact this
                    clear hR' Ea Eb E
                    go_wp2_with (go_at_call 56; refine (l1Min_any _ _ _).mono ?_; rintro e w' ⟨rfl, hq⟩; have hq' := hq.symm; clear hq; subst hq')
                    go_roundg (l'.length)
                    case measure => simp only [List.length_cons] at hlg; omega
                    case rel => exact ⟨p', q', _, l', _, _, rfl, rfl, rfl, rfl, by omega, by omega, by omega, (fun j hj => by have := Hp'.out j hj; omega), (fun j hj => by have := Hq'.out j hj; omega), hR2, HJ2, hol2, S2.out⟩
                · have Eb : Hid (nxt lb (lvl lb t) 1000000000 = 1000000000) := by have := HPB.out.nxt_next t0 (p := q') (by omega) Hq'.out (fun _ => by omega); rw [if_neg (by omega)] at this; exact this
                  have E : Hid (stepT la lb t = 1000000000) := by unfold Hid stepT; rw [Ea.out, Eb.out]; omega
                  have hR2 : Hid (LowR la lb (1000000000) l') := by have := hR'; rw [E.out] at this; exact this
                  clear hR' Ea Eb E
                  go_wp2_with (go_at_call 56; refine (l1Min_any _ _ _).mono ?_; rintro e w' ⟨rfl, hq⟩; have hq' := hq.symm; clear hq; subst hq')
                  go_roundg (l'.length)
                  case measure => simp only [List.length_cons] at hlg; omega
                  case rel => exact ⟨p', q', _, l', _, _, rfl, rfl, rfl, rfl, by omega, by omega, by omega, (fun j hj => by have := Hp'.out j hj; omega), (fun j hj => by have := Hq'.out j hj; omega), hR2, HJ2, hol2, S2.out⟩
    · have hnil := HR.out.inv.2 hlt
      subst hnil
      have HO : Hid (out = lowL la lb) := HJ.out
      have hOw := SS.out.blk
      obtain ⟨o0, o1, f0, f1⟩ := boxed hOw
      have HLS : LevS wr ua out.length ucap out := own_LevS SS.out.own (by rw [HO.out]; exact lowL_wf HPA.out HPB.out)
      have hBR := (VX.block _ (by omega)).trans HbR.out
      clear a0 a1 b0 b1
      go_wp2_with fail
      refine (specProfileOk_any Tm ua out.length ucap out _ HLS).mono ?_
      rintro e w7 ⟨rfl, U7⟩
      obtain ⟨o0, o1, _, _⟩ := boxed ((U7.block O (by omega)).trans hOw)
      have hR7 := (U7.block _ (by omega)).trans hBR
      obtain ⟨r0, r1, _, _⟩ := boxed hR7
      have own7 := own_below SS.out.own U7
      have B7 := hBw.then U7 hBw.size
      clear U7 HLS hBR hOw VX hBw hAr hBr SS hA1 hB1
      by_cases hP : poB Tm out = true
      · have HP : Hid (poB Tm out = true) := hP
        rw [hP]
        clear hP
        go_wp2
        have hg := blk_set (blk_set hR7 (.int .i64 Tm) (j := 0)) (.slice ua out.length ucap) (j := 1)
        refine bodyPost_ret (results_box2 rfl _ _ (w.heap.size + 1 + 1) _ _ _ _ rfl hg Try.underlying26 rfl sized26 _ rfl) rfl ⟨(B7.setCell (by simp; omega) _).setCell (by simp; omega) _, fun _ => ?_, fun h => ?_⟩
        · rw [← HO.out, HTm.out]
          exact ⟨_, rfl, own_low (own_set (own_set own7 (by simp; omega) _) (by simp; omega) _) (by omega)⟩
        · rw [← HO.out, HTm.out, HP.out] at h; cases h
      · simp only [Bool.not_eq_true] at hP
        have HP : Hid (poB Tm out = false) := hP
        rw [hP]
        clear hP
        go_wp2
        have hg := blk_set (blk_set hR7 (.int .i64 0) (j := 0)) (.slice none 0 0) (j := 1)
        refine bodyPost_ret (results_box2 rfl _ _ (w.heap.size + 1 + 1) _ _ _ _ rfl hg Try.underlying26 rfl sized26 _ rfl) rfl ⟨(B7.setCell (by simp; omega) _).setCell (by simp; omega) _, fun h => ?_, fun _ => rfl⟩
        rw [← HO.out, HTm.out, HP.out] at h; cases h

end Go.Proofs.Ytdaedggmeoganaa
