/- The program's Lower. -/
import Derived.Test.YtdaedggmeoganaaLowImpl
import Derived.Test.YtdaedggmeoganaaArea
import Derived.Maps.AppendAt
import Derived.Maps.AppendAt
import Derived.Maps.AppendAt
namespace Go.Proofs.Ytdaedggmeoganaa
open Go.RowKit

theorem LevB.cells {w : World} {B n : Nat} {ls : List Lev} (h : LevB w B n n ls) {i : Nat} (hi : i < n) :
    w.cell? ⟨B, i * 2, none⟩ = some (.int .i64 (fr ls i)) ∧ w.cell? ⟨B, i * 2 + 1, none⟩ = some (.int .i64 (fe ls i)) := by
  obtain ⟨cur, h1, h2, h3⟩ := h
  obtain ⟨c0, c1⟩ := h3 i hi
  refine ⟨(cell_of_blk (i * 2) h1 (by omega)).trans ?_, (cell_of_blk (i * 2 + 1) h1 (by omega)).trans ?_⟩
  · rw [← Array.getElem?_eq_getElem]; exact c0
  · rw [← Array.getElem?_eq_getElem]; exact c1

theorem LevB.but {W w : World} {G B n : Nat} {ls : List Lev} (h : LevB W B n n ls) (hb : But G W w) (hG : B ≠ G) : LevB w B n n ls := by
  obtain ⟨cur, h1, h2, h3⟩ := h
  exact ⟨cur, (hb.block B (lt_of_block h1) hG).trans h1, h2, h3⟩

theorem But.grownAt {O : Nat} {W w w' : World} {row : Option Nat} (h : But O W w) (hg : w.grownBy w' row) (hr : ∀ k, row = some k → k = O ∨ W.heap.size ≤ k) : But O W w' :=
  ⟨hg.os.trans h.os, hg.tape.trans h.tape, hg.output.trans h.output, Nat.le_trans h.size hg.size, fun k hk hne =>
    (hg.block k (Nat.lt_of_lt_of_le hk h.size) (fun e => by rcases hr k e.symm with h | h <;> omega)).trans (h.block k hk hne)⟩

theorem own_block {w : World} {base : Nat} {a : Option Addr} {n c : Nat} {e : TypeId} {size : Nat} {xs : List Value} (h : w.ownsRow base e size (.slice a n c) n xs) (hb : base < w.heap.size) :
    ∃ G, base ≤ G ∧ G < w.heap.size ∧ ∀ k, (Value.slice a n c).ownBlock = some k → k = G := by
  have hl := h.lt
  cases a with
  | none => exact ⟨base, Nat.le_refl _, hb, fun k hk => by simp [Value.ownBlock] at hk⟩
  | some ad => exact ⟨ad.block, (hl _ rfl).1, (hl _ rfl).2, fun k hk => by simp [Value.ownBlock] at hk; exact hk.symm⟩

theorem rawC_take {la lb : List Lev} {k q : Nat} (h : q < (cpd lb (fr la k) (nxt la k 1000000000)).length) :
    (rawC la lb k).take (q + 1) = (rawC la lb k).take q ++ [(fr (cpd lb (fr la k) (nxt la k 1000000000)) q, min (fe la k) (fe (cpd lb (fr la k) (nxt la k 1000000000)) q))] := by
  have h2 : q < (rawC la lb k).length := by unfold rawC; rw [List.length_map]; exact h
  rw [List.take_succ_eq_append_getElem h2]
  congr 2
  simp only [rawC, List.getElem_map, get_fr h, get_fe h]

theorem box1_below {w : World} {v0 : Value} {T : TypeId} : Below w.heap.size w (w.alloc (.cells #[v0] T)) := (Below.refl _ _).alloc (Nat.le_refl _) _

theorem rawFrom_wf {Ta Tb : Int} {la lb : List Lev} (pa : PO Ta la) (pb : PO Tb lb) : ∀ i, i < (rawFrom la lb la.length 0).length → (-9223372036854775808 ≤ fr (rawFrom la lb la.length 0) i ∧ fr (rawFrom la lb la.length 0) i ≤ 9223372036854775807) ∧ (-9223372036854775808 ≤ fe (rawFrom la lb la.length 0) i ∧ fe (rawFrom la lb la.length 0) i ≤ 9223372036854775807) := by
  intro i hi
  have h1 := low_all pa pb la.length 0 (Nat.zero_add _)
  have n1 := pa.n1
  rw [if_pos (by omega), pa.z] at h1
  have := h1.bd pa pb (Int.le_refl _) _ (List.getElem_mem hi)
  rw [get_fr hi, get_fe hi] at this
  omega

set_option maxRecDepth 8000 in
set_option maxHeartbeats 2000000 in
theorem implLower_ok (Ta Tb : Int) (a b : Option Addr) (na ca nb cb : Nat) (la lb : List Lev) (w : World) (hA : LevS w a na ca la) (hB : LevS w b nb cb lb) (pa : PO Ta la) (pb : PO Tb lb) :
    Calls Try.prog 21 #[.agg #[.int .i64 Ta, .slice a na ca], .agg #[.int .i64 Tb, .slice b nb cb]] w fun e w' =>
      Below w.heap.size w w' ∧ ((lowL la lb).length ≤ 200 → ∃ v, e = .returned (.tuple #[.agg #[.int .i64 (min Ta Tb), v], .bool true]) ∧ w'.ownsRow w.heap.size 63 2 v (lowL la lb).length (cellsOf (lowL la lb))) ∧
        (200 < (lowL la lb).length → e = .returned (.tuple #[.agg #[.int .i64 0, .slice none 0 0], .bool false])) := by
  obtain ⟨i1, hj, hj0, hj1, hj2⟩ := info_parts info69
  have qa := poB_mk pa
  have qb := poB_mk pb
  have hlena := hA.len
  have hlenb := hB.len
  have hna : na ≤ 200 := by have := pa.n2; omega
  have hnb : nb ≤ 200 := by have := pb.n2; omega
  have h0a : 0 < na := by have := pa.n1; omega
  have h0b : 0 < nb := by have := pb.n1; omega
  obtain ⟨ba, offa, rfl, hba, hata⟩ := hA.at_ h0a
  go_enter Try.func21, Try.ntmps21
  go_wp2_with fail
  obtain ⟨W, hW⟩ : ∃ W, W = ((w.alloc (.cells #[.int .i64 Ta, .slice (some ⟨ba, offa, none⟩) na ca] 26)).alloc (.cells #[.int .i64 Tb, .slice b nb cb] 26)).alloc (.cells #[.int .i64 0, .slice none 0 0] 26) := ⟨_, rfl⟩
  rw [← hW]
  have hW1 : W.heap.size ≤ w.heap.size + 3 := by rw [hW]; simp
  have hW2 : w.heap.size + 3 ≤ W.heap.size := by rw [hW]; simp
  have hbA : W.heap[w.heap.size]? = some (.cells #[.int .i64 Ta, .slice (some ⟨ba, offa, none⟩) na ca] 26 (0, 0)) := by rw [hW]; exact (Below.heap_alloc _ _ _ (by simp; omega)).trans ((Below.heap_alloc _ _ _ (by simp)).trans (heap_alloc_new _ _))
  have hbB : W.heap[w.heap.size + 1]? = some (.cells #[.int .i64 Tb, .slice b nb cb] 26 (0, 0)) := by rw [hW]; exact (Below.heap_alloc _ _ _ (by simp)).trans (new_at _ _ _ (by simp))
  have hbR : W.heap[w.heap.size + 1 + 1]? = some (.cells #[.int .i64 0, .slice none 0 0] 26 (0, 0)) := by rw [hW]; exact new_at _ _ _ (by simp)
  have BW : Below w.heap.size w W := by rw [hW]; exact (box_below.alloc (by simp) _).alloc (by simp; omega) _
  have HbA : Hid (W.heap[w.heap.size]? = some (.cells #[.int .i64 Ta, .slice (some ⟨ba, offa, none⟩) na ca] 26 (0, 0))) := hbA
  have HbB : Hid (W.heap[w.heap.size + 1]? = some (.cells #[.int .i64 Tb, .slice b nb cb] 26 (0, 0))) := hbB
  have HbR : Hid (W.heap[w.heap.size + 1 + 1]? = some (.cells #[.int .i64 0, .slice none 0 0] 26 (0, 0))) := hbR
  clear hW hbA hbB hbR
  refine (implProfileOk_any Ta _ na ca la _ (hA.below BW)).mono ?_
  rintro e w1 ⟨rfl, U1⟩
  rw [qa]
  obtain ⟨a0, a1, _, _⟩ := boxed ((U1.block _ (by omega)).trans HbA.out)
  obtain ⟨b0, b1, _, _⟩ := boxed ((U1.block _ (by omega)).trans HbB.out)
  have z1 := U1.size
  go_wp2_with fail
  refine (implProfileOk_any Tb b nb cb lb _ (hB.below (BW.trans (U1.mono (by omega))))).mono ?_
  rintro e w2 ⟨rfl, U2⟩
  rw [qb]
  have V2 : Below W.heap.size W w2 := U1.trans (U2.mono z1)
  clear a0 a1 b0 b1
  obtain ⟨a0, a1, _, _⟩ := boxed ((V2.block _ (by omega)).trans HbA.out)
  have z2 := V2.size
  clear U1 U2 z1
  have zA : w.heap.size < w2.heap.size := by omega
  go_wp2
  have own0 : Hid ((w2.alloc (.cells #[] 63)).ownsRow W.heap.size 63 2 (.slice (some ⟨w2.heap.size, 0, none⟩) 0 0) 0 []) := World.ownsRow_made (base := W.heap.size) (e := 63) (size := 2) w2 #[] 0 z2 (Nat.zero_le _) rfl
  have HPA : Hid (PO Ta la) := pa
  have HPB : Hid (PO Tb lb) := pb
  have HRL : Hid ((rawFrom la lb na 0).length ≤ 40000) := by have := rawFrom_len (la := la) pb na 0; unfold Hid; omega
  clear pa pb qa qb a0 a1
  have VX := V2.alloc z2 (.cells #[] 63)
  go_loopw [6, 24] (fun v i wr => ∃ (k : Nat) (acc : List Lev), k ≤ na ∧ i = .int .i64 k ∧ Hid (wr.ownsRow W.heap.size 63 2 v acc.length (cellsOf acc)) ∧ Hid (acc ++ rawFrom la lb (na - k) k = rawFrom la lb na 0) ∧ Below W.heap.size W wr ∧ W.heap.size < wr.heap.size) (fun _ i _ => na - (intOf i).toNat)
  case atStart => exact ⟨0, [], by omega, rfl, own0, rfl, VX, by simp; omega⟩
  case round =>
    obtain ⟨k, acc, hk, rfl, own1, HA1, hw, zw0⟩ := hrel
    clear own0 VX
    obtain ⟨ua, ucap, rfl⟩ := own_shape own1.out
    obtain ⟨G, hG1, hG2, hG3⟩ := own_block own1.out zw0
    have HG3 : Hid (∀ kk, (Value.slice ua acc.length ucap).ownBlock = some kk → kk = G) := hG3
    clear hG3
    have zw := hw.size
    have Vr : Below w.heap.size w wr := BW.trans (hw.mono (by omega))
    have hAb := (hw.block _ (by omega)).trans HbA.out
    have hBb := (hw.block _ (by omega)).trans HbB.out
    obtain ⟨a0, a1, _, _⟩ := boxed hAb
    obtain ⟨b0, b1, _, _⟩ := boxed hBb
    have zA2 : w.heap.size < wr.heap.size := by omega
    have zB2 : w.heap.size + 1 < wr.heap.size := by omega
    have HAb : Hid (wr.heap[w.heap.size]? = some (.cells #[.int .i64 Ta, .slice (some ⟨ba, offa, none⟩) na ca] 26 (0, 0))) := hAb
    have HBb : Hid (wr.heap[w.heap.size + 1]? = some (.cells #[.int .i64 Tb, .slice b nb cb] 26 (0, 0))) := hBb
    clear hAb hBb
    by_cases hlt : k < na
    · obtain ⟨x0, x1⟩ := cells_below (k := k) hata Vr hba (by omega)
      have hba2 : ba < wr.heap.size := by omega
      have hnx := nxt_bd HPA.out (i := k) (by omega)
      have hpos := HPA.out.pos (i := k) (by omega)
      have OKx : okB (fr la k) = true := by unfold okB; exact inB_mk ⟨by omega, by omega⟩
      have OKy : okB (nxt la k 1000000000) = true := by unfold okB; exact inB_mk ⟨by omega, by omega⟩
      go_wp2
      obtain ⟨w5, hw5⟩ : ∃ w5, w5 = wr.alloc (.cells #[.int .i64 (fr la k), .int .i64 (fe la k)] 63) := ⟨_, rfl⟩
      rw [← hw5]
      have B5 : Below wr.heap.size wr w5 := by rw [hw5]; exact box_below
      have hL5 : Hid (w5.heap[wr.heap.size]? = some (.cells #[.int .i64 (fr la k), .int .i64 (fe la k)] 63 (0, 0))) := by rw [hw5]; exact heap_alloc_new _ _
      have z5 : wr.heap.size < w5.heap.size := by rw [hw5]; simp
      have hA5 : Hid (w5.heap[w.heap.size]? = some (.cells #[.int .i64 Ta, .slice (some ⟨ba, offa, none⟩) na ca] 26 (0, 0))) := (B5.block _ (by omega)).trans HAb.out
      have hB5 : Hid (w5.heap[w.heap.size + 1]? = some (.cells #[.int .i64 Tb, .slice b nb cb] 26 (0, 0))) := (B5.block _ (by omega)).trans HBb.out
      have own5 : Hid (w5.ownsRow W.heap.size 63 2 (.slice ua acc.length ucap) acc.length (cellsOf acc)) := own_below own1.out B5
      have hw6 : Below W.heap.size W w5 := hw.then B5 zw
      have V5 : Below w.heap.size w w5 := BW.trans (hw6.mono (by omega))
      have LA := hA.below V5
      have LB := hB.below V5
      clear hw5 a0 a1 b0 b1 x0 x1 HAb HBb own1
      obtain ⟨a0, a1, _, _⟩ := boxed hA5.out
      obtain ⟨b0, b1, _, _⟩ := boxed hB5.out
      obtain ⟨c0, c1, _, _⟩ := boxed hL5.out
      go_region_held3 (fun w' => w'.cell? ⟨w.heap.size, 0, none⟩ = some (.int .i64 Ta) ∧ w'.cell? ⟨w.heap.size, 1, none⟩ = some (.slice (some ⟨ba, offa, none⟩) na ca) ∧ w'.cell? ⟨w.heap.size + 1, 0, none⟩ = some (.int .i64 Tb) ∧ w'.cell? ⟨w.heap.size + 1, 1, none⟩ = some (.slice b nb cb) ∧ w'.cell? ⟨wr.heap.size, 0, none⟩ = some (.int .i64 (fr la k))) (first | go_keep | exact KS) (first
        | (go_at_call 53; refine (endOf_any _ na ca k 1000000000 la _ ?_ (by omega) hlt).mono ?_; (first | exact LA | exact LA.drew); rintro e w' ⟨rfl, hq⟩; have hq' := hq.symm; clear hq; subst hq')
        | (go_at_call 42; refine (copied_any Tb (fr la k) (nxt la k 1000000000) b nb cb lb _ ?_ HPB.out OKx OKy).mono ?_; (first | exact LB | exact LB.drew); rintro e w6 ⟨B, m, rfl, hzB, hLB, hm1, hm2, hb⟩; have KB := (show Below w5.heap.size w5 w6 from (by first | exact hb | exact (Below.refl _ _).drew.trans hb)); have KS := And.intro (boxed ((KB.block _ (by omega)).trans hA5.out)).1 (And.intro (boxed ((KB.block _ (by omega)).trans hA5.out)).2.1 (And.intro (boxed ((KB.block _ (by omega)).trans hB5.out)).1 (And.intro (boxed ((KB.block _ (by omega)).trans hB5.out)).2.1 (boxed ((KB.block _ (by omega)).trans hL5.out)).1)))))
      obtain ⟨Z, hZ⟩ : ∃ Z, Z = wr.heap.size := ⟨_, rfl⟩
      rw [← hZ]
      have hA6 : Hid (w6.heap[w.heap.size]? = some (.cells #[.int .i64 Ta, .slice (some ⟨ba, offa, none⟩) na ca] 26 (0, 0))) := (KB.block _ (by omega)).trans hA5.out
      have hB6 : Hid (w6.heap[w.heap.size + 1]? = some (.cells #[.int .i64 Tb, .slice b nb cb] 26 (0, 0))) := (KB.block _ (by omega)).trans hB5.out
      have hL6 : Hid (w6.heap[Z]? = some (.cells #[.int .i64 (fr la k), .int .i64 (fe la k)] 63 (0, 0))) := by rw [hZ]; exact (KB.block _ (by omega)).trans hL5.out
      have own6 : Hid (w6.ownsRow W.heap.size 63 2 (.slice ua acc.length ucap) acc.length (cellsOf acc)) := own_below own5.out KB
      have z6 := KB.size
      have hw7 : Below W.heap.size W w6 := hw6.then KB hw6.size
      obtain ⟨c, hc⟩ : ∃ c, cpd lb (fr la k) (nxt la k 1000000000) = c := ⟨_, rfl⟩
      have HTK : Hid (∀ q, q < m → (rawC la lb k).take (q + 1) = (rawC la lb k).take q ++ [(fr c q, min (fe la k) (fe c q))]) := by intro q hq; have := rawC_take (la := la) (lb := lb) (k := k) (q := q) (by omega); rw [hc] at this; exact this
      have HLB : Hid (LevB w6 B m m c) := by rw [← hc]; exact hLB
      have HRC : Hid ((rawC la lb k).length = m) := by unfold Hid rawC; rw [List.length_map]; exact hm1
      have HAL : Hid (acc.length + m ≤ 50000) := by
        have h1 := HA1.out
        have h2 : (acc ++ rawFrom la lb (na - k) k).length = (rawFrom la lb na 0).length := by rw [h1]
        rw [List.length_append] at h2
        have := HRL.out
        unfold Hid; omega
      have zL := lt_of_block HLB.out.choose_spec.1
      have hzB2 : w5.heap.size ≤ B := hzB
      have HB1 : B ≠ G := by omega
      have HZ1 : Z ≠ G := by omega
      have HZ2 : Z < w6.heap.size := by omega
      clear hZ hc hLB a0 a1 b0 b1 c0 c1 KS hb KB hA5 hB5 hL5 own5 LA LB hnx hpos OKx OKy
      go_wp2
      go_loopw [6, 39] (fun v j wr => ∃ (q : Nat) (acc2 : List Lev), q ≤ m ∧ j = .int .i64 q ∧ Hid (wr.ownsRow W.heap.size 63 2 v acc2.length (cellsOf acc2)) ∧ Hid (acc2 = acc ++ (rawC la lb k).take q) ∧ But G w6 wr ∧ Hid (∀ kk, v.ownBlock = some kk → kk = G ∨ w6.heap.size ≤ kk)) (fun _ j _ => m - (intOf j).toNat)
      case atStart => exact ⟨0, acc, by omega, rfl, own6, by simp [Hid], But.refl _ _, fun kk hkk => Or.inl (HG3.out kk hkk)⟩
      case round =>
        obtain ⟨q, acc2, hq, rfl, own8, HA2, hbt, HK⟩ := hrel
        obtain ⟨va, vcap, rfl⟩ := own_shape own8.out
        have z8 := hbt.size
        have hal : acc2.length + m ≤ 50000 + q := by have := HAL.out; rw [HA2.out, List.length_append, List.length_take]; omega
        obtain ⟨l0, l1, _, _⟩ := boxed ((hbt.block Z HZ2 HZ1).trans hL6.out)
        have zZ : Z < wr.heap.size := by omega
        have zB : B < wr.heap.size := by omega
        by_cases hlq : q < m
        · obtain ⟨y0, y1⟩ := (HLB.out.but hbt HB1).cells hlq
          obtain ⟨t, ht⟩ : ∃ t, fr c q = t := ⟨_, rfl⟩
          obtain ⟨f2, hf2⟩ : ∃ f2, fe c q = f2 := ⟨_, rfl⟩
          rw [ht] at y0
          rw [hf2] at y1
          obtain ⟨e2, he2⟩ : ∃ e2, fe la k = e2 := ⟨_, rfl⟩
          rw [he2] at l1
          by_cases hmn : f2 < e2
          · have HT2 : Hid ((rawC la lb k).take (q + 1) = (rawC la lb k).take q ++ [(t, f2)]) := by have := HTK.out q hlq; rw [ht, hf2, he2, show min e2 f2 = f2 from by omega] at this; exact this
            clear ht hf2 he2
            go_wp2_with (at_builtin; refine wpList_append_own_at _ rfl (.tmp 43) (.tmp 52) 24 rfl W.heap.size 63 i1 (.agg #[.int .i64 0, .int .i64 0]) 2 16 Try.underlying24 hj hj0 hj1 hj2 rfl (by decide) _ _ _ rfl ((own8.out.alloc _).alloc _) ⟨wr.heap.size + 1, 0, none⟩ 1 1 [.int .i64 t, .int .i64 f2] rfl rfl ?g1 ?g2 ?g3 ?g4 ?g5 ?_)
            case g1 =>
              intro j u hj
              match j, hj with
              | 0, hj => simp at hj; subst hj; simp [Addr.add]
              | 1, hj => simp at hj; subst hj; simp [Addr.add]
            case g2 => intro u hu; simp at hu; rcases hu with rfl | rfl <;> rfl
            case g3 => unfold maxLen; omega
            case g4 => omega
            case g5 => simp; omega
            intro v' w4 hown' hgrow _ hat'
            rw [← cellsOf_more] at hown'
            have HO : Hid (w4.ownsRow W.heap.size 63 2 v' (acc2 ++ [(t, f2)]).length (cellsOf (acc2 ++ [(t, f2)]))) := by unfold Hid; rw [List.length_append]; exact hown'
            have But4 : But G w6 w4 := ((hbt.alloc _).alloc _).grownAt hgrow (fun kk hkk => HK.out kk hkk)
            have HK2 : Hid (∀ kk, v'.ownBlock = some kk → kk = G ∨ w6.heap.size ≤ kk) := by
              intro kk hkk
              rcases hat' with e | e
              · rw [e] at hkk; exact HK.out kk hkk
              · rw [e] at hkk; simp at hkk; omega
            clear hown' hgrow hat'
            go_wp2
            go_roundw
            case rel => exact ⟨q + 1, acc2 ++ [(t, f2)], by omega, by go_num, HO, (by unfold Hid; rw [HA2.out, HT2.out, List.append_assoc]), But4, HK2⟩
            case measure => simp [intOf]; omega
          · have HT2 : Hid ((rawC la lb k).take (q + 1) = (rawC la lb k).take q ++ [(t, e2)]) := by have := HTK.out q hlq; rw [ht, hf2, he2, show min e2 f2 = e2 from by omega] at this; exact this
            clear ht hf2 he2
            have own9 := (own8.out.alloc (.cells #[.int .i64 t, .int .i64 f2] 63)).alloc (.cells #[.int .i64 t, .int .i64 e2] 63)
            have hn9 : ∀ j u, ([.int .i64 t, .int .i64 e2] : List Value)[j]? = some u → ((wr.alloc (.cells #[.int .i64 t, .int .i64 f2] 63)).alloc (.cells #[.int .i64 t, .int .i64 e2] 63)).cell? ((⟨wr.heap.size + 1, 0, none⟩ : Addr).add j) = some u := by
              intro j u hj
              match j, hj with
              | 0, hj => simp at hj; subst hj; simp [Addr.add]
              | 1, hj => simp at hj; subst hj; simp [Addr.add]
            go_wp2_with (at_builtin; refine wpList_append_own_at _ rfl (.tmp 43) (.tmp 52) 24 rfl W.heap.size 63 i1 (.agg #[.int .i64 0, .int .i64 0]) 2 16 Try.underlying24 hj hj0 hj1 hj2 rfl (by decide) _ _ _ rfl own9 ⟨wr.heap.size + 1, 0, none⟩ 1 1 [.int .i64 t, .int .i64 e2] rfl rfl hn9 ?g2 ?g3 ?g4 ?g5 ?_)
            case g2 => first | exact ⟨rfl, rfl⟩ | (intro u hu; simp at hu; rcases hu with rfl | rfl <;> rfl)
            case g3 => unfold maxLen; omega
            case g4 => omega
            case g5 => first | omega | (simp; omega)
            intro v' w4 hown' hgrow _ hat'
            rw [← cellsOf_more] at hown'
            have HO : Hid (w4.ownsRow W.heap.size 63 2 v' (acc2 ++ [(t, e2)]).length (cellsOf (acc2 ++ [(t, e2)]))) := by unfold Hid; rw [List.length_append]; exact hown'
            have But4 : But G w6 w4 := ((hbt.alloc _).alloc _).grownAt hgrow (fun kk hkk => HK.out kk hkk)
            have HK2 : Hid (∀ kk, v'.ownBlock = some kk → kk = G ∨ w6.heap.size ≤ kk) := by
              intro kk hkk
              rcases hat' with e | e
              · rw [e] at hkk; exact HK.out kk hkk
              · rw [e] at hkk; simp at hkk; omega
            clear hown' hgrow hat'
            go_wp2
            go_roundw
            case rel => exact ⟨q + 1, acc2 ++ [(t, e2)], by omega, by go_num, HO, (by unfold Hid; rw [HA2.out, HT2.out, List.append_assoc]), But4, HK2⟩
            case measure => simp [intOf]; omega
        · have e : m = q := by omega
          subst e
          have HA3 : Hid (acc2 ++ rawFrom la lb (na - (k + 1)) (k + 1) = rawFrom la lb na 0) := by
            have h1 := HA1.out
            rw [show na - k = (na - (k + 1)) + 1 from by omega, rawFrom] at h1
            unfold Hid
            rw [HA2.out, List.take_of_length_le (by rw [HRC.out]; exact Nat.le_refl _), List.append_assoc]
            exact h1
          have BZ : Below W.heap.size W wr := hw7.trans (hbt.below hG1 (by omega))
          go_wp2
          go_roundw
          case rel => exact ⟨k + 1, acc2, by omega, by go_num, own8, HA3, BZ, by omega⟩
          case measure => simp [intOf]; omega
    · obtain rfl : k = na := by omega
      have HE : Hid (acc = rawFrom la lb k 0) := by have := HA1.out; rw [Nat.sub_self, rawFrom, List.append_nil] at this; exact this
      have HJL : Hid (joinL [] acc = lowL la lb) := by unfold Hid lowL; rw [HE.out, hlena]
      have hal : acc.length ≤ 40000 := by have := HRL.out; rw [← HE.out] at this; exact this
      have HLS : LevS wr ua acc.length ucap acc := own_LevS own1.out (by rw [HE.out, ← hlena]; exact rawFrom_wf HPA.out HPB.out)
      have hRb := (hw.block _ (by omega)).trans HbR.out
      have HRb : Hid (wr.heap[w.heap.size + 1 + 1]? = some (.cells #[.int .i64 0, .slice none 0 0] 26 (0, 0))) := hRb
      clear hRb
      have BS := HLS.below (w' := wr.alloc (.cells #[.slice ua acc.length ucap] 24)) box1_below
      by_cases hmt : Tb < Ta
      · have HM : Hid (min Ta Tb = Tb) := by unfold Hid; omega
        go_wp2_with fail
        refine (joined1_any Tb wr.heap.size 0 ua acc.length ucap acc _ (by simp) (by simp) BS (by omega)).mono ?_
        rintro e w9 ⟨U, h1, h2⟩
        have U9 : Below wr.heap.size wr w9 := box1_below.trans (U.mono (by simp))
        have hR9 := (U9.block _ (by omega)).trans HRb.out
        obtain ⟨r0, r1, rf0, rf1⟩ := boxed hR9
        have B9 := Vr.then U9 Vr.size
        clear a0 a1 b0 b1 HLS BS U U9
        by_cases hle : (joinL [] acc).length ≤ 200
        · obtain ⟨v, rfl, hown⟩ := h1 hle
          have HLE : Hid ((joinL [] acc).length ≤ 200) := hle
          have HOW : Hid (w9.ownsRow wr.heap.size 63 2 v (joinL [] acc).length (cellsOf (joinL [] acc))) := own_low hown (by simp)
          obtain ⟨va, vcap, rfl⟩ := own_shape hown
          clear h1 h2 hle hown
          go_wp2
          have hg := blk_set (blk_set hR9 (.int .i64 Tb) (j := 0)) (.slice va (joinL [] acc).length vcap) (j := 1)
          refine bodyPost_ret (results_box2 rfl _ _ (w.heap.size + 1 + 1) _ _ _ _ rfl hg Try.underlying26 rfl sized26 _ rfl) rfl ⟨(B9.setCell (by simp; omega) _).setCell (by simp; omega) _, fun _ => ?_, fun h => ?_⟩
          · rw [← HJL.out, HM.out]
            exact ⟨_, rfl, own_low (own_set (a := ⟨w.heap.size + 1 + 1, 1, none⟩) (own_set (a := ⟨w.heap.size + 1 + 1, 0, none⟩) HOW.out (show w.heap.size + 1 + 1 < wr.heap.size by omega) _) (show w.heap.size + 1 + 1 < wr.heap.size by omega) _) (by omega)⟩
          · rw [← HJL.out] at h; have := HLE.out; omega
        · obtain rfl := h2 (by omega)
          have HLE : Hid (¬ (joinL [] acc).length ≤ 200) := hle
          clear h1 h2 hle
          go_wp2
          have hg := blk_set (blk_set hR9 (.int .i64 0) (j := 0)) (.slice none 0 0) (j := 1)
          refine bodyPost_ret (results_box2 rfl _ _ (w.heap.size + 1 + 1) _ _ _ _ rfl hg Try.underlying26 rfl sized26 _ rfl) rfl ⟨(B9.setCell (by simp; omega) _).setCell (by simp; omega) _, fun h => ?_, fun _ => rfl⟩
          rw [← HJL.out] at h; exact absurd h HLE.out
      · have HM : Hid (min Ta Tb = Ta) := by unfold Hid; omega
        go_wp2_with fail
        refine (joined1_any Ta wr.heap.size 0 ua acc.length ucap acc _ (by simp) (by simp) BS (by omega)).mono ?_
        rintro e w9 ⟨U, h1, h2⟩
        have U9 : Below wr.heap.size wr w9 := box1_below.trans (U.mono (by simp))
        have hR9 := (U9.block _ (by omega)).trans HRb.out
        obtain ⟨r0, r1, rf0, rf1⟩ := boxed hR9
        have B9 := Vr.then U9 Vr.size
        clear a0 a1 b0 b1 HLS BS U U9
        by_cases hle : (joinL [] acc).length ≤ 200
        · obtain ⟨v, rfl, hown⟩ := h1 hle
          have HLE : Hid ((joinL [] acc).length ≤ 200) := hle
          have HOW : Hid (w9.ownsRow wr.heap.size 63 2 v (joinL [] acc).length (cellsOf (joinL [] acc))) := own_low hown (by simp)
          obtain ⟨va, vcap, rfl⟩ := own_shape hown
          clear h1 h2 hle hown
          go_wp2
          have hg := blk_set (blk_set hR9 (.int .i64 Ta) (j := 0)) (.slice va (joinL [] acc).length vcap) (j := 1)
          refine bodyPost_ret (results_box2 rfl _ _ (w.heap.size + 1 + 1) _ _ _ _ rfl hg Try.underlying26 rfl sized26 _ rfl) rfl ⟨(B9.setCell (by simp; omega) _).setCell (by simp; omega) _, fun _ => ?_, fun h => ?_⟩
          · rw [← HJL.out, HM.out]
            exact ⟨_, rfl, own_low (own_set (a := ⟨w.heap.size + 1 + 1, 1, none⟩) (own_set (a := ⟨w.heap.size + 1 + 1, 0, none⟩) HOW.out (show w.heap.size + 1 + 1 < wr.heap.size by omega) _) (show w.heap.size + 1 + 1 < wr.heap.size by omega) _) (by omega)⟩
          · rw [← HJL.out] at h; have := HLE.out; omega
        · obtain rfl := h2 (by omega)
          have HLE : Hid (¬ (joinL [] acc).length ≤ 200) := hle
          clear h1 h2 hle
          go_wp2
          have hg := blk_set (blk_set hR9 (.int .i64 0) (j := 0)) (.slice none 0 0) (j := 1)
          refine bodyPost_ret (results_box2 rfl _ _ (w.heap.size + 1 + 1) _ _ _ _ rfl hg Try.underlying26 rfl sized26 _ rfl) rfl ⟨(B9.setCell (by simp; omega) _).setCell (by simp; omega) _, fun h => ?_, fun _ => rfl⟩
          rw [← HJL.out] at h; exact absurd h HLE.out

end Go.Proofs.Ytdaedggmeoganaa
