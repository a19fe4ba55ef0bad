/- l1Bend: a text is bent here and there; some text comes, no more than two bytes longer. -/
import Derived.Test.YtppnnnijdfbgpaaDoorDraw
import Derived.Test.YtppnnnijdfbgpaaDoorMem
import Derived.Test.YtppnnnijdfbgpaaDoorStepApp
import Derived.Laws.IdiomStrings
import Derived.PlainAid
import Derived.Deep.Cut
import Derived.Deep.CutRange
import Derived.Deep.RegionLaw
namespace Go.Proofs.YtppnnnijdfbgpaaDoor
open Go.RowKit Go.PlainAid Go.Sort

theorem infoU8 : (Tryd.prog.info? 5).map (fun i => (i.zero, i.size, i.bytes)) = some (some (.int .u8 0), 1, 1) := by kernel_rfl

def u8V (c : UInt8) : Value := .int .u8 (c.toNat : Int)
/-- a slice of bytes of the call's own at block g -/
structure ByS (w : World) (base g m c : Nat) (zs : List UInt8) : Prop where
  len : zs.length = m
  le : m ≤ c
  mx : c ≤ maxLen
  base : base ≤ g
  blk : ∃ (cur : Array Value) (fr : Nat × Nat), w.heap[g]? = some (.cells cur 5 fr) ∧ m ≤ cur.size ∧ (fr = (0, 0) ∨ cur.size ≤ fr.1) ∧ ∀ i, i < m → cur[i]? = some (u8V (zs[i]?.getD 0))
theorem ByS.lt {w : World} {base g m c : Nat} {zs : List UInt8} (h : ByS w base g m c zs) : g < w.heap.size := by
  obtain ⟨cur, fr, h1, _⟩ := h.blk
  exact lt_of_block h1
theorem ByS.keep {w w' : World} {base g m c : Nat} {zs : List UInt8} (h : ByS w base g m c zs) (hb : w'.heap[g]? = w.heap[g]?) : ByS w' base g m c zs := by
  obtain ⟨cur, fr, h1, h2⟩ := h.blk
  exact ⟨h.len, h.le, h.mx, h.base, cur, fr, hb.trans h1, h2⟩
theorem ByS.cell {w : World} {base g m c : Nat} {zs : List UInt8} (h : ByS w base g m c zs) {i : Nat} (hi : i < m) : w.cell? ⟨g, i, none⟩ = some (u8V (zs[i]?.getD 0)) := by
  obtain ⟨cur, fr, h1, h2, h3, h4⟩ := h.blk
  simp [World.cell?, h1, h4 i hi]
theorem ByS.free {w : World} {base g m c : Nat} {zs : List UInt8} (h : ByS w base g m c zs) {i : Nat} (hi : i < m) : w.frozen? ⟨g, i, none⟩ = false := by
  obtain ⟨cur, fr, h1, h2, h3, h4⟩ := h.blk
  rcases h3 with rfl | h3
  · simp [World.frozen?, h1]
  · simp [World.frozen?, h1]; omega
theorem ByS.set {w : World} {base g m c : Nat} {zs : List UInt8} (h : ByS w base g m c zs) {k : Nat} (hk : k < m) (x : UInt8) : ByS (w.setCell ⟨g, k, none⟩ (u8V x)) base g m c (zs.set k x) := by
  obtain ⟨cur, fr, h1, h2, h3, h4⟩ := h.blk
  have hl := h.len
  refine ⟨by rw [List.length_set]; exact hl, h.le, h.mx, h.base, cur.setIfInBounds k (u8V x), fr, by simp [World.setCell, Array.getElem?_modify, h1], by simpa using h2, by simpa using h3, fun i hi => ?_⟩
  rw [Array.getElem?_setIfInBounds]
  by_cases e : k = i
  · subst e
    rw [if_pos rfl, if_pos (by omega), List.getElem?_set_self (by omega)]; rfl
  · rw [if_neg e, List.getElem?_set_ne e]; exact h4 i hi
theorem ByS.take {w : World} {base g m c : Nat} {zs : List UInt8} (h : ByS w base g m c zs) {k : Nat} (hk : k ≤ m) : ByS w base g k c (zs.take k) := by
  obtain ⟨cur, fr, h1, h2, h3, h4⟩ := h.blk
  have hl := h.len
  refine ⟨by rw [List.length_take]; omega, by have := h.le; omega, h.mx, h.base, cur, fr, h1, by omega, h3, fun i hi => ?_⟩
  rw [List.getElem?_take_of_lt hi]; exact h4 i (by omega)
theorem ByS.of_own {w : World} {base g m c : Nat} {zs : List UInt8} (h : w.ownsRow base 5 1 (.slice (some ⟨g, 0, none⟩) m c) m (zs.map u8V)) : ByS w base g m c zs := by
  have hl : zs.length = m := by have := h.1; simpa using this
  rcases h.2 with ⟨e, _⟩ | ⟨g', cap', cur, e, hb, hg, h1, h2, h3, h4⟩
  · cases e
  · injection e with e1 _ e3
    injection e1 with e1
    injection e1 with e1 _ _
    subst e1 e3
    refine ⟨hl, h1, h2, hb, cur, (0, 0), hg, by omega, Or.inl rfl, fun i hi => ?_⟩
    have : (cur.toList.take (m * 1))[i]? = (zs.map u8V)[i]? := by rw [h4]
    rw [List.getElem?_take, if_pos (by omega), List.getElem?_map, List.getElem?_eq_getElem (l := zs) (by omega)] at this
    rw [List.getElem?_eq_getElem (l := zs) (by omega)]
    simpa using this
/-- the cells of a part of it, as an append reads them -/
theorem ByS.src {w : World} {base g m c : Nat} {zs : List UInt8} (h : ByS w base g m c zs) (f k : Nat) : ∀ j y, (((zs.drop f).take k).map u8V)[j]? = some y → w.cell? ((⟨g, f, none⟩ : Addr).add j) = some y := by
  intro j y hy
  have hl := h.len
  rw [List.getElem?_map] at hy
  cases hz : ((zs.drop f).take k)[j]? with
  | none => rw [hz] at hy; cases hy
  | some z =>
    rw [hz] at hy
    obtain ⟨hj, rfl⟩ := List.getElem?_eq_some_iff.1 hz
    have hj2 : f + j < zs.length := by rw [List.length_take, List.length_drop] at hj; omega
    have hadd : (⟨g, f, none⟩ : Addr).add j = ⟨g, f + j, none⟩ := by unfold Addr.add; split <;> simp_all
    rw [hadd, h.cell (by omega), List.getElem?_eq_getElem hj2]
    have : y = u8V ((zs.drop f).take k)[j] := (Option.some.inj hy).symm
    rw [this, List.getElem_take, List.getElem_drop]
    rfl
theorem u8one (l : List UInt8) : ∀ v ∈ l.map u8V, v.oneCell' = true := by
  intro v hv
  obtain ⟨c, _, rfl⟩ := List.mem_map.1 hv
  rfl

/-- what an append of the call's own tells -/
theorem own_bytes {w : World} {base : Nat} {v : Value} {k : Nat} {xs : List Value} {ys : List UInt8} (h : w.ownsRow base 5 1 v k xs) (hk : k = ys.length) (hx : xs = ys.map u8V) (hv : v ≠ .slice none 0 0) : ∃ g cap, v = .slice (some ⟨g, 0, none⟩) ys.length cap ∧ ByS w base g ys.length cap ys ∧ w.ownsRow base 5 1 (.slice (some ⟨g, 0, none⟩) ys.length cap) ys.length (ys.map u8V) := by
  subst hk hx
  rcases h.2 with ⟨e, _⟩ | ⟨g, cap, cur, e, _⟩
  · exact absurd e hv
  · subst e
    exact ⟨g, cap, rfl, ByS.of_own h, h⟩

/-- a text's bytes as they are made into a slice -/
theorem byS_made (w : World) (bs : ByteArray) (l : List UInt8) (hb : bs = ⟨l.toArray⟩) (C : Nat) (hC : l.length ≤ C) (hm : C ≤ maxLen) :
    ByS (w.drew.alloc (.cells (bytesRow bs C) 5 ((bytesRow bs C).size, (bytesRow bs C).size + 1))) w.heap.size w.heap.size l.length C l := by
  subst hb
  refine ⟨rfl, hC, hm, Nat.le_refl _, _, _, heap_alloc_new w.drew _, by simp [bytesRow], Or.inr (Nat.le_refl _), fun i hi => ?_⟩
  unfold bytesRow
  rw [Array.getElem?_append_left (by simpa using hi)]
  simp [hi, u8V]

theorem bt_sg (l : List UInt8) (i : Nat) (hi : i < l.length) : bt ⟨l.toArray⟩ i = ((l[i]?.getD 0).toNat : Int) := by
  unfold bt
  have h : i < (⟨l.toArray⟩ : ByteArray).size := by simpa [ByteArray.size] using hi
  rw [dif_pos h, List.getElem?_eq_getElem hi]
  rfl

/-- where a bending stands within one statement -/
structure Bd (w w4 W : World) (cb g : Nat) (a : Option Addr) (n cap : Nat) (zs : List Int) : Prop where
  cur : CurAt W cb a n cap zs
  but : But cb w W
  eg : W.heap[g]? = w4.heap[g]?
  sz : w4.heap.size ≤ W.heap.size
theorem Bd.al {w w4 W : World} {cb g : Nat} {a : Option Addr} {n cap : Nat} {zs : List Int} (h : Bd w w4 W cb g a n cap zs) (o : Obj) (hg : g < w4.heap.size) : Bd w w4 (W.alloc o) cb g a n cap zs :=
  ⟨h.cur.but box_below0 h.cur.lt, h.but.alloc _, (Below.heap_alloc _ _ _ (by have := h.sz; omega)).trans h.eg, Nat.le_trans h.sz (by simp)⟩
theorem Bd.dr {w w4 W : World} {cb g : Nat} {a : Option Addr} {n cap : Nat} {zs : List Int} (h : Bd w w4 W cb g a n cap zs) : Bd w w4 W.drew cb g a n cap zs :=
  ⟨h.cur.but (Below.refl _ _).drew h.cur.lt, h.but.trans (But.of (Below.refl _ _).drew), h.eg, h.sz⟩
theorem Bd.ca {w w4 W W' : World} {cb g : Nat} {a : Option Addr} {n cap : Nat} {zs : List Int} (h : Bd w w4 W cb g a n cap zs) (b : But cb W W') (c : CurAt W' cb a n cap zs) (hg : g < w4.heap.size) (hgc : g ≠ cb) : Bd w w4 W' cb g a n cap zs :=
  ⟨c, h.but.trans b, (b.block _ (by have := h.sz; omega) hgc).trans h.eg, Nat.le_trans h.sz b.size⟩
theorem Bd.gr {w w4 W W' : World} {cb g r : Nat} {a : Option Addr} {n cap : Nat} {zs : List Int} (h : Bd w w4 W cb g a n cap zs) (gr : W.grownBy W' (some r)) (hr : w4.heap.size ≤ r) (hg : g < w4.heap.size) (hw : w.heap.size ≤ w4.heap.size) (hc : cb < w4.heap.size) : Bd w w4 W' cb g a n cap zs :=
  ⟨h.cur.keep (fun k hk => gr.block k (by have := h.sz; omega) (by simp; omega)) gr.size, h.but.grownB (B := w4.heap.size) gr hw (fun k e => by have e' : r = k := Option.some.inj e; omega), (gr.block g (by have := h.sz; omega) (by simp; omega)).trans h.eg, Nat.le_trans h.sz gr.size⟩
theorem ownE {W : World} {base r : Nat} (h : W.heap[r]? = some (.cells #[] 5 (0, 0))) (hb : base ≤ r) : W.ownsRow base 5 1 (.slice (some ⟨r, 0, none⟩) 0 0) 0 [] :=
  ⟨by simp, .inr ⟨r, 0, #[], rfl, hb, h, Nat.le_refl _, Nat.zero_le _, rfl, by simp⟩⟩
theorem own_keep {W W' : World} {base r k c : Nat} {xs : List Value} (h : W.ownsRow base 5 1 (.slice (some ⟨r, 0, none⟩) k c) k xs) (e : W'.heap[r]? = W.heap[r]?) : W'.ownsRow base 5 1 (.slice (some ⟨r, 0, none⟩) k c) k xs := by
  refine ⟨h.1, ?_⟩
  rcases h.2 with ⟨e2, _⟩ | ⟨g', cap', cur, e2, hb, hg, r2⟩
  · cases e2
  · refine .inr ⟨g', cap', cur, e2, hb, ?_, r2⟩
    injection e2 with e1 _ _
    injection e1 with e1
    injection e1 with e1 _ _
    subst e1
    exact e.trans hg
theorem one_cell {W : World} {r : Nat} {v : Value} {fr : Nat × Nat} {ty : TypeId} (h : W.heap[r]? = some (.cells #[v] ty fr)) : ∀ j u, [v][j]? = some u → W.cell? ((⟨r, 0, none⟩ : Addr).add j) = some u := by
  intro j u hj
  have hj0 : j = 0 := by
    rcases Nat.eq_zero_or_pos j with q | q
    · exact q
    · rw [List.getElem?_eq_none (by simp only [List.length_cons, List.length_nil]; omega)] at hj; cases hj
  subst hj0
  have : v = u := by simpa using hj
  subst this
  have hadd : (⟨r, 0, none⟩ : Addr).add 0 = ⟨r, 0, none⟩ := by unfold Addr.add; rfl
  rw [hadd]
  simp [World.cell?, h]

def txtSome (a : Option Addr) (n cap : Nat) (zs : List Int) (cb L : Nat) (w : World) (e : Ending) (w' : World) : Prop :=
  ∃ l' : List UInt8, e = .returned (.string ⟨l'.toArray⟩) ∧ l'.length ≤ L ∧ CurAt w' cb a n cap zs ∧ But cb w w'

set_option maxRecDepth 8000 in
set_option maxHeartbeats 4000000 in
theorem l1Bend_any (cb : Nat) (a : Option Addr) (n cap : Nat) (zs : List Int) (l sg : List UInt8) (hl : l.length ≤ 200) (hs0 : 0 < sg.length) (hs1 : sg.length ≤ 100) (w : World) (h : CurAt w cb a n cap zs) :
    Calls Tryd.prog 25 #[.pointer (some ⟨cb, 0, none⟩), .string ⟨l.toArray⟩, .string ⟨sg.toArray⟩] w fun e w' => txtSome a n cap zs cb (l.length + 2) w e w' := by
  obtain ⟨i1, hj, hj0, hj1, hj2⟩ := info_parts infoU8
  have hcb := h.lt
  have hlz : (⟨l.toArray⟩ : ByteArray).size = l.length := by simp [ByteArray.size]
  have hcv := run_bytes_of_string (P := Tryd.prog) w 9 22 5 ⟨l.toArray⟩ Tryd.underlying9 Tryd.underlying22 Tryd.underlying5
  have hC0 : l.length ≤ grownCap w (⟨l.toArray⟩ : ByteArray).size 0 5 := by rw [hlz]; exact grownCap_ge w _ _ _
  have hC1 : grownCap w (⟨l.toArray⟩ : ByteArray).size 0 5 ≤ maxLen := grownCap_le_maxLen w _ _ _ (by rw [hlz]; unfold maxLen; omega)
  have hB1 := byS_made w ⟨l.toArray⟩ l rfl _ hC0 hC1
  rw [hlz] at hcv hC0 hC1 hB1
  generalize grownCap w l.length 0 5 = C at hcv hC0 hC1 hB1
  obtain ⟨W1, hW1⟩ : ∃ W1, W1 = w.drew.alloc (.cells (bytesRow ⟨l.toArray⟩ C) 5 ((bytesRow ⟨l.toArray⟩ C).size, (bytesRow ⟨l.toArray⟩ C).size + 1)) := ⟨_, rfl⟩
  have V1 : Below w.heap.size w W1 := by rw [hW1]; exact (Below.refl _ _).drew.alloc (Nat.le_refl _) _
  rw [← hW1] at hcv hB1
  have c1 : CurAt W1 cb a n cap zs := h.but V1 hcb
  have b1 : But cb w W1 := But.of V1
  clear hW1 V1
  have hsz := hlz
  have hss : (⟨sg.toArray⟩ : ByteArray).size = sg.length := by simp [ByteArray.size]
  generalize (⟨l.toArray⟩ : ByteArray) = bs at hcv hsz ⊢
  have hbt : Hid (∀ i, i < sg.length → bt ⟨sg.toArray⟩ i = ((sg[i]?.getD 0).toNat : Int)) := bt_sg sg
  generalize (⟨sg.toArray⟩ : ByteArray) = sb at hss hbt ⊢
  have HB := get_bt sb
  go_enter Tryd.func25, Tryd.ntmps25
  go_upto_region 2 with fail
  clear hcv
  go_wp2_with fail
  refine (l1Below_any cb a n cap zs 3 _ c1 (by omega) (by omega)).mono ?_
  rintro e w2 ⟨r, rfl, r0, r1, c2, b2⟩
  have B2 := b1.trans b2
  have S2 := hB1.keep (b2.block _ hB1.lt (by omega))
  obtain ⟨j0, rfl⟩ := Int.eq_ofNat_of_zero_le r0
  clear hB1 c1 b1 b2
  go_wp2_with fail
  go_loopw [7, 8, 9] (fun bv nv _ wr => ∃ (j m c g : Nat) (ys : List UInt8), m + j ≤ l.length + 2 ∧ j ≤ 2 ∧ nv = .int .i64 j ∧ bv = .slice (some ⟨g, 0, none⟩) m c ∧ Hid (ByS wr w.heap.size g m c ys) ∧ Hid (CurAt wr cb a n cap zs) ∧ But cb w wr) (fun _ nv _ _ => (intOf nv).toNat)
  case atStart => exact ⟨j0, _, C, _, l, by omega, by omega, by go_num, rfl, S2, c2, B2⟩
  case round =>
    obtain ⟨j, m, c, g, ys, hmj, hjt, rfl, rfl, HS, HC, hB⟩ := hrel
    rename World => wr
    clear S2 c2 B2
    have hym := HS.out.len
    have hmc := HS.out.le
    have hgl := HS.out.lt
    have hgb := HS.out.base
    have hgc : g ≠ cb := by omega
    by_cases hgo : 0 < j ∧ 0 < m
    · obtain ⟨hj0', hm0⟩ := hgo
      have d1 : (0 : Int) < (j : Int) := by omega
      have d2 : (0 : Int) < (m : Int) := by omega
      go_wp2_with fail
      refine (l1Below_any cb a n cap zs m _ HC.out (by omega) (by omega)).mono ?_
      rintro e w3 ⟨k, rfl, k0, k1, c3, b3⟩
      obtain ⟨k, rfl⟩ := Int.eq_ofNat_of_zero_le k0
      have hkm : k < m := by omega
      have S3 := HS.out.keep (b3.block g hgl hgc)
      have B3 := hB.trans b3
      clear HS HC hB b3
      go_wp2_with fail
      refine (l1Below_any cb a n cap zs 4 _ c3 (by omega) (by omega)).mono ?_
      rintro e w4 ⟨q, rfl, q0, q1, c4, b4⟩
      have S4 := S3.keep (b4.block g S3.lt hgc)
      have B4 := B3.trans b4
      clear S3 c3 B3 b4
      have hq : q = 0 ∨ q = 1 ∨ q = 2 ∨ q = 3 := by omega
      clear q0 q1
      rcases hq with rfl | rfl | rfl | rfl
      · go_wp2_with fail
        refine (l1Below_any cb a n cap zs sg.length _ c4 (by omega) (by omega)).mono ?_
        rintro e w5 ⟨p, rfl, p0, p1, c5, b5⟩
        obtain ⟨p, rfl⟩ := Int.eq_ofNat_of_zero_le p0
        have S5 := S4.keep (b5.block g S4.lt hgc)
        have B5 := B4.trans b5
        have hp : p < sg.length := by omega
        have ep := hbt.out p hp
        generalize sg[p]?.getD 0 = z at ep
        have S6 : Hid (ByS (w5.setCell ⟨g, k, none⟩ (u8V z)) w.heap.size g m c (ys.set k z)) := S5.set hkm z
        have C6 : Hid (CurAt (w5.setCell ⟨g, k, none⟩ (u8V z)) cb a n cap zs) := c5.setNew (show cb < g by omega) _
        have B6 : But cb w (w5.setCell ⟨g, k, none⟩ (u8V z)) := B5.setNew hgb _
        have cc := S5.cell hkm
        have cf := S5.free hkm
        unfold u8V at S6 C6 B6
        clear S4 c4 B4 b5 S5 B5
        go_wp2_with fail
        exact ⟨⟨j - 1, m, c, g, _, by omega, by omega, by go_num, rfl, S6, C6, B6⟩, by simp [intOf]; omega⟩
      · have S6 : Hid (ByS w4 w.heap.size g k c (ys.take k)) := S4.take (by omega)
        have C6 : Hid (CurAt w4 cb a n cap zs) := c4
        have hkc : (k : Int) ≤ (c : Int) := by omega
        go_wp2_with fail
        exact ⟨⟨j - 1, k, c, g, _, by omega, by omega, by go_num, rfl, S6, C6, B4⟩, by simp [intOf]; omega⟩
      · have OE := World.ownsRow_made (base := w.heap.size) (e := 5) (size := 1) w4 #[] 0 B4.size (Nat.zero_le _) rfl
        have HSRC : Hid (∀ W : World, W.heap[g]? = w4.heap[g]? → ∀ f k', ∀ i y, (((ys.drop f).take k').map u8V)[i]? = some y → W.cell? ((⟨g, f, none⟩ : Addr).add i) = some y) := fun W e f k' => (S4.keep e).src f k'
        have hg4 := S4.lt
        have hkc : (k : Int) ≤ (c : Int) := by omega
        have hlk : (((ys.drop 0).take k).map u8V).length = k * 1 := by simp; omega
        have hlk2 : (((ys.drop (k + 1)).take (m - (k + 1))).map u8V).length = (m - (k + 1)) * 1 := by simp; omega
        have hkm1 : (k : Int) + 1 ≤ (m : Int) := by omega
        have hcm : (m : Int) ≤ (c : Int) := by omega
        have hk0 : (0 : Int) ≤ (k : Int) + 1 := by omega
        have wk : IntKind.i64.wrap ((k : Int) + 1) = (k : Int) + 1 := by rw [IntKind.wrap_i64]; omega
        have hz4 := B4.size
        have hSR1 : ∀ W : World, W.heap[g]? = w4.heap[g]? → ∀ i y, (((ys.drop 0).take k).map u8V)[i]? = some y → W.cell? ((⟨g, 0, none⟩ : Addr).add i) = some y := fun W e => HSRC.out W e 0 k
        have hl5 : ((ys.drop 0).take k).length = k := by simp; omega
        have hl7 : ((ys.drop (k + 1)).take (m - (k + 1))).length = m - (k + 1) := by simp; omega
        have hb4 : Below w4.heap.size w4 (w4.alloc (.cells #[] 5)) := box_below0
        have HB4 : Hid (But cb w w4) := B4
        have HC4 : Hid (CurAt w4 cb a n cap zs) := c4
        obtain ⟨ad, HA, HC⟩ : ∃ ad : Addr, (if c = k + 1 then some (⟨g, 0, none⟩ : Addr) else some ⟨g, k + 1, none⟩) = some ad ∧ Hid (∀ W : World, W.heap[g]? = w4.heap[g]? → ∀ i y, (((ys.drop (k + 1)).take (m - (k + 1))).map u8V)[i]? = some y → W.cell? (ad.add i) = some y) := by
          by_cases hck : c = k + 1
          · refine ⟨⟨g, 0, none⟩, if_pos hck, fun W e i y hy => ?_⟩
            rw [List.drop_eq_nil_of_le (by omega)] at hy
            simp at hy
          · exact ⟨⟨g, k + 1, none⟩, if_neg hck, fun W e => HSRC.out W e (k + 1) _⟩
        generalize (ys.drop 0).take k = t0 at hSR1 hl5 hlk
        generalize (ys.drop (k + 1)).take (m - (k + 1)) = t1 at HC hl7 hlk2
        have HL5 : Hid (t0.length = k) := hl5
        have HL7 : Hid (t1.length = m - (k + 1)) := hl7
        have HSR1 : Hid (∀ W : World, W.heap[g]? = w4.heap[g]? → ∀ i y, (t0.map u8V)[i]? = some y → W.cell? ((⟨g, 0, none⟩ : Addr).add i) = some y) := hSR1
        clear B4 c4 S4 HSRC hSR1 hl5 hl7
        go_upto_region 12 with fail
        go_region_law (first
          | (refine step_append_own rfl (.tmp 47) (.tmp 50) 22 rfl w.heap.size 5 i1 (.int .u8 0) 1 1 Tryd.underlying22 hj hj0 hj1 hj2 rfl (by decide) (.slice (some ⟨w4.heap.size, 0, none⟩) 0 0) 0 [] rfl (by exact OE) ⟨g, 0, none⟩ k c (t0.map u8V) rfl hlk (HSR1.out _ (Below.heap_alloc _ _ _ hg4)) (u8one _) (by unfold maxLen; omega) (by omega) (by simp; omega) ?_
             intro v5 w5 own5 grow5 nil5 at5
             obtain ⟨g5, cp5, rfl, Y5, O5⟩ := own_bytes (ys := t0) own5 (by rw [HL5.out]; exact Nat.zero_add _) (by rfl) (fun e => by first | exact nil5 e | exact nomatch (nil5.1 e).1)
             have E5 : ∀ r, r < w4.heap.size → w5.heap[r]? = w4.heap[r]? := fun r hr => (grow5.block r (by simp; omega) (by simp [Value.ownBlock]; omega)).trans (Below.heap_alloc _ _ _ hr)
             have z5 : w4.heap.size ≤ w5.heap.size := Nat.le_trans (by simp) grow5.size
             have h5 : w4.heap.size ≤ g5 := by first | (rcases at5 with e | e <;> simp [Value.ownBlock] at e <;> omega) | omega)
          | (refine step_append_own rfl (.tmp 51) (.tmp 55) 22 rfl w.heap.size 5 i1 (.int .u8 0) 1 1 Tryd.underlying22 hj hj0 hj1 hj2 rfl (by decide) (.slice (some ⟨g5, 0, none⟩) t0.length cp5) t0.length (t0.map u8V) (by rfl) O5 ad (m - (k + 1)) (c - (k + 1)) (t1.map u8V) (by rfl) hlk2 (HC.out _ (E5 g hg4)) (u8one _) (by have := HL5.out; unfold maxLen; omega) (by have := HL5.out; omega) (by omega) ?_
             intro v6 w6 own6 grow6 nil6 at6))
        all_goals
          obtain ⟨g6, cp6, rfl, Y6, _⟩ := own_bytes (ys := t0 ++ t1) own6 (by rw [List.length_append, HL7.out]) (by rw [List.map_append]) (fun e => nomatch (nil6.1 e).1)
          have G5 : Below w4.heap.size w4 w5 := ((box_below0 (w := w4)).drew).grown grow5 (by simp) (fun r e => by simp [Value.ownBlock] at e; omega)
          have G6 : Below w4.heap.size w4 w6 := G5.grown grow6 z5 (fun r e => by simp [Value.ownBlock] at e; omega)
          have B6 : But cb w w6 := HB4.out.trans (But.of G6)
          have C6 : Hid (CurAt w6 cb a n cap zs) := HC4.out.but G6 HC4.out.lt
          have HY6 : Hid (ByS w6 w.heap.size g6 (t0 ++ t1).length cp6 (t0 ++ t1)) := Y6
          have hl9 : (t0 ++ t1).length = m - 1 := by rw [List.length_append, HL5.out, HL7.out]; omega
          have HL9 : Hid ((t0 ++ t1).length = m - 1) := hl9
          clear own5 own6 nil5 nil6 at5 at6 O5 Y5 Y6 hl9 G5 G6 grow5 grow6
          go_wp2
          exact ⟨⟨j - 1, (t0 ++ t1).length, cp6, g6, t0 ++ t1, by have := HL9.out; omega, by omega, by go_num, by rw [List.length_append], HY6, C6, B6⟩, by simp [intOf]; omega⟩
      · have hg4 := S4.lt
        have hkc : (k : Int) ≤ (c : Int) := by omega
        have hkm1 : (k : Int) ≤ (m : Int) := by omega
        have hcm : (m : Int) ≤ (c : Int) := by omega
        have hk0 : (0 : Int) ≤ (k : Int) := by omega
        have hz4 := B4.size
        have hcb4 := c4.lt
        have HSR0 : Hid (∀ W : World, W.heap[g]? = w4.heap[g]? → ∀ i y, (((ys.drop 0).take k).map u8V)[i]? = some y → W.cell? ((⟨g, 0, none⟩ : Addr).add i) = some y) := fun W e => (S4.keep e).src 0 k
        have HSR1 : Hid (∀ W : World, W.heap[g]? = w4.heap[g]? → ∀ i y, (((ys.drop k).take (m - k)).map u8V)[i]? = some y → W.cell? ((⟨g, k, none⟩ : Addr).add i) = some y) := fun W e => (S4.keep e).src k _
        have hlk : (((ys.drop 0).take k).map u8V).length = k * 1 := by simp; omega
        have hlk2 : (((ys.drop k).take (m - k)).map u8V).length = (m - k) * 1 := by simp; omega
        have HL5 : Hid (((ys.drop 0).take k).length = k) := by unfold Hid; simp; omega
        have HL7 : Hid (((ys.drop k).take (m - k)).length = m - k) := by unfold Hid; simp; omega
        have hck : ¬ c = k := by omega
        generalize (ys.drop 0).take k = t0 at HSR0 HL5 hlk
        generalize (ys.drop k).take (m - k) = t1 at HSR1 HL7 hlk2
        have BD : Bd w w4 w4 cb g a n cap zs := ⟨c4, B4, rfl, Nat.le_refl _⟩
        clear B4 c4 S4
        go_upto_region 14 with fail
        have OE := World.ownsRow_made (base := w.heap.size) (e := 5) (size := 1) w4 #[] 0 hz4 (Nat.zero_le _) rfl
        have EG0 : (w4.alloc (.cells #[] 5)).heap[g]? = w4.heap[g]? := Below.heap_alloc _ _ _ hg4
        have BDA : Bd w w4 (w4.alloc (.cells #[] 5)).drew cb g a n cap zs := (BD.al _ hg4).dr
        have HBA : Hid (Bd w w4 (w4.alloc (.cells #[] 5)).drew cb g a n cap zs) := BDA
        clear BD BDA
        go_region_law (first
          | (refine step_append_own rfl (.tmp 59) (.tmp 62) 22 rfl w.heap.size 5 i1 (.int .u8 0) 1 1 Tryd.underlying22 hj hj0 hj1 hj2 rfl (by decide) (.slice (some ⟨w4.heap.size, 0, none⟩) 0 0) 0 [] rfl (by exact OE) ⟨g, 0, none⟩ k c (t0.map u8V) rfl hlk (HSR0.out _ EG0) (u8one _) (by unfold maxLen; omega) (by omega) (by simp; omega) ?_
             intro vp wp ownp growp nilp atp
             have BDP := Bd.gr HBA.out growp (Nat.le_refl _) hg4 hz4 hcb4
             obtain ⟨gP, cP, rfl, YP, OP⟩ := own_bytes (ys := t0) ownp (by rw [HL5.out]; exact Nat.zero_add _) (by rfl) (fun e => by first | exact nilp e | exact nomatch (nilp.1 e).1)
             have hgP : w4.heap.size ≤ gP := by first | (rcases atp with e | e <;> simp [Value.ownBlock] at e <;> omega) | omega
             have hlP := YP.lt
             have zp := BDP.sz)
          | (go_simp; go_at_call 37; refine (l1Below_any cb a n cap zs sg.length _ BDP.cur (by omega) (by omega)).mono ?_
             rintro e w5 ⟨p, rfl, p0, p1, c5, b5⟩
             obtain ⟨p, rfl⟩ := Int.eq_ofNat_of_zero_le p0
             have hp : p < sg.length := by omega
             have ep := hbt.out p hp
             generalize sg[p]?.getD 0 = z at ep
             have BD5 := Bd.ca BDP b5 c5 hg4 hgc
             have z5 := BD5.sz
             have hgP5 : gP < w5.heap.size := Nat.lt_of_lt_of_le hlP b5.size
             have OP5 := own_keep OP (b5.block gP hlP (by omega))
             have BDN := BD5.al (.cells #[.int .u8 (z.toNat : Int)] 5) hg4
             have OPN := own_keep OP5 (Below.heap_alloc w5 (.cells #[.int .u8 (z.toNat : Int)] 5) gP hgP5))
          | (refine step_append_own rfl (.tmp 63) (.tmp 70) 22 rfl w.heap.size 5 i1 (.int .u8 0) 1 1 Tryd.underlying22 hj hj0 hj1 hj2 rfl (by decide) (.slice (some ⟨gP, 0, none⟩) t0.length cP) t0.length (t0.map u8V) (by rfl) OPN ⟨w5.heap.size, 0, none⟩ 1 1 [.int .u8 (z.toNat : Int)] (by rfl) (by rfl) (one_cell (heap_alloc_new w5 _)) (u8one [z]) (by have := HL5.out; unfold maxLen; omega) (by have := HL5.out; omega) (by have := BDN.sz; omega) ?_
             intro vq wq ownq growq nilq atq
             have BDQ := Bd.gr BDN growq hgP hg4 hz4 hcb4
             obtain ⟨gQ, cQ, rfl, YQ, OQ⟩ := own_bytes (ys := t0 ++ [z]) ownq (by simp) (by rw [List.map_append]; rfl) (fun e => nomatch (nilq.1 e).1)
             have hgQ : w4.heap.size ≤ gQ := by have := BDN.sz; first | (rcases atq with e | e <;> simp [Value.ownBlock] at e <;> omega) | omega
             have zq := BDQ.sz
             have HLQ : Hid ((t0 ++ [z]).length = k + 1) := by unfold Hid; rw [List.length_append, HL5.out]; rfl
             generalize t0 ++ [z] = tq at OQ YQ HLQ)
          | (refine step_append_own rfl (.tmp 71) (.tmp 74) 22 rfl w.heap.size 5 i1 (.int .u8 0) 1 1 Tryd.underlying22 hj hj0 hj1 hj2 rfl (by decide) (.slice (some ⟨gQ, 0, none⟩) tq.length cQ) tq.length (tq.map u8V) (by rfl) OQ ⟨g, k, none⟩ (m - k) (c - k) (t1.map u8V) (by rfl) hlk2 (HSR1.out _ BDQ.eg) (u8one _) (by have := HLQ.out; unfold maxLen; omega) (by have := HLQ.out; omega) (by omega) ?_
             intro vr wr2 ownr growr nilr atr
             have BDR := Bd.gr BDQ growr hgQ hg4 hz4 hcb4))
        all_goals
          obtain ⟨g6, cp6, rfl, Y6, _⟩ := own_bytes (ys := tq ++ t1) ownr (by rw [List.length_append, HL7.out]) (by rw [List.map_append]) (fun e => nomatch (nilr.1 e).1)
          have HL9 : Hid ((tq ++ t1).length = m + 1) := by unfold Hid; rw [List.length_append, HLQ.out, HL7.out]; omega
          have HY6 : Hid (ByS wr2 w.heap.size g6 (tq ++ t1).length cp6 (tq ++ t1)) := Y6
          have C6 : Hid (CurAt wr2 cb a n cap zs) := BDR.cur
          have B6 : But cb w wr2 := BDR.but
          have el : tq.length + t1.length = (tq ++ t1).length := by rw [List.length_append]
          generalize tq ++ t1 = ys6 at HL9 HY6 el
          have Hel : Hid (tq.length + t1.length = ys6.length) := el
          clear el
          go_wp2
          exact ⟨⟨j - 1, ys6.length, cp6, g6, ys6, by have := HL9.out; omega, by omega, by go_num, by first | rfl | rw [Hel.out], HY6, C6, B6⟩, by simp [intOf]; omega⟩
    · have hcv2 : (convert 22 9 (.slice (some ⟨g, 0, none⟩) m c)).run Tryd.prog wr = .ok (.string ⟨ys.toArray⟩) wr := by
        subst hym
        refine run_convert_bytes_back wr 22 9 5 ⟨g, 0, none⟩ c ys Tryd.underlying22 Tryd.underlying5 Tryd.underlying9 fun i hi => ?_
        have hadd : (⟨g, 0, none⟩ : Addr).add i = ⟨g, i, none⟩ := by unfold Addr.add; split <;> simp_all
        rw [hadd, HS.out.cell hi, List.getElem?_eq_getElem hi]; rfl
      by_cases hj0' : 0 < j
      · obtain rfl : m = 0 := by omega
        have d1 : (0 : Int) < (j : Int) := by omega
        go_wp2_with fail
        go_ret
        exact ⟨ys, rfl, by omega, HC.out, hB⟩
      · obtain rfl : j = 0 := by omega
        go_wp2_with fail
        go_ret
        exact ⟨ys, rfl, by omega, HC.out, hB⟩

end Go.Proofs.YtppnnnijdfbgpaaDoor
