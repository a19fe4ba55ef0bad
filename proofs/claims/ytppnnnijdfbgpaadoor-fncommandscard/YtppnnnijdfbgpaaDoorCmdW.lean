/- The model's l1Words: a text cut at its blanks. -/
import Derived.Test.YtppnnnijdfbgpaaDoorCmdD
import Derived.Maps.AppendAt
import Derived.Lib.SmallJoins
import Derived.Sort.Grow
namespace Go.Proofs.YtppnnnijdfbgpaaDoor
open Go.RowKit Go.PlainAid Go.Sort

theorem infoStr : (Tryd.prog.info? 9).map (fun i => (i.zero, i.size, i.bytes)) = some (some (.string ⟨#[]⟩), 1, 16) := by kernel_rfl

def strV (l : List UInt8) : Value := .string ⟨l.toArray⟩
/-- a row of texts of the call's own -/
structure OwnStr (w : World) (base g cap : Nat) (ws : List (List UInt8)) : Prop where
  own : w.ownsRow base 9 1 (.slice (some ⟨g, 0, none⟩) ws.length cap) ws.length (ws.map strV)
  base : base ≤ g
  lt : g < w.heap.size
theorem ownStr_of {w : World} {base : Nat} {v : Value} {m : Nat} {xs : List Value} {ws : List (List UInt8)} (h : w.ownsRow base 9 1 v m xs) (hm : m = ws.length) (hx : xs = ws.map strV) (hv : v ≠ .slice none 0 0) :
    ∃ g cap, v = .slice (some ⟨g, 0, none⟩) m cap ∧ OwnStr w base g cap ws := by
  subst hm hx
  rcases h.2 with ⟨e, _⟩ | ⟨g, cap, cur, e, hb, hg, h1⟩
  · exact absurd e hv
  · subst e
    exact ⟨g, cap, rfl, ⟨h, hb, lt_of_block hg⟩⟩
theorem OwnStr.below {w w' : World} {base g cap : Nat} {ws : List (List UInt8)} (h : OwnStr w base g cap ws) (hb : Below w.heap.size w w') : OwnStr w' base g cap ws := by
  refine ⟨⟨h.own.1, ?_⟩, h.base, Nat.lt_of_lt_of_le h.lt hb.size⟩
  rcases h.own.2 with ⟨e, _⟩ | ⟨g', cap', cur, e, hg, hgg, r⟩
  · cases e
  · refine .inr ⟨g', cap', cur, e, hg, ?_, r⟩
    rw [hb.block g' (lt_of_block hgg)]; exact hgg
theorem OwnStr.cell {w : World} {base g cap : Nat} {ws : List (List UInt8)} (h : OwnStr w base g cap ws) {i : Nat} (hi : i < ws.length) : w.cell? ⟨g, i, none⟩ = some (strV (ws[i]?.getD [])) := by
  rcases h.own.2 with ⟨e, _⟩ | ⟨g', cap', cur, e, hb, hg, h1, h2, h3, h4⟩
  · cases e
  · injection e with e1 _ e3
    injection e1 with e1
    injection e1 with e1 _ _
    subst e1
    have : (cur.toList.take (ws.length * 1))[i]? = (ws.map strV)[i]? := by rw [h4]
    rw [List.getElem?_take, if_pos (by omega)] at this
    rw [List.getElem?_map, List.getElem?_eq_getElem hi] at this
    have hc : cur[i]? = some (strV ws[i]) := by simpa using this
    rw [List.getElem?_eq_getElem hi]
    simp [World.cell?, hg, hc]
theorem ownStr_nil (w : World) : OwnStr (w.alloc (.cells #[] 9)) w.heap.size w.heap.size 0 [] := ⟨World.ownsRow_made w #[] 0 (Nat.le_refl _) (Nat.zero_le _) rfl, Nat.le_refl _, by simp⟩

theorem cut_text (l : List UInt8) (f i : Nat) : (⟨l.toArray⟩ : ByteArray).extract f i = ⟨((l.drop f).take (i - f)).toArray⟩ := by
  apply ByteArray.ext
  simp [ByteArray.data_extract]

/-- where the cutting stands: i bytes were looked at, the present word begins at f -/
def WdAt (l : List UInt8) (i f : Nat) (ws : List (List UInt8)) : Prop :=
  f ≤ i ∧ ((i ≤ l.length ∧ wordsB l = ws ++ wordsB (l.drop f) ∧ ∀ j, f ≤ j → j < i → btL l j ≠ 32) ∨ (i = l.length + 1 ∧ wordsB l = ws))
theorem btL_get {l : List UInt8} {i : Nat} (h : i < l.length) : btL l i = (l[i].toNat : Int) := by unfold btL; rw [List.getElem?_eq_getElem h]; rfl
theorem btL_32 {l : List UInt8} {i : Nat} (h : i < l.length) : btL l i = 32 ↔ l[i] = 32 := by
  rw [btL_get h]
  constructor
  · intro e
    exact UInt8.toNat_inj.1 (show l[i].toNat = (32 : UInt8).toNat by have : (32 : UInt8).toNat = 32 := rfl; omega)
  · intro e; rw [e]; rfl
theorem noblank {l : List UInt8} {f i : Nat} (hi : i ≤ l.length) (h : ∀ j, f ≤ j → j < i → btL l j ≠ 32) : ∀ c ∈ (l.drop f).take (i - f), c ≠ 32 := by
  intro c hc e
  obtain ⟨j, hj, rfl⟩ := List.getElem_of_mem hc
  have hj2 : j < i - f := by rw [List.length_take] at hj; omega
  have hj3 : f + j < l.length := by omega
  rw [List.getElem_take, List.getElem_drop] at e
  exact h (f + j) (by omega) (by omega) ((btL_32 hj3).2 e)
theorem WdAt.start (l : List UInt8) : WdAt l 0 0 [] := ⟨Nat.le_refl _, Or.inl ⟨Nat.zero_le _, rfl, fun j _ h => by omega⟩⟩
theorem WdAt.on {l : List UInt8} {i f : Nat} {ws : List (List UInt8)} (h : WdAt l i f ws) (hi : i < l.length) (hb : btL l i ≠ 32) : WdAt l (i + 1) f ws := by
  obtain ⟨h0, h | h⟩ := h
  · refine ⟨by omega, Or.inl ⟨by omega, h.2.1, fun j h1 h2 => ?_⟩⟩
    by_cases e : j = i
    · subst e; exact hb
    · exact h.2.2 j h1 (by omega)
  · omega
theorem WdAt.cut {l : List UInt8} {i f : Nat} {ws : List (List UInt8)} (h : WdAt l i f ws) (hi : i < l.length) (hb : btL l i = 32) : WdAt l (i + 1) (i + 1) (ws ++ [(l.drop f).take (i - f)]) := by
  obtain ⟨h0, h | h⟩ := h
  · refine ⟨Nat.le_refl _, Or.inl ⟨by omega, ?_, fun j h1 h2 => by omega⟩⟩
    rw [h.2.1]
    have e : l.drop f = (l.drop f).take (i - f) ++ 32 :: l.drop (i + 1) := by
      have e1 := (List.take_append_drop (i - f) (l.drop f)).symm
      have e2 : (l.drop f).drop (i - f) = 32 :: l.drop (i + 1) := by
        rw [List.drop_drop, show f + (i - f) = i by omega, List.drop_eq_getElem_cons hi, (btL_32 hi).1 hb]
      rw [e2] at e1
      exact e1
    have e3 := wordsB_app _ (l.drop (i + 1)) (noblank (by omega) h.2.2)
    rw [← e] at e3
    rw [e3]
    simp
  · omega
theorem WdAt.last {l : List UInt8} {f : Nat} {ws : List (List UInt8)} (h : WdAt l l.length f ws) : WdAt l (l.length + 1) (l.length + 1) (ws ++ [(l.drop f).take (l.length - f)]) := by
  obtain ⟨h0, h | h⟩ := h
  · refine ⟨Nat.le_refl _, Or.inr ⟨rfl, ?_⟩⟩
    have e : (l.drop f).take (l.length - f) = l.drop f := List.take_of_length_le (by rw [List.length_drop]; exact Nat.le_refl _)
    have n := noblank (Nat.le_refl _) h.2.2
    rw [e] at n ⊢
    rw [h.2.1, wordsB_one _ n]
  · omega
theorem WdAt.len {l : List UInt8} {i f : Nat} {ws : List (List UInt8)} (h : WdAt l i f ws) (hi : i ≤ l.length) : wordsB l = ws ++ wordsB (l.drop f) := by
  obtain ⟨_, h | h⟩ := h
  · exact h.2.1
  · omega
theorem wordsB_len : ∀ l : List UInt8, (wordsB l).length ≤ l.length + 1
  | [] => Nat.le_refl _
  | c :: t => by
    have ih := wordsB_len t
    show (if c = 32 then [] :: wordsB t else match wordsB t with | [] => [[c]] | w :: ws => (c :: w) :: ws).length ≤ t.length + 1 + 1
    split
    · simpa using ih
    · cases h : wordsB t with
      | nil => simp
      | cons w ws => rw [h] at ih; simp at ih ⊢; omega
theorem wordsB_mem : ∀ (l : List UInt8), ∀ x ∈ wordsB l, x.length ≤ l.length
  | [], x, h => by
    have : x = [] := by simpa [wordsB] using h
    rw [this]; exact Nat.le_refl _
  | c :: t, x, h => by
    have ih := wordsB_mem t
    have h' : x ∈ (if c = 32 then [] :: wordsB t else match wordsB t with | [] => [[c]] | w :: ws => (c :: w) :: ws) := h
    show x.length ≤ t.length + 1
    split at h'
    · rcases List.mem_cons.1 h' with rfl | h2
      · exact Nat.zero_le _
      · have := ih x h2; omega
    · cases hw : wordsB t with
      | nil => rw [hw] at h'; have : x = [c] := by simpa using h'
               rw [this]; simp
      | cons w ws =>
        rw [hw] at h' ih
        rcases List.mem_cons.1 h' with rfl | h2
        · have := ih w List.mem_cons_self; simpa using this
        · have := ih x (List.mem_cons_of_mem _ h2); omega

set_option maxRecDepth 8000 in
set_option maxHeartbeats 2000000 in
theorem l1Words_any (l : List UInt8) (hl : l.length ≤ 2000000) (w : World) :
    Calls Tryd.prog 29 #[.string ⟨l.toArray⟩] w fun e w' => ∃ g c, e = .returned (.slice (some ⟨g, 0, none⟩) (wordsB l).length c) ∧ OwnStr w' w.heap.size g c (wordsB l) ∧ Below w.heap.size w w' := by
  obtain ⟨i1, hj, hj0, hj1, hj2⟩ := info_parts infoStr
  have hbt := bt_list l
  have hsz := size_list l
  have hct := cut_text l
  have hwl := wordsB_len l
  generalize (⟨l.toArray⟩ : ByteArray) = bs at hbt hsz hct ⊢
  have HB := get_bt bs
  have HT : Hid (∀ i, i < l.length → bt bs i = btL l i) := hbt
  have HC : Hid (∀ f i, bs.extract f i = ⟨((l.drop f).take (i - f)).toArray⟩) := hct
  clear hbt hct
  obtain ⟨W0, hW0⟩ : ∃ W0, W0 = w.alloc (.cells #[] 9) := ⟨_, rfl⟩
  have B0 : Below w.heap.size w W0 := by rw [hW0]; exact box_below
  have O0 : OwnStr W0 w.heap.size w.heap.size 0 [] := by rw [hW0]; exact ownStr_nil w
  go_enter Tryd.func29, Tryd.ntmps29
  go_upto_region 2 with fail
  rw [← hW0]
  clear hW0
  go_wp2_with fail
  go_loopw [3, 4, 5] (fun ov fv iv wr => ∃ (i f g c : Nat) (ws : List (List UInt8)), i ≤ l.length + 1 ∧ iv = .int .i64 i ∧ fv = .int .i64 f ∧ ov = .slice (some ⟨g, 0, none⟩) ws.length c ∧ Hid (WdAt l i f ws) ∧ Hid (OwnStr wr w.heap.size g c ws) ∧ Below w.heap.size w wr) (fun _ _ iv _ => l.length + 1 - (intOf iv).toNat)
  case atStart => exact ⟨0, 0, _, 0, [], by omega, rfl, rfl, rfl, WdAt.start l, O0, B0⟩
  case round =>
    obtain ⟨i, f, g, c, ws, hi, rfl, rfl, rfl, HW, HO, hw⟩ := hrel
    rename World => wr
    have hfi := HW.out.1
    by_cases hlt : i < l.length
    · have ei := HT.out i hlt
      have hle : (i : Int) ≤ (l.length : Int) := by omega
      have hni : ((i : Int) == (l.length : Int)) = false := by simp; omega
      by_cases hb : btL l i = 32
      · have hbb : (btL l i == 32) = true := by simpa using hb
        have HW2 : Hid (WdAt l (i + 1) (i + 1) (ws ++ [(l.drop f).take (i - f)])) := HW.out.cut hlt hb
        have hwn := HW.out.len (by omega)
        have hws : ws.length ≤ l.length + 1 := by have := congrArg List.length hwn; rw [List.length_append] at this; omega
        have EC : bs.extract f i = ⟨((l.drop f).take (i - f)).toArray⟩ := HC.out f i
        generalize (l.drop f).take (i - f) = wd at HW2 EC
        clear hwn hb HW
        have own5 := HO.out.own
        have hgl := HO.out.lt
        have hbase := HO.out.base
        have z5 := hw.size
        have hfi' : (f : Int) ≤ (i : Int) := by omega
        go_wp2_with (at_builtin; refine wpList_append_own _ rfl (.tmp 23) (.tmp 28) 57 rfl w.heap.size 9 i1 (.string ⟨#[]⟩) 1 16 Tryd.underlying57 hj hj0 hj1 hj2 rfl (by decide) _ _ _ rfl (own5.alloc _) ⟨wr.heap.size, 0, none⟩ 1 1 [strV wd] rfl rfl ?g1 ?g2 ?g3 ?g4 ?g5 ?_)
        case g1 =>
          intro j y hj
          match j, hj with
          | 0, hj => simp at hj; subst hj; simp [Addr.add, strV]
        case g2 => intro y hu; simp at hu; subst hu; rfl
        case g3 => unfold maxLen; omega
        case g4 => omega
        case g5 => first | omega | (simp; omega)
        intro v' w4 hown' hgrow _
        have B4 : Below w.heap.size w w4 := (hw.alloc z5 _).grown hgrow (by simp; omega) (fun r q => by simp [Value.ownBlock] at q; omega)
        have hv : v' ≠ .slice none 0 0 := fun e => by
          rcases hown'.2 with ⟨_, h0⟩ | ⟨g3, c3, _, e3, _⟩
          · omega
          · rw [e3] at e; cases e
        obtain ⟨g3, c3, e3, O3⟩ := ownStr_of (ws := ws ++ [wd]) hown' (by simp) (by simp) hv
        subst e3
        have hl3 : ws.length + 1 = (ws ++ [wd]).length := by simp
        have HO3 : Hid (OwnStr w4 w.heap.size g3 c3 (ws ++ [wd])) := O3
        clear O3 hown' hgrow hv own5 HO
        go_wp2_with fail
        exact ⟨⟨i + 1, i + 1, g3, c3, ws ++ [wd], by omega, by go_num, by go_num, by rw [← hl3], HW2, HO3, B4⟩, by first | (simp [intOf]; done) | (simp [intOf]; omega)⟩
      · have hbb : (btL l i == 32) = false := by simpa using hb
        have HW2 : Hid (WdAt l (i + 1) f ws) := HW.out.on hlt hb
        clear hb HW
        go_wp2_with fail
        exact ⟨⟨i + 1, f, g, c, ws, by omega, by go_num, rfl, rfl, HW2, HO, hw⟩, by simp [intOf]; omega⟩
    · by_cases he : i = l.length
      · subst he
        have hle : (l.length : Int) ≤ (l.length : Int) := by omega
        have HW2 : Hid (WdAt l (l.length + 1) (l.length + 1) (ws ++ [(l.drop f).take (l.length - f)])) := HW.out.last
        have hwn := HW.out.len (by omega)
        have hws : ws.length ≤ l.length + 1 := by have := congrArg List.length hwn; rw [List.length_append] at this; omega
        have EC : bs.extract f l.length = ⟨((l.drop f).take (l.length - f)).toArray⟩ := HC.out f l.length
        generalize (l.drop f).take (l.length - f) = wd at HW2 EC
        clear hwn HW
        have own5 := HO.out.own
        have hgl := HO.out.lt
        have hbase := HO.out.base
        have z5 := hw.size
        have hfi' : (f : Int) ≤ (l.length : Int) := by omega
        go_wp2_with (at_builtin; refine wpList_append_own _ rfl (.tmp 23) (.tmp 28) 57 rfl w.heap.size 9 i1 (.string ⟨#[]⟩) 1 16 Tryd.underlying57 hj hj0 hj1 hj2 rfl (by decide) _ _ _ rfl (own5.alloc _) ⟨wr.heap.size, 0, none⟩ 1 1 [strV wd] rfl rfl ?g1 ?g2 ?g3 ?g4 ?g5 ?_)
        case g1 =>
          intro j y hj
          match j, hj with
          | 0, hj => simp at hj; subst hj; simp [Addr.add, strV]
        case g2 => intro y hu; simp at hu; subst hu; rfl
        case g3 => unfold maxLen; omega
        case g4 => omega
        case g5 => first | omega | (simp; omega)
        intro v' w4 hown' hgrow _
        have B4 : Below w.heap.size w w4 := (hw.alloc z5 _).grown hgrow (by simp; omega) (fun r q => by simp [Value.ownBlock] at q; omega)
        have hv : v' ≠ .slice none 0 0 := fun e => by
          rcases hown'.2 with ⟨_, h0⟩ | ⟨g3, c3, _, e3, _⟩
          · omega
          · rw [e3] at e; cases e
        obtain ⟨g3, c3, e3, O3⟩ := ownStr_of (ws := ws ++ [wd]) hown' (by simp) (by simp) hv
        subst e3
        have hl3 : ws.length + 1 = (ws ++ [wd]).length := by simp
        have HO3 : Hid (OwnStr w4 w.heap.size g3 c3 (ws ++ [wd])) := O3
        clear O3 hown' hgrow hv own5 HO
        go_wp2_with fail
        exact ⟨⟨l.length + 1, l.length + 1, g3, c3, ws ++ [wd], by omega, by go_num, by go_num, by rw [← hl3], HW2, HO3, B4⟩, by first | (simp [intOf]; done) | (simp [intOf]; omega)⟩
      · obtain rfl : i = l.length + 1 := by omega
        have hwe : wordsB l = ws := by
          obtain ⟨_, h | h⟩ := HW.out
          · omega
          · exact h.2
        have hno : ¬ ((l.length : Int) + 1) ≤ (l.length : Int) := by omega
        have HWE : Hid (wordsB l = ws) := hwe
        clear hwe HW
        go_wp2_with fail
        go_ret
        rw [HWE.out]
        exact ⟨g, c, rfl, HO.out, hw⟩

end Go.Proofs.YtppnnnijdfbgpaaDoor
