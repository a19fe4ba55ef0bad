/- The model's l1Digits: of a numeral its number. -/
import Derived.Test.YtppnnnijdfbgpaaDoorCmdM
import Derived.Test.YtppnnnijdfbgpaaDoorDigits
import Derived.PlainAid
import Derived.Deep.Cut
import Derived.Deep.CutRange
namespace Go.Proofs.YtppnnnijdfbgpaaDoor
open Go.RowKit Go.PlainAid

/-- byte i of a text, as a number -/
def btL (l : List UInt8) (i : Nat) : Int := ((l[i]?.getD 0).toNat : Int)
theorem bt_list (l : List UInt8) (i : Nat) (hi : i < l.length) : bt ⟨l.toArray⟩ i = btL l i := by
  unfold bt btL
  have h : i < (⟨l.toArray⟩ : ByteArray).size := by simpa [ByteArray.size] using hi
  rw [dif_pos h, List.getElem?_eq_getElem hi]
  rfl
theorem size_list (l : List UInt8) : (⟨l.toArray⟩ : ByteArray).size = l.length := by simp [ByteArray.size]
theorem toList_list (l : List UInt8) : (⟨l.toArray⟩ : ByteArray).toList = l := by simp

/-- if it is a numeral, x is its number -/
def IsDg (l : List UInt8) (x : Int) : Prop := ∀ u : Nat, u ≤ 1000000000 → l = Lib.decDigits u → x = (u : Int)

theorem valB_s {l : List UInt8} {k : Nat} (hk : k < l.length) (hd : 48 ≤ btL l k) : (valB (l.take (k + 1)) : Int) = valB (l.take k) * 10 + (btL l k - 48) := by
  rw [List.take_succ_eq_append_getElem hk, valB_snoc]
  have e : btL l k = ((l[k]'hk).toNat : Int) := by unfold btL; rw [List.getElem?_eq_getElem hk]; rfl
  rw [e] at hd ⊢
  push_cast
  omega

set_option maxHeartbeats 1000000 in
theorem l1Digits_dec (u : Nat) (hu : u ≤ 1000000000) (w : World) :
    Calls Tryd.prog 30 #[.string ⟨(Lib.decDigits u).toArray⟩, .int .i64 10] w fun e w' => e = .returned (.tuple #[.int .i64 u, .bool true]) ∧ w' = w := by
  have hlen := decDigits_len 9 u (by omega)
  have hdig := dec_dig u
  have hne := dec_ne u
  have hv := valB_dec u
  have hz := dec_zero u
  generalize Lib.decDigits u = l at hlen hdig hne hv hz ⊢
  have h0 : 0 < l.length := by cases l with | nil => exact absurd rfl hne | cons c t => exact Nat.succ_pos _
  have hd : ∀ i, i < l.length → 48 ≤ btL l i ∧ btL l i ≤ 57 := fun i hi => by
    unfold btL; rw [List.getElem?_eq_getElem hi]
    have := hdig _ (List.getElem_mem hi)
    show 48 ≤ ((l[i]).toNat : Int) ∧ ((l[i]).toNat : Int) ≤ 57
    omega
  have hz1 : btL l 0 = 48 → l.length = 1 := fun e => by
    cases l with
    | nil => exact absurd rfl hne
    | cons c t =>
      have e2 : c = 48 := by
        unfold btL at e
        have e3 : (c.toNat : Int) = 48 := e
        exact UInt8.toNat_inj.1 (by omega : c.toNat = 48)
      rw [hz t (by rw [e2])]; rfl
  have hbt := bt_list l
  have hsz := size_list l
  have htl := toList_list l
  have hne2 : (l == []) = false := by cases l with | nil => exact absurd rfl hne | cons c t => rfl
  have hne3 : l.isEmpty = false := by cases l with | nil => exact absurd rfl hne | cons c t => rfl
  generalize (⟨l.toArray⟩ : ByteArray) = bs at hbt hsz htl ⊢
  have HB := get_bt bs
  have b0 := hd 0 h0
  have e0 := hbt 0 h0
  have c1 : (btL l 0 == 45) = false := by simp; omega
  have HD : Hid (∀ i, i < l.length → 48 ≤ btL l i ∧ btL l i ≤ 57) := hd
  have HT : Hid (∀ i, i < l.length → bt bs i = btL l i) := hbt
  have HV : Hid (valB l = u) := hv
  have HZ : Hid (btL l 0 = 48 → l.length = 1) := hz1
  clear hdig hz hv hd hbt hz1 hne
  go_enter Tryd.func30, Tryd.ntmps30
  go_wp2_with fail
  go_loopw [8, 9] (fun nv kv wr => ∃ k : Nat, k ≤ l.length ∧ kv = .int .i64 k ∧ nv = .int .i64 (valB (l.take k) : Nat) ∧ wr = w) (fun _ kv _ => l.length - (intOf kv).toNat)
  case atStart => exact ⟨0, by omega, rfl, rfl, rfl⟩
  case round =>
    obtain ⟨k, hk, rfl, rfl, rfl⟩ := hrel
    by_cases hlt : k < l.length
    · have hlt' : (k : Int) < (l.length : Int) := by omega
      have bk := HD.out k hlt
      have ek := HT.out k hlt
      have hs := valB_s hlt bk.1
      have hbd := valB_bd (l.take k) (fun c hc => by
        obtain ⟨i, hi, rfl⟩ := List.getElem_of_mem hc
        have hi2 : i < l.length := by rw [List.length_take] at hi; omega
        have h9 := HD.out i hi2
        unfold btL at h9
        rw [List.getElem?_eq_getElem hi2] at h9
        rw [List.getElem_take]
        have h8 : 48 ≤ ((l[i]).toNat : Int) ∧ ((l[i]).toNat : Int) ≤ 57 := h9
        omega)
      have hbd2 : valB (l.take k) < 10000000000 := by
        refine Nat.lt_of_lt_of_le hbd ?_
        rw [List.length_take]
        exact Nat.pow_le_pow_right (n := 10) (by omega) (show min k l.length ≤ 10 by omega)
      generalize valB (l.take k) = q at hs hbd2 ⊢
      have HS : Hid ((valB (l.take (k + 1)) : Int) = q * 10 + (btL l k - 48)) := hs
      clear hs hbd
      generalize btL l k = x at bk ek HS
      have w1 : IntKind.i64.wrap ((q : Int) * 10) = q * 10 := by rw [IntKind.wrap_i64]; omega
      have w2 : IntKind.u8.wrap (x - 48) = x - 48 := by unfold IntKind.wrap; simp [IntKind.bits, IntKind.signed]; omega
      have w3 : IntKind.i64.wrap ((q : Int) * 10 + (x - 48)) = q * 10 + (x - 48) := by rw [IntKind.wrap_i64]; omega
      have g1 : ¬ x < 48 := by omega
      have g2 : ¬ 57 < x := by omega
      go_wp2_with fail
      exact ⟨⟨k + 1, by omega, by go_num, by rw [HS.out], trivial⟩, by simp [intOf]; omega⟩
    · obtain rfl : k = l.length := by omega
      rw [List.take_length, HV.out]
      have hnn : ¬ (l.length : Int) < (l.length : Int) := by omega
      by_cases z : btL l 0 = 48
      · have h1 := HZ.out z
        have z2 : (btL l 0 == 48) = true := by simpa using z
        go_wp2_with fail
        go_ret2
        exact ⟨rfl, rfl⟩
      · have z2 : (btL l 0 == 48) = false := by simpa using z
        go_wp2_with fail
        go_ret2
        exact ⟨rfl, rfl⟩

/-- some number, some word, the world as it was -/
def DgAny (e : Ending) (w w' : World) : Prop := ∃ (x : Int) (b : Bool), e = .returned (.tuple #[.int .i64 x, .bool b]) ∧ w' = w
set_option maxHeartbeats 1000000 in
theorem l1Digits_pos (l : List UInt8) (hl : l.length ≤ 2000000) (h0 : 0 < l.length) (hc : (btL l 0 == 45) = false) (w : World) :
    Calls Tryd.prog 30 #[.string ⟨l.toArray⟩, .int .i64 10] w fun e w' => DgAny e w w' := by
  have hne2 : (l == []) = false := by cases l with | nil => simp at h0 | cons c t => rfl
  have hne3 : l.isEmpty = false := by cases l with | nil => simp at h0 | cons c t => rfl
  have hbt := bt_list l
  have hsz := size_list l
  have htl := toList_list l
  generalize (⟨l.toArray⟩ : ByteArray) = bs at hbt hsz htl ⊢
  have HB := get_bt bs
  have e0 := hbt 0 h0
  have HT : Hid (∀ i, i < l.length → bt bs i = btL l i) := hbt
  clear hbt
  have a1 : ¬ (l.length : Int) - 0 < 1 := by omega
  by_cases a2 : 10 < (l.length : Int) - 0
  · go_enter Tryd.func30, Tryd.ntmps30
    go_wp2_with fail
    go_ret2
    exact ⟨_, _, rfl, rfl⟩
  go_enter Tryd.func30, Tryd.ntmps30
  go_wp2_with fail
  go_loopw [8, 9] (fun nv kv wr => ∃ (k : Nat) (q : Int), 0 ≤ k ∧ k ≤ l.length ∧ kv = .int .i64 k ∧ nv = .int .i64 q ∧ wr = w) (fun _ kv _ => l.length - (intOf kv).toNat)
  case atStart => exact ⟨0, 0, by omega, by omega, rfl, rfl, rfl⟩
  case round =>
    obtain ⟨k, q, hik, hk, rfl, rfl, rfl⟩ := hrel
    by_cases hlt : k < l.length
    · have hlt' : (k : Int) < (l.length : Int) := by omega
      have ek := HT.out k hlt
      have bk := bt_le bs k
      have bn := bt_nonneg bs k
      rw [ek] at bk bn
      generalize btL l k = x at bk bn ek
      by_cases g1 : x < 48
      · go_wp2_with fail
        go_ret2
        exact ⟨_, _, rfl, rfl⟩
      by_cases g2 : 57 < x
      · go_wp2_with fail
        go_ret2
        exact ⟨_, _, rfl, rfl⟩
      have w2 : IntKind.u8.wrap (x - 48) = x - 48 := by unfold IntKind.wrap; simp [IntKind.bits, IntKind.signed]; omega
      go_wp2_with fail
      exact ⟨⟨k + 1, _, by omega, by omega, by go_num, rfl, trivial⟩, by simp [intOf]; omega⟩
    · obtain rfl : k = l.length := by omega
      have hnn : ¬ (l.length : Int) < (l.length : Int) := by omega
      have ei := HT.out 0 (by omega)
      by_cases z : btL l 0 = 48
      · have z2 : (btL l 0 == 48) = true := by simpa using z
        by_cases a3 : 1 < (l.length : Int)
        · go_wp2_with fail
          go_ret2
          exact ⟨_, _, rfl, rfl⟩
        · go_wp2_with fail
          go_ret2
          exact ⟨_, _, rfl, rfl⟩
      · have z2 : (btL l 0 == 48) = false := by simpa using z
        go_wp2_with fail
        go_ret2
        exact ⟨_, _, rfl, rfl⟩

set_option maxHeartbeats 1000000 in
theorem l1Digits_neg (l : List UInt8) (hl : l.length ≤ 2000000) (h0 : 0 < l.length) (hc : (btL l 0 == 45) = true) (w : World) :
    Calls Tryd.prog 30 #[.string ⟨l.toArray⟩, .int .i64 10] w fun e w' => DgAny e w w' := by
  have hne2 : (l == []) = false := by cases l with | nil => simp at h0 | cons c t => rfl
  have hne3 : l.isEmpty = false := by cases l with | nil => simp at h0 | cons c t => rfl
  have hbt := bt_list l
  have hsz := size_list l
  have htl := toList_list l
  generalize (⟨l.toArray⟩ : ByteArray) = bs at hbt hsz htl ⊢
  have HB := get_bt bs
  have e0 := hbt 0 h0
  have HT : Hid (∀ i, i < l.length → bt bs i = btL l i) := hbt
  clear hbt
  by_cases a1 : (l.length : Int) - 1 < 1
  · go_enter Tryd.func30, Tryd.ntmps30
    go_wp2_with fail
    go_ret2
    exact ⟨_, _, rfl, rfl⟩
  by_cases a2 : 10 < (l.length : Int) - 1
  · go_enter Tryd.func30, Tryd.ntmps30
    go_wp2_with fail
    go_ret2
    exact ⟨_, _, rfl, rfl⟩
  go_enter Tryd.func30, Tryd.ntmps30
  go_wp2_with fail
  go_loopw [8, 9] (fun nv kv wr => ∃ (k : Nat) (q : Int), 1 ≤ k ∧ k ≤ l.length ∧ kv = .int .i64 k ∧ nv = .int .i64 q ∧ wr = w) (fun _ kv _ => l.length - (intOf kv).toNat)
  case atStart => exact ⟨1, 0, by omega, by omega, rfl, rfl, rfl⟩
  case round =>
    obtain ⟨k, q, hik, hk, rfl, rfl, rfl⟩ := hrel
    by_cases hlt : k < l.length
    · have hlt' : (k : Int) < (l.length : Int) := by omega
      have ek := HT.out k hlt
      have bk := bt_le bs k
      have bn := bt_nonneg bs k
      rw [ek] at bk bn
      generalize btL l k = x at bk bn ek
      by_cases g1 : x < 48
      · go_wp2_with fail
        go_ret2
        exact ⟨_, _, rfl, rfl⟩
      by_cases g2 : 57 < x
      · go_wp2_with fail
        go_ret2
        exact ⟨_, _, rfl, rfl⟩
      have w2 : IntKind.u8.wrap (x - 48) = x - 48 := by unfold IntKind.wrap; simp [IntKind.bits, IntKind.signed]; omega
      go_wp2_with fail
      exact ⟨⟨k + 1, _, by omega, by omega, by go_num, rfl, trivial⟩, by simp [intOf]; omega⟩
    · obtain rfl : k = l.length := by omega
      have hnn : ¬ (l.length : Int) < (l.length : Int) := by omega
      have ei := HT.out 1 (by omega)
      by_cases z : btL l 1 = 48
      · have z2 : (btL l 1 == 48) = true := by simpa using z
        go_wp2_with fail
        go_ret2
        exact ⟨_, _, rfl, rfl⟩
      · have z2 : (btL l 1 == 48) = false := by simpa using z
        go_wp2_with fail
        go_ret2
        exact ⟨_, _, rfl, rfl⟩

theorem l1Digits_any (l : List UInt8) (hl : l.length ≤ 2000000) (w : World) :
    Calls Tryd.prog 30 #[.string ⟨l.toArray⟩, .int .i64 10] w fun e w' => ∃ (x : Int) (b : Bool), e = .returned (.tuple #[.int .i64 x, .bool b]) ∧ IsDg l x ∧ w' = w := by
  by_cases h : ∃ u : Nat, u ≤ 1000000000 ∧ l = Lib.decDigits u
  · obtain ⟨u, hu, rfl⟩ := h
    refine (l1Digits_dec u hu w).mono ?_
    rintro e w' ⟨rfl, rfl⟩
    refine ⟨_, _, rfl, fun v hv e => ?_, rfl⟩
    rw [dec_inj e]
  · have H : ∀ x, IsDg l x := fun x u hu e => absurd ⟨u, hu, e⟩ h
    by_cases h0 : 0 < l.length
    · rcases hc : (btL l 0 == 45) with _ | _
      · refine (l1Digits_pos l hl h0 hc w).mono ?_
        rintro e w' ⟨x, b, rfl, rfl⟩
        exact ⟨x, b, rfl, H x, rfl⟩
      · refine (l1Digits_neg l hl h0 hc w).mono ?_
        rintro e w' ⟨x, b, rfl, rfl⟩
        exact ⟨x, b, rfl, H x, rfl⟩
    · obtain rfl : l = [] := List.length_eq_zero_iff.1 (by omega)
      clear h
      go_enter Tryd.func30, Tryd.ntmps30
      go_wp2_with fail
      go_ret2
      exact ⟨_, _, rfl, H _, rfl⟩

end Go.Proofs.YtppnnnijdfbgpaaDoor
