/- The model's own printing of a number: from the last digit to the first. Its text is the library's 'Lib.itoa'. -/
import Derived.Test.YtppnnnijdfbgpaaDoorRows
import Derived.WalkKit
import Derived.WalkLawsBesides
import Derived.Below
import Derived.Lib.ItoaNum
import Derived.Laws.IdiomStrings
import Derived.Deep.LoopGhost
namespace Go.Proofs.YtppnnnijdfbgpaaDoor
open Go.RowKit

/-- what is printed of the number x ahead of the text l -/
def dig10 (x : Nat) (l : List UInt8) : List UInt8 := if x = 0 ∧ l ≠ [] then l else Lib.decDigits x ++ l

theorem dig10_end (l : List UInt8) (h : l ≠ []) : dig10 0 l = l := by unfold dig10; rw [if_pos ⟨rfl, h⟩]

theorem dig10_start (x : Nat) : dig10 x [] = Lib.decDigits x := by unfold dig10; rw [if_neg (by simp), List.append_nil]

theorem dig10_step (x : Nat) (l : List UInt8) (h : l = [] ∨ x ≠ 0) : dig10 (x / 10) ((48 + UInt8.ofNat (x % 10)) :: l) = dig10 x l := by
  rw [show (48 + UInt8.ofNat (x % 10) : UInt8) = UInt8.ofNat (48 + x % 10) from by simp]
  have e : dig10 x l = Lib.decDigits x ++ l := by
    unfold dig10; rw [if_neg (by rintro ⟨h1, h2⟩; rcases h with h | h; exact h2 h; exact h h1)]
  rw [e, Lib.decDigits.eq_def x]
  by_cases hx : x < 10
  · have e0 : x / 10 = 0 := by omega
    have e1 : x % 10 = x := by omega
    rw [dif_pos hx, e0, e1, dig10_end _ (by simp)]; simp
  · rw [dif_neg hx]; unfold dig10; rw [if_neg (by rintro ⟨h1, _⟩; omega)]; simp

theorem dig10_len (x : Nat) (l : List UInt8) : l.length ≤ (dig10 x l).length := by
  unfold dig10; split <;> simp

theorem decDigits_len : ∀ (k u : Nat), u < 10 ^ (k + 1) → (Lib.decDigits u).length ≤ k + 1
  | 0, u, h => by rw [Lib.decDigits.eq_def, dif_pos (by omega)]; simp
  | k + 1, u, h => by
    rw [Lib.decDigits.eq_def]
    by_cases hu : u < 10
    · rw [dif_pos hu]; simp
    · rw [dif_neg hu]
      have := decDigits_len k (u / 10) (by rw [Nat.div_lt_iff_lt_mul (by omega)]; rw [Nat.pow_succ] at h; exact h)
      simp; omega

theorem text_cons (c : UInt8) (l : List UInt8) : (⟨#[c]⟩ ++ ⟨l.toArray⟩ : ByteArray) = ⟨(c :: l).toArray⟩ := by
  apply ByteArray.ext; simp

/-- one more round is owed as long as there is no text -/
def bumpOf : Value → Nat | .string b => if b.size = 0 then 1 else 0 | _ => 0

theorem text_one (c : UInt8) : (⟨#[c]⟩ ++ ⟨#[]⟩ : ByteArray) = ⟨[c].toArray⟩ := text_cons c []

theorem bumpOf_cons (c : UInt8) (l : List UInt8) : bumpOf (.string ⟨(c :: l).toArray⟩) = 0 := by
  have : (⟨(c :: l).toArray⟩ : ByteArray).size = l.length + 1 := by simp [ByteArray.size]
  simp only [bumpOf, this]; simp

theorem bumpOf_nil : bumpOf (.string ⟨#[]⟩) = 1 := rfl

/-- a byte slice of one byte, made on the spot, read as a text -/
theorem run_text_of_one (wr : World) (z : Int) (c : UInt8) (hz : z = (c.toNat : Int)) :
    (convert 22 9 (.slice (some ⟨wr.heap.size, 0, none⟩) 1 1)).run Tryd.prog (wr.alloc (.cells #[.int .u8 z] 5)) = .ok (.string ⟨[c].toArray⟩) (wr.alloc (.cells #[.int .u8 z] 5)) := by
  subst hz
  refine run_convert_bytes_back (P := Tryd.prog) _ 22 9 5 ⟨wr.heap.size, 0, none⟩ 1 [c] Tryd.underlying22 Tryd.underlying5 Tryd.underlying9 ?_
  intro j hj
  have hj0 : j = 0 := by simp at hj; omega
  subst hj0
  exact World.cell?_alloc_mark _ _ _ _ _

set_option maxHeartbeats 400000 in
theorem l1Int_pos (n : Nat) (hn : (n : Int) ≤ 9223372036854775807) (w : World) :
    Calls Tryd.prog 41 #[.int .i64 n] w fun e w' => e = .returned (.string ⟨(Lib.decDigits n).toArray⟩) ∧ Below w.heap.size w w' := by
  go_enter Tryd.func41, Tryd.ntmps41
  go_wp2
  go_loopw [0, 3, 5] (fun c s d wr => ∃ (x : Nat) (l : List UInt8), x ≤ n ∧ c = .int .i64 x ∧ s = .string ⟨l.toArray⟩ ∧ dig10 x l = Lib.decDigits n ∧ Below w.heap.size w wr) (fun c s d wr => (intOf c).toNat + bumpOf s)
  case atStart => exact ⟨n, [], Nat.le_refl _, rfl, rfl, dig10_start n, Below.refl _ _⟩
  case round =>
    obtain ⟨x, l, hx, rfl, rfl, hd, hb⟩ := hrel
    have hl := dig10_len x l
    rw [hd] at hl
    have hl2 := decDigits_len 19 n (by omega)
    have hl3 : l.length ≤ 20 := by omega
    clear hl hl2
    have hk := run_text_of_one wr (48 + (x : Int) % 10) (UInt8.ofNat (48 + x % 10)) (by simp; omega)
    by_cases hc : l = [] ∨ x ≠ 0
    · have HS : Hid (dig10 (x / 10) ((48 + UInt8.ofNat (x % 10)) :: l) = Lib.decDigits n) := (dig10_step x l hc).trans hd
      clear hd
      by_cases hl0 : l = []
      · subst hl0
        go_wp2
        rw [text_one]
        refine ⟨⟨x / 10, [48 + UInt8.ofNat (x % 10)], by omega, by go_num, rfl, HS.out, ?_⟩, ?_⟩
        · exact hb.alloc (by simpa using hb.size) _
        · rw [bumpOf_cons, bumpOf_nil]; simp [intOf]; omega
      · have hx0 : x ≠ 0 := hc.resolve_left hl0
        have hne : l.isEmpty = false := by simpa using hl0
        have hx1 : ((x : Int) != 0) = true := by simp; omega
        clear hl0 hc
        go_wp2
        rw [text_cons]
        refine ⟨⟨x / 10, (48 + UInt8.ofNat (x % 10)) :: l, by omega, by go_num, rfl, HS.out, ?_⟩, ?_⟩
        · exact hb.alloc (by simpa using hb.size) _
        · rw [bumpOf_cons]; simp [intOf]; omega
    · have hl0 : l ≠ [] := fun h => hc (Or.inl h)
      have hx0 : x = 0 := by omega
      subst hx0
      rw [dig10_end l hl0] at hd
      subst hd
      have hne : (Lib.decDigits n).isEmpty = false := by simpa using hl0
      go_wp2
      go_ret
      exact ⟨rfl, hb⟩

end Go.Proofs.YtppnnnijdfbgpaaDoor
