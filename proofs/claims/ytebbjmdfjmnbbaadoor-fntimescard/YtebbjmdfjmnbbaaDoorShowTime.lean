/- ShowTime, of the model and of the program: empty, the word, or the digits. -/
import Derived.Test.YtebbjmdfjmnbbaaDoorTime
import Derived.Test.YtebbjmdfjmnbbaaDoorDigits
import Derived.Test.YtebbjmdfjmnbbaaDoorShelf
import Derived.Lib.SmallJoins
namespace Go.Proofs.YtebbjmdfjmnbbaaDoor
open Go.RowKit

def neverBytes : List UInt8 := [110, 101, 118, 101, 114]
def showT (t : Int) : List UInt8 := if okB t = true then if t = 1000000000 then neverBytes else Lib.decDigits t.toNat else []

theorem below_grow (B : Nat) (w : World) (hB : B ≤ w.heap.size) (k : Nat) (os : Array Obj) : Below B w (Sort.grow (w.drewN k) os) := by
  refine ⟨rfl, rfl, rfl, ?_, fun j hj => ?_⟩
  · have : (Sort.grow (w.drewN k) os).heap = w.heap ++ os := rfl
    rw [this]; simp
  · have : (Sort.grow (w.drewN k) os).heap = w.heap ++ os := rfl
    rw [this]; exact Array.getElem?_append_left (by omega)

theorem specShow_any (t : Int) (w : World) :
    Calls Tryd.prog 15 #[.int .i64 t] w fun e w' => e = .returned (.string ⟨(showT t).toArray⟩) ∧ Below w.heap.size w w' := by
  by_cases c1 : okB t = true
  · obtain ⟨t0, t1⟩ := okB_t c1
    by_cases c2 : t = 1000000000
    · subst c2
      have e1 : showT 1000000000 = neverBytes := by decide
      rw [e1]
      go_enter Tryd.func15, Tryd.ntmps15
      go_wp2_with (go_at_call 17; refine (specOk_any _ _).mono ?_; rintro e w' ⟨rfl, rfl⟩)
      go_ret
      exact ⟨rfl, Below.refl _ _⟩
    · obtain ⟨n, rfl⟩ := Int.eq_ofNat_of_zero_le t0
      have e1 : showT (n : Int) = Lib.decDigits n := by unfold showT; rw [if_pos c1, if_neg c2]; rfl
      rw [e1]
      have c3 : ((n : Int) == 1000000000) = false := by simpa using c2
      clear c2 e1
      go_enter Tryd.func15, Tryd.ntmps15
      go_wp2_with (first | (go_at_call 17; refine (specOk_any _ _).mono ?_; rintro e w' ⟨rfl, rfl⟩) | (go_at_call 32; refine (l1Int_pos _ (by omega) _).mono ?_; rintro e w' ⟨rfl, hb⟩))
      go_ret
      exact ⟨rfl, hb⟩
  · simp only [Bool.not_eq_true] at c1
    have e1 : showT t = [] := by unfold showT; rw [if_neg (by rw [c1]; simp)]
    rw [e1]
    go_enter Tryd.func15, Tryd.ntmps15
    go_wp2_with (go_at_call 17; refine (specOk_any _ _).mono ?_; rintro e w' ⟨rfl, rfl⟩)
    go_ret
    exact ⟨rfl, Below.refl _ _⟩

theorem implShow_any (t : Int) (w : World) (htab : Lib.TabIs Tryd.prog w "internal/strconv.uint64pow10" .u64 Lib.pow10Tab) :
    Calls Tryd.prog 14 #[.int .i64 t] w fun e w' => e = .returned (.string ⟨(showT t).toArray⟩) ∧ Below w.heap.size w w' := by
  by_cases c1 : okB t = true
  · obtain ⟨t0, t1⟩ := okB_t c1
    by_cases c2 : t = 1000000000
    · subst c2
      have e1 : showT 1000000000 = neverBytes := by decide
      rw [e1]
      clear htab
      go_enter Tryd.func14, Tryd.ntmps14
      go_wp2_with (go_at_call 16; refine (implOk_any _ _).mono ?_; rintro e w' ⟨rfl, rfl⟩)
      go_ret
      exact ⟨rfl, Below.refl _ _⟩
    · have e1 : showT t = Lib.itoa t := by
        unfold showT Lib.itoa; rw [if_pos c1, if_neg c2, if_neg (by omega)]
      rw [e1]
      have c3 : (t == 1000000000) = false := by simpa using c2
      clear c2 e1
      go_enter Tryd.func14, Tryd.ntmps14
      go_wp2_with (first | (go_at_call 16; refine (implOk_any _ _).mono ?_; rintro e w' ⟨rfl, rfl⟩) | (go_at_call 31; refine (Tryd.strconv_FormatInt_10 _ (by omega) (by omega) _ htab).mono ?_; rintro e w' ⟨rfl, k, os, rfl⟩))
      go_ret
      exact ⟨rfl, below_grow _ _ (Nat.le_refl _) _ _⟩
  · simp only [Bool.not_eq_true] at c1
    have e1 : showT t = [] := by unfold showT; rw [if_neg (by rw [c1]; simp)]
    rw [e1]
    clear htab
    go_enter Tryd.func14, Tryd.ntmps14
    go_wp2_with (go_at_call 16; refine (implOk_any _ _).mono ?_; rintro e w' ⟨rfl, rfl⟩)
    go_ret
    exact ⟨rfl, Below.refl _ _⟩

end Go.Proofs.YtebbjmdfjmnbbaaDoor
