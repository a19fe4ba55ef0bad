/- The draws: a cursor over the bytes of a code. What is drawn is not reckoned, only that something of its kind comes. -/
import Derived.Test.YtppnnnijdfbgpaaDoorTime
import Derived.Test.YtppnnnijdfbgpaaDoorWorlds
import Derived.WalkLawsBesides
import Derived.BigQuiet
import Derived.Deep.QuietTactic
namespace Go.Proofs.YtppnnnijdfbgpaaDoor
open Go.RowKit

def byt (zs : List Int) (i : Nat) : Int := zs[i]?.getD 0

/-- the slice at a, n of cap, holds bytes -/
structure IsBytes (w : World) (a : Option Addr) (n cap : Nat) (zs : List Int) : Prop where
  le : n ≤ cap
  mx : cap ≤ maxLen
  bd : ∀ i, i < n → 0 ≤ byt zs i ∧ byt zs i ≤ 255
  at_ : 0 < n → ∃ b off, a = some ⟨b, off, none⟩ ∧ b < w.heap.size ∧ ∀ i, i < n → w.cell? ⟨b, off + i, none⟩ = some (.int .u8 (byt zs i))

theorem IsBytes.below {w w' : World} {a : Option Addr} {n cap : Nat} {zs : List Int} (h : IsBytes w a n cap zs) (hb : Below w.heap.size w w') : IsBytes w' a n cap zs :=
  ⟨h.le, h.mx, h.bd, fun hn => by
    obtain ⟨b, off, e, h1, h2⟩ := h.at_ hn
    exact ⟨b, off, e, Nat.lt_of_lt_of_le h1 hb.size, fun i hi => (hb.cell (p := ⟨b, off + i, none⟩) h1).trans (h2 i hi)⟩⟩

theorem ret_bool {a b : Bool} (h : a = b) : Ending.returned (.bool a) = .returned (.bool b) := by rw [h]

theorem IsBytes.but {w w' : World} {cb B : Nat} {a : Option Addr} {n cap : Nat} {zs : List Int} (h : IsBytes w a n cap zs) (hb : But cb w w') (hB : 0 < n → ∀ b off, a = some ⟨b, off, none⟩ → b < B) (hcb : B ≤ cb) : IsBytes w' a n cap zs :=
  ⟨h.le, h.mx, h.bd, fun hn => by
    obtain ⟨b, off, e, h1, h2⟩ := h.at_ hn
    have := hB hn b off e
    exact ⟨b, off, e, Nat.lt_of_lt_of_le h1 hb.size, fun i hi => (World.cell?_of_block (w := w) (a := ⟨b, off + i, none⟩) (hb.block b h1 (by omega))).trans (h2 i hi)⟩⟩

/-- a cursor in block cb over the code at a, n of cap: the code's bytes lie below it -/
def CurAt (w : World) (cb : Nat) (a : Option Addr) (n cap : Nat) (zs : List Int) : Prop :=
  n ≤ 4096 ∧ IsBytes w a n cap zs ∧ (0 < n → ∀ b off, a = some ⟨b, off, none⟩ → b < cb) ∧ ∃ (i : Nat) (h : Int), i ≤ n ∧ w.heap[cb]? = some (.cells #[.slice a n cap, .int .i64 i, .int .i64 h] 64 (0, 0))

theorem i64_and255 (n : Int) : bits .and .i64 n 255 = n % 256 := by
  have h255 : (BitVec.ofInt 64 255).toNat = 2 ^ 8 - 1 := by decide
  have key : (BitVec.ofInt 64 n &&& BitVec.ofInt 64 255).toNat = (n % ((2 ^ 64 : Nat) : Int)).toNat % 2 ^ 8 := by
    rw [BitVec.toNat_and, BitVec.toNat_ofInt, h255, Nat.and_two_pow_sub_one_eq_mod]
  show IntKind.i64.wrap ((BitVec.ofInt 64 n &&& BitVec.ofInt 64 255).toNat : Nat) = n % 256
  rw [key, IntKind.wrap_i64]
  omega

theorem and255_bd (n : Int) : 0 ≤ bits .and .i64 n 255 ∧ bits .and .i64 n 255 ≤ 255 := by rw [i64_and255]; omega

theorem curSet {w : World} {B j : Nat} {cur : Array Value} {t : TypeId} (h : w.heap[B]? = some (.cells cur t (0, 0))) (v : Value) : (w.setCell ⟨B, j, none⟩ v).heap[B]? = some (.cells (cur.setIfInBounds j v) t (0, 0)) := by
  simp [World.setCell, Array.getElem?_modify, h]

theorem l1New_any (a : Option Addr) (n cap : Nat) (zs : List Int) (w : World) (h : IsBytes w a n cap zs) (hn : n ≤ 4096) :
    Calls Tryd.prog 22 #[.slice a n cap] w fun e w' => ∃ cb, e = .returned (.pointer (some ⟨cb, 0, none⟩)) ∧ w.heap.size ≤ cb ∧ CurAt w' cb a n cap zs ∧ Below w.heap.size w w' := by
  go_enter Tryd.func22, Tryd.ntmps22
  go_wp2
  go_loop [3, 4] (fun m i => ∃ (k : Nat) (z : Int), k ≤ n ∧ i = .int .i64 k ∧ m = .int .i64 z) (fun _ i => n - (intOf i).toNat)
  case atStart => exact ⟨0, _, by omega, rfl, rfl⟩
  case round =>
    obtain ⟨k, z, hk, rfl, rfl⟩ := hrel
    by_cases hlt : k < n
    · obtain ⟨b, off, rfl, hbw, hat⟩ := h.at_ (by omega)
      have q0 := hat k hlt
      have bd := h.bd k hlt
      go_wp2
      go_round
      case rel => exact ⟨k + 1, _, by omega, by go_num, rfl⟩
      case measure => simp [intOf]; omega
    · have e : k = n := by omega
      subst e
      go_wp2
      go_ret
      refine ⟨_, rfl, Nat.le_refl _, ⟨hn, h.below ((Below.refl _ _).alloc (Nat.le_refl _) _), fun hp b off e => ?_, 0, z, by omega, by rw [heap_alloc_new]; rfl⟩, (Below.refl _ _).alloc (Nat.le_refl _) _⟩
      obtain ⟨b', off', e', h1, _⟩ := h.at_ hp
      rw [e] at e'; cases e'; exact h1

set_option maxHeartbeats 1000000 in
theorem l1Byte_any (cb : Nat) (a : Option Addr) (n cap : Nat) (zs : List Int) (w : World) (h : CurAt w cb a n cap zs) :
    Calls Tryd.prog 46 #[.pointer (some ⟨cb, 0, none⟩)] w fun e w' => ∃ x : Int, e = .returned (.int .i64 x) ∧ 0 ≤ x ∧ x ≤ 255 ∧ CurAt w' cb a n cap zs ∧ But cb w w' := by
  obtain ⟨hn, hB, hlt, i, z, hi, hblk⟩ := h
  have c0 : w.cell? ⟨cb, 0, none⟩ = some (.slice a n cap) := by simp [World.cell?, hblk]
  have c1 : w.cell? ⟨cb, 1, none⟩ = some (.int .i64 i) := by simp [World.cell?, hblk]
  have c2 : w.cell? ⟨cb, 2, none⟩ = some (.int .i64 z) := by simp [World.cell?, hblk]
  have f0 : ∀ j, w.frozen? ⟨cb, j, none⟩ = false := fun j => by simp [World.frozen?, hblk]
  by_cases c : i < n
  · obtain ⟨b, off, rfl, hbw, hat⟩ := hB.at_ (by omega)
    have hbc := hlt (by omega) b off rfl
    have q0 := hat i c
    have bd := hB.bd i c
    have hne : ¬ b = cb := by omega
    have i1 : (0 : Int) ≤ (i : Int) := by omega
    have i2 : (i : Int) < (n : Int) := by omega
    go_enter Tryd.func46, Tryd.ntmps46
    go_wp2
    go_quiet (fail)
    go_wp2
    go_quiet (fail)
    go_wp2
    go_quiet (fail)
    go_wp2
    go_ret
    refine ⟨_, rfl, (and255_bd _).1, (and255_bd _).2, ⟨hn, ?_, hlt, i + 1, _, by omega, curSet (curSet hblk _) _⟩, ?_⟩
    · exact hB.but ((((But.refl cb w).setCell 2 _).drewN _).setCell 1 _) hlt (Nat.le_refl _)
    · exact (((But.refl cb w).setCell 2 _).drewN _).setCell 1 _
  · go_enter Tryd.func46, Tryd.ntmps46
    go_wp2
    go_quiet (fail)
    go_wp2
    go_quiet (fail)
    go_wp2
    go_ret
    refine ⟨_, rfl, (and255_bd _).1, (and255_bd _).2, ⟨hn, ?_, hlt, i, _, hi, curSet hblk _⟩, ?_⟩
    · exact hB.but ((((But.refl cb w).setCell 2 _).drewN _).drewN _) hlt (Nat.le_refl _)
    · exact (((But.refl cb w).setCell 2 _).drewN _).drewN _

/-- the first four draws of a great one, and what they make up -/
theorem l1Below_any (cb : Nat) (a : Option Addr) (n cap : Nat) (zs : List Int) (m : Int) (w : World) (h : CurAt w cb a n cap zs) (hm : 0 < m) (hm2 : m ≤ 256) :
    Calls Tryd.prog 37 #[.pointer (some ⟨cb, 0, none⟩), .int .i64 m] w fun e w' => ∃ x : Int, e = .returned (.int .i64 x) ∧ 0 ≤ x ∧ x < m ∧ CurAt w' cb a n cap zs ∧ But cb w w' := by
  go_enter Tryd.func37, Tryd.ntmps37
  go_wp2_with fail
  refine (l1Byte_any cb a n cap zs _ h).mono ?_
  rintro e w1 ⟨x, rfl, x0, x1, h1, hb1⟩
  go_wp2
  go_ret
  exact ⟨_, rfl, by first | exact Int.emod_nonneg _ (by omega) | (refine Int.tmod_nonneg _ ?_; omega), by first | exact Int.emod_lt_of_pos _ hm | (exact Int.tmod_lt_of_pos _ hm), h1, hb1⟩

theorem l1Once_any (cb : Nat) (a : Option Addr) (n cap : Nat) (zs : List Int) (m : Int) (w : World) (h : CurAt w cb a n cap zs) (hm : 0 < m) (hm2 : m ≤ 256) :
    Calls Tryd.prog 24 #[.pointer (some ⟨cb, 0, none⟩), .int .i64 m] w fun e w' => ∃ b : Bool, e = .returned (.bool b) ∧ CurAt w' cb a n cap zs ∧ But cb w w' := by
  go_enter Tryd.func24, Tryd.ntmps24
  go_wp2_with fail
  refine (l1Below_any cb a n cap zs m _ h hm hm2).mono ?_
  rintro e w1 ⟨x, rfl, x0, x1, h1, hb1⟩
  go_wp2
  go_ret
  exact ⟨_, rfl, h1, hb1⟩

theorem CurAt.but {w w' : World} {cb : Nat} {a : Option Addr} {n cap : Nat} {zs : List Int} (h : CurAt w cb a n cap zs) (hb : Below w.heap.size w w') (hc : cb < w.heap.size) : CurAt w' cb a n cap zs := by
  obtain ⟨h1, h2, h3, i, z, h4, h5⟩ := h
  exact ⟨h1, h2.below hb, h3, i, z, h4, by rw [hb.block cb hc]; exact h5⟩

theorem CurAt.lt {w : World} {cb : Nat} {a : Option Addr} {n cap : Nat} {zs : List Int} (h : CurAt w cb a n cap zs) : cb < w.heap.size := by
  obtain ⟨_, _, _, i, z, _, h5⟩ := h
  exact lt_of_block h5

theorem But.other {cb : Nat} {w w' : World} {o : Obj} (h : But cb (w.alloc o) w') (hc : cb < w.heap.size) : w'.heap[w.heap.size]? = some o := by
  have := h.block w.heap.size (by simp) (by omega)
  rw [this, heap_alloc_new]

theorem CurAt.keep {w w' : World} {cb : Nat} {a : Option Addr} {n cap : Nat} {zs : List Int} (h : CurAt w cb a n cap zs) (hk : ∀ k, k ≤ cb → w'.heap[k]? = w.heap[k]?) (hz : w.heap.size ≤ w'.heap.size) : CurAt w' cb a n cap zs := by
  have hcb := h.lt
  obtain ⟨h1, h2, h3, i, z, h4, h5⟩ := h
  refine ⟨h1, ⟨h2.le, h2.mx, h2.bd, fun hn => ?_⟩, h3, i, z, h4, by rw [hk cb (Nat.le_refl _)]; exact h5⟩
  obtain ⟨b, off, e, hb, hc⟩ := h2.at_ hn
  have hbc := h3 hn b off e
  exact ⟨b, off, e, by omega, fun j hj => (World.cell?_of_block (w := w) (a := ⟨b, off + j, none⟩) (hk b (by omega))).trans (hc j hj)⟩

theorem CurAt.setNew {w : World} {cb B j : Nat} {a : Option Addr} {n cap : Nat} {zs : List Int} (h : CurAt w cb a n cap zs) (hB : cb < B) (u : Value) : CurAt (w.setCell ⟨B, j, none⟩ u) cb a n cap zs :=
  h.keep (fun k hk => Below.heap_setCell _ _ _ _ (show k ≠ B by omega)) (by simp [World.setCell])

theorem But.setNew {cb B j : Nat} {w w' : World} (h : But cb w w') (hB : w.heap.size ≤ B) (u : Value) : But cb w (w'.setCell ⟨B, j, none⟩ u) :=
  ⟨h.os, h.tape, h.output, by simpa [World.setCell] using h.size, fun k hk hne => (Below.heap_setCell _ _ _ _ (show k ≠ B by omega)).trans (h.block k hk hne)⟩

theorem But.grownB {O B : Nat} {W w w' : World} {row : Option Nat} (h : But O W w) (hg : w.grownBy w' row) (hB : W.heap.size ≤ B) (hr : ∀ k, row = some k → B ≤ k) : But O W w' :=
  ⟨hg.os.trans h.os, hg.tape.trans h.tape, hg.output.trans h.output, Nat.le_trans h.size hg.size, fun k hk hne =>
    (hg.block k (Nat.lt_of_lt_of_le hk h.size) (fun e => by have := hr k e.symm; omega)).trans (h.block k hk hne)⟩

/-- the odd times -/
def oddT : Array Value := #[.int .i64 (-1), .int .i64 0, .int .i64 999999999, .int .i64 1000000000, .int .i64 1000000001, .int .i64 4611686018427387904, .int .i64 (-9223372036854775808)]
theorem oddT_at : ∀ k, k < 7 → ∃ v : Int, oddT[k]? = some (.int .i64 v) ∧ (-9223372036854775808 ≤ v ∧ v ≤ 9223372036854775807)
  | 0, _ => ⟨_, rfl, by omega⟩
  | 1, _ => ⟨_, rfl, by omega⟩
  | 2, _ => ⟨_, rfl, by omega⟩
  | 3, _ => ⟨_, rfl, by omega⟩
  | 4, _ => ⟨_, rfl, by omega⟩
  | 5, _ => ⟨_, rfl, by omega⟩
  | 6, _ => ⟨_, rfl, by omega⟩

theorem row_at {w w2 : World} {cb k : Nat} {L : Array Value} {v : Value} (hb : But cb (w.alloc (.cells L 2)) w2) (hc : cb < w.heap.size) (hv : L[k]? = some v) : w2.cell? ⟨w.heap.size, k, none⟩ = some v := by
  have e := hb.block w.heap.size (by simp) (by omega)
  rw [heap_alloc_new] at e
  simp [World.cell?, e, hv]

theorem big_any (a : Option Addr) (n cap : Nat) (w : World) (b : Bool) (hb : b = decide (4096 < n)) :
    Calls Tryd.prog 7 #[.slice a n cap] w fun e w' => e = .returned (.bool b) ∧ w' = w := by
  by_cases c : 4096 < n
  · have e : b = true := by rw [hb]; simpa using c
    subst e; clear hb
    go_enter Tryd.func7, Tryd.ntmps7
    go_wp2
    go_ret
    exact ⟨ret_bool (by simp; omega), rfl⟩
  · have e : b = false := by rw [hb]; simpa using c
    subst e; clear hb
    go_enter Tryd.func7, Tryd.ntmps7
    go_wp2
    go_ret
    exact ⟨ret_bool (by simp; omega), rfl⟩

end Go.Proofs.YtppnnnijdfbgpaaDoor
