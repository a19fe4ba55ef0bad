/- One after the other: the model's ends, lateness, weights. -/
import Derived.Test.YtnbeaeekfahijaaInts
import Derived.Test.YtnbeaeekfahijaaIntRow
import Derived.Test.YtnbeaeekfahijaaJobsOkS
namespace Go.Proofs.Ytnbeaeekfahijaa
open Go.RowKit

/-- the sum of the first k lengths -/
def sumTo (ls : List Jb) : Nat → Int
  | 0 => 0
  | k + 1 => sumTo ls k + (jg ls k).long
/-- the ends -/
def endsL (ls : List Jb) (k : Nat) : List Int := (List.range k).map fun i => sumTo ls (i + 1)
theorem endsL_len (ls : List Jb) (k : Nat) : (endsL ls k).length = k := by simp [endsL]
theorem endsL_g (ls : List Jb) {k i : Nat} (h : i < k) : zg (endsL ls k) i = sumTo ls (i + 1) := by simp [endsL, zg, h]
theorem endsL_succ (ls : List Jb) (k : Nat) : endsL ls (k + 1) = endsL ls k ++ [sumTo ls (k + 1)] := by simp [endsL, List.range_succ]

/-- what a right job's numbers keep -/
theorem jok_bd {j : Jb} (h : jok j = true) : 1 ≤ j.long ∧ j.long ≤ 10000 ∧ 0 ≤ j.due ∧ j.due ≤ 1000000000 ∧ 0 ≤ j.wt ∧ j.wt ≤ 1000 := by
  unfold jok jobB at h
  simp only [Bool.and_eq_true] at h
  obtain ⟨⟨⟨⟨⟨⟨_, _⟩, h3⟩, h4⟩, h5⟩, _⟩, _⟩ := h
  unfold inB at h3 h5
  unfold okB inB at h4
  simp at h3 h4 h5
  omega

theorem sumTo_bd {ls : List Jb} {n : Nat} (h : jokTo ls n) : ∀ k, k ≤ n → 0 ≤ sumTo ls k ∧ sumTo ls k ≤ 10000 * (k : Int)
  | 0, _ => by simp [sumTo]
  | k + 1, hk => by
    have := sumTo_bd h k (by omega)
    have := jok_bd (h k (by omega)).1
    simp only [sumTo]
    omega

set_option maxRecDepth 4000 in
set_option maxHeartbeats 1000000 in
theorem l4Ends_any (a : Option Addr) (n cap : Nat) (ls : List Jb) (w : World) (h : JobS w a n cap ls) (ok : jokTo ls n) (hn : n ≤ 40) :
    Calls Try.prog 46 #[.slice a n cap] w fun e w' => ∃ g c, e = .returned (.slice (some ⟨g, 0, none⟩) n c) ∧ w.heap.size ≤ g ∧ c ≤ maxLen ∧ n ≤ c ∧ IntB w' g n (endsL ls n) ∧ Below w.heap.size w w' := by
  obtain ⟨i1, hj, hj0, hj1, hj2⟩ := info_parts infoI
  have hm := h.mx
  have hle := h.le
  have hlen := h.len
  unfold maxLen at hm
  have own0 : (w.alloc (.cells #[] 2)).ownsRow w.heap.size 2 1 (.slice (some ⟨w.heap.size, 0, none⟩) 0 0) 0 [] := World.ownsRow_made w #[] 0 (Nat.le_refl _) (Nat.zero_le _) rfl
  have bx : Below w.heap.size w (w.alloc (.cells #[] 2)) := (Below.refl _ _).alloc (Nat.le_refl _) _
  go_enter Try.func46, Try.ntmps46
  go_wp2
  go_loopw [3, 4, 5] (fun u t i wr => ∃ (k g uc : Nat), k ≤ n ∧ i = .int .i64 k ∧ t = .int .i64 (sumTo ls k) ∧ u = .slice (some ⟨g, 0, none⟩) k uc ∧ Hid (wr.ownsRow w.heap.size 2 1 (.slice (some ⟨g, 0, none⟩) k uc) k ((endsL ls k).map (Value.int .i64))) ∧ Below w.heap.size w wr) (fun _ _ i _ => n - (intOf i).toNat)
  case atStart => exact ⟨0, _, 0, by omega, rfl, rfl, rfl, own0, bx⟩
  case round =>
    obtain ⟨k, g, uc, hk, rfl, rfl, rfl, HO, hw⟩ := hrel
    by_cases hlt : k < n
    · obtain ⟨b, off, rfl, hbw, hat⟩ := h.at_ (by omega)
      have hc := (hat.below hw hbw) k (by omega) 2 (by omega)
      simp only [jc] at hc
      have hlt' : (k : Int) < (n : Int) := by omega
      have bd := sumTo_bd ok k (by omega)
      have jb := jok_bd (ok k hlt).1
      have hs : sumTo ls (k + 1) = sumTo ls k + (jg ls k).long := rfl
      have HS : Hid (sumTo ls (k + 1) = sumTo ls k + (jg ls k).long) := rfl
      clear hs
      have OA : (wr.alloc (.cells #[.int .i64 (sumTo ls k + (jg ls k).long)] 2)).ownsRow w.heap.size 2 1 (.slice (some ⟨g, 0, none⟩) k uc) k ((endsL ls k).map (Value.int .i64)) := ownI_below HO.out ((Below.refl _ _).alloc (Nat.le_refl _) _)
      have hz := hw.size
      go_wp2_with (at_builtin; refine wpList_append_own_at _ rfl (.tmp 20) (.tmp 22) 37 rfl w.heap.size 2 i1 (.int .i64 0) 1 8 Try.underlying37 hj hj0 hj1 hj2 rfl (by decide) _ _ _ rfl OA ⟨wr.heap.size, 0, none⟩ 1 1 [.int .i64 (sumTo ls k + (jg ls k).long)] rfl rfl (own_one _ _ _) (by intro u hu; simp at hu; subst hu; rfl) (by unfold maxLen; omega) (by omega) (by simp; omega) ?_)
      intro v3 w3 own3 grow3 nil3 at3
      have hg := (World.ownsRow.lt HO.out) g rfl
      have B3 : Below w.heap.size w w3 := (hw.alloc hz _).grown grow3 (by simp; omega) (fun r e => by have e' : g = r := Option.some.inj e; omega)
      have own4 : w3.ownsRow w.heap.size 2 1 v3 (k + 1) ((endsL ls (k + 1)).map (Value.int .i64)) := by
        rw [endsL_succ, HS.out, List.map_append]; exact own3
      obtain ⟨g3, c3, rfl⟩ : ∃ g3 c3, v3 = .slice (some ⟨g3, 0, none⟩) (k + 1) c3 := by
        rcases own4.2 with ⟨_, h0⟩ | ⟨g3, c3, _, e, _⟩
        · omega
        · exact ⟨g3, c3, e⟩
      have HO4 : Hid _ := own4
      clear own3 own4 grow3 nil3 at3 OA
      go_wp2
      go_roundw
      case rel => exact ⟨k + 1, g3, c3, by omega, by go_num, by rw [HS.out], rfl, HO4, B3⟩
      case measure => simp [intOf]; omega
    · have e : k = n := by omega
      subst e
      obtain ⟨h1, _, h3, h4, h5⟩ := own_ints HO.out
      go_wp2
      go_ret
      exact ⟨g, uc, rfl, h5, h4, h3, h1, hw⟩

end Go.Proofs.Ytnbeaeekfahijaa
