/- A slice of int64s that came in, opened; the law's copy of one. -/
import Derived.Test.YtmgeknddnamjlaaL6S
import Derived.Test.YtmgeknddnamjlaaIntsOpen
namespace Go.Proofs.Ytmgeknddnamjlaa
open Go.ChangeShapes Go.WideShapes Go.ChangeAt Go.RowKit Go.Joins Go.Deep

set_option maxRecDepth 8000 in
theorem open_intS {H : Type} {enc : TypeId × Value → H} {W : World} {b0 : Nat} {v : Value} {d : DataW H} {p : List MemPlace}
    (hv : Value.okWide Try.prog W .any b0 28 v) (h : DataW.Trod enc Try.prog W 0 (fun _ => true) true 28 v d p) :
    ∃ (a : Option Addr) (n cap : Nat) (zs : List Int), v = .slice a n cap ∧ IntS W a n cap zs := by
  obtain ⟨a, n, cap, rfl⟩ := okWide_slice Try.underlying28 hv
  obtain ⟨fuel, hf⟩ := h
  rcases open_ints Try.underlying28 Try.underlying2 (by kernel_rfl) hf with ⟨hcs, _⟩ | ⟨x, l, c, zs, hcs, _, hl, hm, hz, _, hcell, _⟩
  · simp [Value.cells] at hcs
    obtain ⟨rfl, rfl, rfl⟩ := hcs
    exact ⟨_, _, _, [], rfl, rfl, Nat.le_refl _, Nat.zero_le _, fun hi => by omega⟩
  · simp [Value.cells] at hcs
    obtain ⟨rfl, rfl, rfl⟩ := hcs
    have hz' : zs.length = cap := by simpa using hz
    refine ⟨_, _, _, zs.take n, rfl, by rw [List.length_take]; omega, hl, hm, fun hn => ?_⟩
    obtain ⟨b, off, spot⟩ := x
    have hc := hcell 0 (by omega)
    have hspot : spot = none := by simpa [Addr.add] using World.cell?_spot hc
    subst hspot
    refine ⟨b, off, rfl, by simpa [Addr.add] using World.block_lt_of_cell? W _ hc, fun i hi => ?_⟩
    have := hcell i (by omega)
    have hadd : (⟨b, off, none⟩ : Addr).add i = ⟨b, off + i, none⟩ := by unfold Addr.add; split <;> simp_all
    rw [hadd] at this
    rw [this]
    have : zg (zs.take n) i = zs[i]'(by omega) := by
      rw [zg, List.getElem?_take_of_lt hi, List.getElem?_eq_getElem (by omega)]; rfl
    rw [this, List.getD_eq_getElem?_getD, List.getElem?_eq_getElem (by omega)]
    rfl

/-- the first k of zs, noughts behind -/
def tkz (zs : List Int) (n k : Nat) : List Int := zs.take k ++ List.replicate (n - k) 0
theorem tkz_len {zs : List Int} {n k : Nat} (hl : zs.length = n) (hk : k ≤ n) : (tkz zs n k).length = n := by
  unfold tkz; rw [List.length_append, List.length_take, List.length_replicate]; omega
theorem tkz_set {zs : List Int} {n k : Nat} (hl : zs.length = n) (hk : k < n) : (tkz zs n k).set k (zg zs k) = tkz zs n (k + 1) := by
  unfold tkz
  rw [List.set_append_right _ _ (by rw [List.length_take]; omega), List.length_take, show k - min k zs.length = 0 by omega, show n - k = (n - (k + 1)) + 1 by omega, List.replicate_succ, List.set_cons_zero, zg_get (by omega), List.take_succ_eq_append_getElem (by omega), List.append_assoc]
  rfl
theorem tkz_all {zs : List Int} {n : Nat} (hl : zs.length = n) : tkz zs n n = zs := by
  unfold tkz; rw [← hl, List.take_length, Nat.sub_self]; simp

set_option maxHeartbeats 1000000 in
theorem toInt64S_any (a : Option Addr) (n cap : Nat) (zs : List Int) (w : World) (h : IntS w a n cap zs) (hn : n ≤ 1048576) :
    Calls Try.prog 33 #[.slice a n cap] w fun e w' => ∃ B, e = .returned (.slice (some ⟨B, 0, none⟩) n n) ∧ w.heap.size ≤ B ∧ LdB w' B zs ∧ Below w.heap.size w w' := by
  have hlen := h.len
  have hm := h.mx
  have hle := h.le
  unfold maxLen at hm
  have hmk := run_makeM n hn
  have HL0 : Hid (LdB (w.alloc (.cells (madeCells #[.int .i64 0] n) 2)) w.heap.size (tkz zs n 0)) := LdB.made w n
  have HB0 : Hid (Below w.heap.size w (w.alloc (.cells (madeCells #[.int .i64 0] n) 2))) := box_below
  go_enter Try.func33, Try.ntmps33
  go_wp2
  clear hmk
  go_loopw [4] (fun i wr => ∃ k : Nat, k ≤ n ∧ i = .int .i64 k ∧ Hid (LdB wr w.heap.size (tkz zs n k)) ∧ Hid (Below w.heap.size w wr)) (fun i _ => n - (intOf i).toNat)
  case atStart => exact ⟨0, by omega, rfl, HL0.out, HB0.out⟩
  case round =>
    obtain ⟨k, hk, rfl, HL, HB⟩ := hrel
    by_cases hlt : k < n
    · obtain ⟨b, off, rfl, hbw, hat⟩ := (h.below HB.out).at_ (by omega)
      have hz := hat k hlt
      clear hat
      have hlt' : (k : Int) < (n : Int) := by omega
      have lc := HL.out.cell (k := k) (by rw [tkz_len hlen hk]; exact hlt)
      have lf := HL.out.free k
      have L3 : Hid (LdB (wr.setCell ⟨w.heap.size, k, none⟩ (.int .i64 (zg zs k))) w.heap.size (tkz zs n (k + 1))) := by
        have := HL.out.set k (zg zs k)
        rw [tkz_set hlen hlt] at this
        exact this
      have B3 : Hid (Below w.heap.size w (wr.setCell ⟨w.heap.size, k, none⟩ (.int .i64 (zg zs k)))) := HB.out.setCell (Nat.le_refl _) _
      go_wp2
      go_roundw
      case rel => exact ⟨k + 1, by omega, by go_num, L3, B3⟩
      case measure => simp [intOf]; omega
    · have e : k = n := by omega
      subst e
      have L4 : Hid (LdB wr w.heap.size zs) := by have := HL.out; rwa [tkz_all hlen] at this
      go_wp2
      go_ret
      exact ⟨_, rfl, Nat.le_refl _, L4.out, HB.out⟩

end Go.Proofs.Ytmgeknddnamjlaa
