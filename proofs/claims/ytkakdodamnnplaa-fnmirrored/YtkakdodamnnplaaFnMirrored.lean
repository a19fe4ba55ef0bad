/- For every input that can be read the law FnMirrored returns true, and what it was handed reads as before. The frame is the kit's; the opening of the arguments and the walk are ours. -/
import Derived.Test.YtkakdodamnnplaaRows
import Derived.WalkKit
import Derived.ProofKit
import Derived.OpenShut
import Derived.ChangeOld
import Derived.Below
import Derived.Test.YtkakdodamnnplaaPassLaw
import Derived.Test.YtkakdodamnnplaaPassDraw
import Derived.Test.YtkakdodamnnplaaStepApp
import Derived.Test.YtkakdodamnnplaaBytesOpen
import Derived.Deep.RegionHeldLaw
namespace Go.Proofs.Ytkakdodamnnplaa.fnMirrored
open Go.ChangeShapes Go.WideShapes Go.ChangeAt Go.RowKit
open Go.Sort
set_option linter.unusedVariables false

theorem own : ownKnob Try.prog.godebug = none := by kernel_rfl
theorem laidOut : laidOutB Try.prog = true := by kernel_rfl

set_option maxRecDepth 8000 in
set_option maxHeartbeats 2000000 in
theorem walk (a0 : Option Addr) (n0 cap0 : Nat) (z0 : List Int) (w : World) (w0 : IsBytes w a0 n0 cap0 z0) :
    Calls Try.prog 4 #[.slice a0 n0 cap0] w fun e w' => e = .returned (.bool true) ∧ Below w.heap.size w w' := by
  have hmx := w0.mx
  have hle := w0.le
  by_cases hn : n0 ≤ 4096
  · go_enter Try.func4, Try.ntmps4
    go_wp2_with fail
    refine (big_any a0 n0 cap0 _ false (by simpa using hn)).mono ?_
    rintro e w' ⟨rfl, hq⟩; have hq' := hq.symm; clear hq; subst hq'
    go_wp2_with fail
    refine (drawThrough_any a0 n0 cap0 z0 _ w0 hn).mono ?_
    rintro e w1 ⟨g, c, ys, rfl, O, hy, hA, U1⟩
    have J1 : PassS w1 (some ⟨g, 0, none⟩) ys.length c ys := O.toS hA.wf
    have wfy := hA.wf
    clear O
    go_wp2_with fail
    refine (implThrough_any _ ys.length c ys _ J1).mono ?_
    rintro e w2 ⟨rfl, hb2⟩
    have U2 := U1.then hb2 U1.size
    have J2 := J1.below hb2
    go_wp2_with fail
    refine (specThrough_any _ ys.length c ys _ J2).mono ?_
    rintro e w3 ⟨rfl, hb3⟩
    have U3 := U2.then hb3 U2.size
    have J3 := J2.below hb3
    clear J1 J2 hb2 hb3 U1 U2
    rcases hq : psB ys with _ | _
    · rw [thrF_f hq]
      go_wp2
      go_ret
      exact ⟨rfl, U3⟩
    · rw [thrF_t hq]
      have ho := psB_t hq
      obtain ⟨i1, hj, hj0, hj1, hj2⟩ := info_parts infoPass
      have hmo : Try.prog.follows .mixedOrders = true := by kernel_rfl
      obtain ⟨L1, L2, L3, L4⟩ := mir_law ho
      have hbT := thr_bd ho (k := ys.length) (Nat.le_refl _)
      rw [List.take_of_length_le (Nat.le_refl _)] at hbT
      obtain ⟨_, _, _, _, t0, t1⟩ := hbT
      have hT0 : ¬ thrV ys < 0 := by omega
      obtain ⟨T, hT⟩ : ∃ T, T = thrV ys := ⟨_, rfl⟩
      rw [← hT] at L1 L2 L3 L4 t0 t1 hT0 ⊢
      clear hT
      have own0 : OwnPass (w3.alloc (.cells #[] 31)) w3.heap.size w3.heap.size 0 [] := ownPass_nil w3
      obtain ⟨N, hN⟩ : ∃ N, N = ys.length := ⟨_, rfl⟩
      rw [← hN] at J3 ⊢
      have hN5 : N ≤ 5 := by omega
      have HN : Hid (N = ys.length) := hN
      clear hN
      go_wp2
      go_loopw [5, 6, 7, 8] (fun u p q i wr => ∃ (k gx cx : Nat) (xs : List Pz), k ≤ N ∧ i = .int .i64 ((k : Int) - 1) ∧ u = .slice (some ⟨gx, 0, none⟩) xs.length cx ∧ Hid (OwnPass wr w3.heap.size gx cx xs) ∧ Hid (xs = mirP (ys.drop k)) ∧ xs.length ≤ N - k ∧ p = .int .i64 (sumA (ys.drop k)) ∧ q = .int .i64 (sumB (ys.drop k)) ∧ Below w3.heap.size w3 wr) (fun _ _ _ i _ => (intOf i + 1).toNat)
      case atStart => exact ⟨N, _, 0, [], by omega, rfl, rfl, own0, (by unfold Hid; rw [List.drop_of_length_le (by have := HN.out; omega)]; rfl), by simp, by rw [List.drop_of_length_le (by have := HN.out; omega)]; rfl, by rw [List.drop_of_length_le (by have := HN.out; omega)]; rfl, box_below0⟩
      case round =>
        obtain ⟨k, gx, cx, xs, hk, rfl, rfl, HO, HX, hxl, rfl, rfl, hw⟩ := hrel
        rename World => wr
        have hbd := drop_bd ho k
        obtain ⟨s0, s1, s2, s3⟩ := hbd
        by_cases hlt : 0 < k
        · obtain ⟨m, rfl⟩ : ∃ m, k = m + 1 := ⟨k - 1, by omega⟩
          obtain ⟨b, off, he, hbw, hat⟩ := J3.at_ (by omega)
          obtain ⟨rfl, rfl⟩ : g = b ∧ 0 = off := by simpa using he
          obtain ⟨hc0, hc1, hc2⟩ := (hat.below hw hbw).row (i := m) (by have := HN.out; omega)
          rw [Nat.zero_add] at hc0 hc1 hc2
          have hmy : m < ys.length := by have := HN.out; omega
          obtain ⟨d0, d1, d2, d3⟩ := pz_bd ho hmy
          have HXn : Hid (xs ++ [flipP (pzg ys m)] = mirP (ys.drop m)) := by unfold Hid; rw [mir_step hmy, ← HX.out]
          have EA := sumA_drop hmy
          have EB := sumB_drop hmy
          have zr := hw.size
          have lo := HO.out.base
          have ll := HO.out.lt
          have hbg : g ≠ gx := by omega
          have OP : ∀ W, Below wr.heap.size wr W → W.ownsRow w3.heap.size 31 3 (.slice (some ⟨gx, 0, none⟩) xs.length cx) xs.length (pzcells xs) := fun W hW => (HO.out.below hW).own
          have HOP : Hid _ := OP
          have hlm : (((m + 1 : Nat) : Int) - 1) = (m : Int) := by omega
          rw [hlm]
          have hm0 : (0 : Int) ≤ (m : Int) := by omega
          have hmN : (m : Int) < (N : Int) := by omega
          have KS0 : wr.cell? ⟨g, m * 3, none⟩ = some (.int .i64 (pzg ys m).id) ∧ wr.cell? ⟨g, m * 3 + 1, none⟩ = some (.int .i64 (pzg ys m).a) ∧ wr.cell? ⟨g, m * 3 + 2, none⟩ = some (.int .i64 (pzg ys m).b) := ⟨hc0, hc1, hc2⟩
          have KA : Hid (∀ o, ((wr.alloc o).drew).cell? ⟨g, m * 3, none⟩ = some (.int .i64 (pzg ys m).id) ∧ ((wr.alloc o).drew).cell? ⟨g, m * 3 + 1, none⟩ = some (.int .i64 (pzg ys m).a) ∧ ((wr.alloc o).drew).cell? ⟨g, m * 3 + 2, none⟩ = some (.int .i64 (pzg ys m).b)) := fun o => by
            have hc : ∀ j, ((wr.alloc o).drew).cell? ⟨g, j, none⟩ = wr.cell? ⟨g, j, none⟩ := fun j => by show (wr.alloc o).cell? _ = _; exact World.cell?_alloc_lt _ _ _ (by simp; omega)
            rw [hc, hc, hc]; exact KS0
          have KG : Hid (∀ o W, ((wr.alloc o).drew).grownBy W (Value.slice (some ⟨gx, 0, none⟩) xs.length cx).ownBlock → W.cell? ⟨g, m * 3, none⟩ = some (.int .i64 (pzg ys m).id) ∧ W.cell? ⟨g, m * 3 + 1, none⟩ = some (.int .i64 (pzg ys m).a) ∧ W.cell? ⟨g, m * 3 + 2, none⟩ = some (.int .i64 (pzg ys m).b)) := fun o W hg => by
            have hc : ∀ j, W.cell? ⟨g, j, none⟩ = wr.cell? ⟨g, j, none⟩ := fun j => (World.cell?_of_block (a := ⟨g, j, none⟩) (hg.block g (by simp; omega) (by simpa [Value.ownBlock] using hbg))).trans (by show (wr.alloc o).cell? _ = _; exact World.cell?_alloc_lt _ _ _ (by simp; omega))
            rw [hc, hc, hc]; exact KS0
          clear hat OP hc0 hc1 hc2 he
          go_wp2
          go_region_held_law (fun w' => w'.cell? ⟨g, m * 3, none⟩ = some (.int .i64 (pzg ys m).id) ∧ w'.cell? ⟨g, m * 3 + 1, none⟩ = some (.int .i64 (pzg ys m).a) ∧ w'.cell? ⟨g, m * 3 + 2, none⟩ = some (.int .i64 (pzg ys m).b)) (first | exact KS5 | exact KS0 | exact KA.out _ | go_keep) (first
            | (refine step_append_own rfl (.tmp 29) (.tmp 46) 24 rfl w3.heap.size 31 i1 (.agg #[.int .i64 0, .int .i64 0, .int .i64 0]) 3 24 Try.underlying24 hj hj0 hj1 hj2 rfl (by decide) (.slice (some ⟨gx, 0, none⟩) xs.length cx) xs.length (pzcells xs) rfl (HOP.out _ (by first | exact ((Below.refl _ _).alloc (Nat.le_refl _) _).drew | exact (Below.refl _ _).drew.alloc (Nat.le_refl _) _)) ⟨wr.heap.size, 0, none⟩ 1 1 [.int .i64 (pzg ys m).id, .int .i64 (pzg ys m).b, .int .i64 (pzg ys m).a] rfl rfl (newPass_cells _ (flipP (pzg ys m)) _) (pzl_one (flipP (pzg ys m))) (by unfold maxLen; omega) (by omega) (by simp; omega) ?_
               intro v5 w5 own5 grow5 nil5 at5
               have KS5 := KG.out _ _ grow5
               have B5 : Below w3.heap.size w3 w5 := (by first | exact (hw.alloc zr _).drew.grown grow5 (by simp; omega) (fun r e => by have e' : gx = r := Option.some.inj e; omega) | exact ((hw.drew.alloc (by simp; omega) _).grown grow5 (by simp; omega) (fun r e => by have e' : gx = r := Option.some.inj e; omega)))
               obtain ⟨g5, c5, rfl, O5⟩ := ownPass_of' (ys := xs ++ [flipP (pzg ys m)]) own5 (by simp) (by rw [pzcells_app]; rfl) (fun e => by have := (nil5.1 e).2; omega)
               have HO5 : Hid _ := O5
               clear own5 grow5 nil5 at5 O5))
          obtain ⟨k0, k1, k2⟩ := KS5
          go_wp2
          go_roundw
          case rel => exact ⟨m, g5, c5, xs ++ [flipP (pzg ys m)], by omega, by go_num, by simp, HO5.out, HXn, by simp; omega, by rw [EA], by rw [EB], B5⟩
          case measure => simp [intOf]
        · obtain rfl : k = 0 := by omega
          have HXe : Hid (xs = mirP ys) := by have := HX.out; rwa [List.drop_zero] at this
          have hom := ho.mir
          have wfx : ∀ i, i < xs.length → pzwf (pzg xs i) := fun i hi => by
            have hx := (psOk_iff.1 hom).2.1 (pzg xs i) (by rw [← HXe.out, pzg_get hi]; exact List.getElem_mem hi)
            have := pok_bd hx
            intro c hc
            obtain rfl | rfl | rfl : c = 0 ∨ c = 1 ∨ c = 2 := by omega
            all_goals (simp only [pzc]; omega)
          have JX : PassS wr (some ⟨gx, 0, none⟩) xs.length cx xs := HO.out.toS wfx
          have HT : Hid (thrF xs = T) := by rw [HXe.out]; exact L1
          rw [List.drop_zero] at s0 s1 s2 s3 ⊢
          have U4 := U3.then hw U3.size
          clear HX HXe hom
          go_wp2_with (go_at_call 14; refine (implThrough_any _ xs.length cx xs _ JX).mono ?_; rw [HT.out]; rintro e w5 ⟨rfl, hb5⟩)
          go_ret
          exact ⟨rfl, U4.then hb5 U4.size⟩
  · go_enter Try.func4, Try.ntmps4
    go_wp2_with (go_at_call 9; refine (big_any a0 n0 cap0 _ true (by simpa using hn)).mono ?_; rintro e w' ⟨rfl, hq⟩; have hq' := hq.symm; clear hq; subst hq')
    go_ret
    exact ⟨rfl, Below.refl _ _⟩

set_option maxRecDepth 100000 in
theorem lifted (os : Os) (started : os.Started) (H : Type) (enc : TypeId × Value → H) :
    ReturnsInHanded {} Try.checked os 4 .any (Rows.fnMirroredSpec.pre6 enc Try.prog Try.f4 Rows.fnMirroredRow.domain false) (Rows.fnMirroredSpec.post enc Try.prog Try.f4 false true false false) := by
  refine returnsInHanded_of_change (C := Try.checked) own started (by kernel_rfl) Try.func4
    (ChangeSpec.witness6 (enc := enc) (C := Try.checked) false ⟨#[], #[.slice none 0 0], []⟩ 8 (by kernel_rfl) (by kernel_rfl) (by kernel_rfl) (by kernel_rfl)) ?_
  intro W base args ds gs before hval0 hW hcnd _
  have hval : ∀ (j : Nat) t v, Try.f4.params[j]? = some t → args[j]? = some v → Value.okWide Try.prog W .any base t v := hval0
  have hW' := hW
  obtain ⟨p, q, hA0, hV, rfl, hfz, hnd⟩ := hW
  have hA : DataW.TrodAll enc Try.prog W 0 (fun _ => true) true Try.f4.params.toList args.toList ds p := hA0
  rw [Try.params4] at hA hval
  obtain ⟨v0, vs0, d0, ds0, p0, q0, hargs, rfl, rfl, h0, r0⟩ := trodAll_cons hA
  obtain ⟨rfl, rfl, rfl⟩ := trodAll_nil r0
  obtain rfl : args = #[v0] := by cases args; simp_all
  obtain ⟨rfl, rfl⟩ := trodVars_none hV
  have k0 := h0
  have lt0 : ∀ x ∈ p0, x.block < W.heap.size := by obtain ⟨m, hm⟩ := k0; exact DataW.trod_lt m _ _ _ hm
  obtain ⟨a0, n0, cap0, z0, rfl, w0⟩ := open_bytes (hval 0 22 v0 rfl rfl) h0
  clear hA0 hval0
  refine (walk a0 n0 cap0 z0 W w0).mono fun e W' ⟨he, bel⟩ => ?_
  subst he
  exact ⟨_, rfl, _, _, _, [], _, [], hW', trodAll_mk1 (shut_bool Try.underlying4 _), (trodAll_cons_mk (Below.trod laidOut (by kernel_rfl) (of_decide_eq_true (by kernel_rfl)) k0 bel lt0) trodAll_mk0), rfl, bel.frame _, fun h => by cases h⟩

theorem over : Rows.fnMirroredRow.holds Try.pinned (OpenSpec.ofChange Rows.fnMirroredSpec) :=
  OpenClaim.holds_of_wide 4 Try.f4 rfl rfl rfl rfl rfl rfl rfl ⟨rfl, rfl, rfl, rfl, rfl⟩ rfl rfl rfl rfl rfl (by kernel_rfl) Try.func4 (by kernel_rfl)
    (of_decide_eq_true (by kernel_rfl)) (by unfold Func.isWrapper; first | (rw [if_pos (by decide +kernel)]; kernel_rfl) | (rw [if_neg (by decide +kernel)]; exact ⟨rfl, rfl⟩))
    (fun os started H enc _ => lifted os started H enc)

/-- the given statement -/
theorem proved : Rows.FnMirroredSaid := over
#print axioms proved
end Go.Proofs.Ytkakdodamnnplaa.fnMirrored
