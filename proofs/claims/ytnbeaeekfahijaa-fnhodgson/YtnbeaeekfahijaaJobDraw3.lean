/- The draws of lists of jobs. -/
import Derived.Test.YtnbeaeekfahijaaJobDraw2
namespace Go.Proofs.Ytnbeaeekfahijaa
open Go.RowKit Go.Sort

theorem OwnJ.low {w : World} {base base' g cap : Nat} {ys : List Jb} (h : OwnJ w base g cap ys) (hb : base' ≤ base) : OwnJ w base' g cap ys := by
  refine ⟨⟨h.own.1, ?_⟩, h.le, h.mx, Nat.le_trans hb h.base, h.lt⟩
  rcases h.own.2 with e | ⟨g', cap', cur, e, hg, r⟩
  · exact .inl e
  · exact .inr ⟨g', cap', cur, e, Nat.le_trans hb hg, r⟩

set_option maxRecDepth 8000 in
set_option maxHeartbeats 1000000 in
theorem drawJobs_any (a : Option Addr) (n cap : Nat) (zs : List Int) (w : World) (h : IsBytes w a n cap zs) (hn : n ≤ 4096) :
    Calls Try.prog 38 #[.slice a n cap] w fun e w' => ∃ g c ys, e = .returned (.slice (some ⟨g, 0, none⟩) ys.length c) ∧ OwnJ w' w.heap.size g c ys ∧ ys.length ≤ 41 ∧ allSmall ys ∧ Below w.heap.size w w' := by
  obtain ⟨i1, hj, hj0, hj1, hj2⟩ := info_parts infoJ
  go_enter Try.func38, Try.ntmps38
  go_wp2_with fail
  refine (l1New_any a n cap zs _ h hn).mono ?_
  rintro e w1 ⟨cb, rfl, hcb, c1, U1⟩
  have z1 := U1.size
  have hcb1 := c1.lt
  go_wp2_with fail
  refine (l1Once_any cb a n cap zs 30 _ c1 (by omega) (by omega)).mono ?_
  rintro e w2 ⟨b, rfl, c2, b2⟩
  have hcb2 := c2.lt
  cases b with
  | false =>
    go_wp2_with fail
    refine (l3DrawAny_any cb a n cap zs 6 _ c2 (by omega) (by omega)).mono ?_
    rintro e w3 ⟨g, c, ys, rfl, O3, hy, hA, c3, b3⟩
    have B3 := b2.trans b3
    have z2 := b2.size
    go_wp2
    go_ret
    exact ⟨g, c, ys, rfl, O3.low (by omega), by omega, hA, U1.trans (B3.below hcb (by omega))⟩
  | true =>
    have z2 := b2.size
    have own0 : OwnJ (w2.alloc (.cells #[] 31)) w1.heap.size w2.heap.size 0 [] := ⟨World.ownsRow_made w2 #[] 0 (by omega) (Nat.zero_le _) rfl, Nat.le_refl _, Nat.zero_le _, by omega, by simp⟩
    have c2a := c2.but (box_below0 (o := .cells #[] 31)) hcb2
    have b2a := b2.alloc (.cells #[] 31)
    clear c2 b2
    go_wp2_with fail
    go_loopw [4, 5] (fun u s wr => ∃ (k g uc : Nat) (ys : List Jb), k ≤ 41 ∧ ys.length ≤ k ∧ s = .int .i64 k ∧ u = .slice (some ⟨g, 0, none⟩) ys.length uc ∧ Hid (OwnJ wr w1.heap.size g uc ys) ∧ Hid (allSmall ys) ∧ CurAt wr cb a n cap zs ∧ But cb w1 wr) (fun _ s _ => 41 - (intOf s).toNat)
    case atStart => exact ⟨0, _, 0, [], by omega, by simp, rfl, rfl, own0, (fun y hy => by cases hy), c2a, b2a⟩
    case round =>
      obtain ⟨k, g, uc, ys, hk, hyk, rfl, rfl, HO, HA, hc, hb⟩ := hrel
      go_wp2_with fail
      refine (l1Below_any cb a n cap zs 2 _ hc (by omega) (by omega)).mono ?_
      rintro e w3 ⟨x, rfl, x0, x1, c3, b3⟩
      have hgb := HO.out.base
      have O3 := HO.out.blk (w' := w3) (b3.block g HO.out.lt (by omega))
      have HO3 : Hid (OwnJ w3 w1.heap.size g uc ys) := O3
      have B3 := hb.trans b3
      clear O3 b3 hc hb HO
      by_cases hlt : (k : Int) < 40 + x
      · go_wp2_with fail
        refine (l3DrawJob_any cb a n cap zs (k + 1) _ c3 (by omega) (by omega)).mono ?_
        rintro e w4 ⟨j, rfl, hid, hsm, c4, b4⟩
        have O4 := HO3.out.blk (w' := w4) (b4.block g HO3.out.lt (by omega))
        have B4 := B3.trans b4
        have z4 := B4.size
        have OA : (w4.alloc (.cells #[.int .i64 j.id, .int .i64 j.cores, .int .i64 j.long, .int .i64 j.due, .int .i64 j.wt, .int .i64 j.rank, .int .i64 j.at_] 31)).ownsRow w1.heap.size 31 7 (.slice (some ⟨g, 0, none⟩) ys.length uc) ys.length (jcells ys) := (O4.below box_below0).own
        clear hid
        go_wp2_with (at_builtin; refine wpList_append_own_at _ rfl (.tmp 18) (.tmp 23) 24 rfl w1.heap.size 31 i1 (.agg #[.int .i64 0, .int .i64 0, .int .i64 0, .int .i64 0, .int .i64 0, .int .i64 0, .int .i64 0]) 7 56 Try.underlying24 hj hj0 hj1 hj2 rfl (by decide) _ _ _ rfl OA ⟨w4.heap.size, 0, none⟩ 1 1 [.int .i64 j.id, .int .i64 j.cores, .int .i64 j.long, .int .i64 j.due, .int .i64 j.wt, .int .i64 j.rank, .int .i64 j.at_] rfl rfl (new7_plain _ _ _) (jl_one j) (by unfold maxLen; omega) (by omega) (by simp; omega) ?_)
        intro v5 w5 own5 grow5 nil5 at5
        have hc5 : CurAt w5 cb a n cap zs := c4.keep (fun r hr => (grow5.block r (by have := c4.lt; simp; omega) (by simp [Value.ownBlock]; omega)).trans (Below.heap_alloc _ _ _ (by have := c4.lt; omega))) (Nat.le_trans (by simp) grow5.size)
        have B5 : But cb w1 w5 := (B4.alloc _).grownB (B := w1.heap.size) grow5 (Nat.le_refl _) (fun r e => by have e' : g = r := Option.some.inj e; omega)
        obtain ⟨g5, c5, rfl, O5⟩ := ownJ_of' (ys := ys ++ [j]) own5 (by simp) (by rw [jcells_app]; rfl) (by first | exact nil5 | exact fun e => nomatch (nil5.1 e).1)
        have HO5 : Hid (OwnJ w5 w1.heap.size g5 c5 (ys ++ [j])) := O5
        have HA5 : Hid (allSmall (ys ++ [j])) := HA.out.snoc hsm
        clear own5 grow5 nil5 at5 OA O5 hsm
        go_wp2
        go_roundw
        case rel => exact ⟨k + 1, g5, c5, ys ++ [j], by omega, by simp; omega, by go_num, by simp, HO5, HA5, hc5, B5⟩
        case measure => simp [intOf]; omega
      · go_wp2
        go_ret
        exact ⟨g, uc, ys, rfl, HO3.out.low (by omega), by omega, HA.out, U1.trans (B3.below hcb (by omega))⟩

end Go.Proofs.Ytnbeaeekfahijaa
