/- Two jobs drawn. -/
import Derived.Test.YtaoimijeaacaiaaJobDraw3
import Derived.Deep.RegionHeld3
namespace Go.Proofs.Ytaoimijeaacaiaa
open Go.RowKit Go.Sort

/-- block R holds a small job -/
def SmallAt (R : Nat) (w : World) : Prop := ∃ j : Jb, jsmall j ∧ w.heap[R]? = some (.cells #[.int .i64 j.id, .int .i64 j.cores, .int .i64 j.long, .int .i64 j.due, .int .i64 j.wt, .int .i64 j.rank, .int .i64 j.at_] 28 (0, 0))
theorem SmallAt.keep {R : Nat} {w w' : World} (h : SmallAt R w) (hb : w'.heap[R]? = w.heap[R]?) : SmallAt R w' := by
  obtain ⟨j, h1, h2⟩ := h; exact ⟨j, h1, hb.trans h2⟩
theorem SmallAt.store {R : Nat} {w : World} (h : SmallAt R w) {j : Jb} (hj : jsmall j) : SmallAt R (((((((w.setCell ⟨R, 0, none⟩ (.int .i64 j.id)).setCell ⟨R, 1, none⟩ (.int .i64 j.cores)).setCell ⟨R, 2, none⟩ (.int .i64 j.long)).setCell ⟨R, 3, none⟩ (.int .i64 j.due)).setCell ⟨R, 4, none⟩ (.int .i64 j.wt)).setCell ⟨R, 5, none⟩ (.int .i64 j.rank)).setCell ⟨R, 6, none⟩ (.int .i64 j.at_)) := by
  obtain ⟨k, _, h2⟩ := h
  refine ⟨j, hj, ?_⟩
  have := blk_set (j := 6) (blk_set (j := 5) (blk_set (j := 4) (blk_set (j := 3) (blk_set (j := 2) (blk_set (j := 1) (blk_set (j := 0) h2 (.int .i64 j.id)) (.int .i64 j.cores)) (.int .i64 j.long)) (.int .i64 j.due)) (.int .i64 j.wt)) (.int .i64 j.rank)) (.int .i64 j.at_)
  simp only [List.setIfInBounds_toArray, List.set_cons_zero, List.set_cons_succ] at this
  exact this
theorem set7_other (w : World) (R : Nat) (j : Jb) (k : Nat) (hk : k ≠ R) : (((((((w.setCell ⟨R, 0, none⟩ (.int .i64 j.id)).setCell ⟨R, 1, none⟩ (.int .i64 j.cores)).setCell ⟨R, 2, none⟩ (.int .i64 j.long)).setCell ⟨R, 3, none⟩ (.int .i64 j.due)).setCell ⟨R, 4, none⟩ (.int .i64 j.wt)).setCell ⟨R, 5, none⟩ (.int .i64 j.rank)).setCell ⟨R, 6, none⟩ (.int .i64 j.at_)).heap[k]? = w.heap[k]? :=
  ((((((Below.heap_setCell _ _ _ _ hk).trans (Below.heap_setCell _ _ _ _ hk)).trans (Below.heap_setCell _ _ _ _ hk)).trans (Below.heap_setCell _ _ _ _ hk)).trans (Below.heap_setCell _ _ _ _ hk)).trans (Below.heap_setCell _ _ _ _ hk)).trans (Below.heap_setCell _ _ _ _ hk)
theorem set7_size (w : World) (R : Nat) (j : Jb) : (((((((w.setCell ⟨R, 0, none⟩ (.int .i64 j.id)).setCell ⟨R, 1, none⟩ (.int .i64 j.cores)).setCell ⟨R, 2, none⟩ (.int .i64 j.long)).setCell ⟨R, 3, none⟩ (.int .i64 j.due)).setCell ⟨R, 4, none⟩ (.int .i64 j.wt)).setCell ⟨R, 5, none⟩ (.int .i64 j.rank)).setCell ⟨R, 6, none⟩ (.int .i64 j.at_)).heap.size = w.heap.size := by simp [World.setCell]

/-- what holds while the two are drawn: both result blocks hold small jobs; the cursor; the first one's own block -/
structure HeldD (w : World) (cb T5 : Nat) (j : Jb) (a : Option Addr) (n cap : Nat) (zs : List Int) (W : World) : Prop where
  r0 : SmallAt w.heap.size W
  r1 : SmallAt (w.heap.size + 1) W
  cur : CurAt W cb a n cap zs
  low : 0 < n → ∀ b off, a = some ⟨b, off, none⟩ → b < w.heap.size
  bel : Below w.heap.size w W
  ne : w.heap.size + 1 < cb ∧ cb ≠ T5 ∧ w.heap.size + 1 < T5
  box : W.heap[T5]? = some (.cells #[.int .i64 j.id, .int .i64 j.cores, .int .i64 j.long, .int .i64 j.due, .int .i64 j.wt, .int .i64 j.rank, .int .i64 j.at_] 28 (0, 0))

theorem CurAt.setLow {w w' : World} {cb R : Nat} {a : Option Addr} {n cap : Nat} {zs : List Int} (h : CurAt w cb a n cap zs) (hk : ∀ k, k ≠ R → w'.heap[k]? = w.heap[k]?) (hz : w'.heap.size = w.heap.size) (hR : cb ≠ R) (hb : 0 < n → ∀ b off, a = some ⟨b, off, none⟩ → b ≠ R) : CurAt w' cb a n cap zs := by
  obtain ⟨h1, h2, h3, i, z, h4, h5⟩ := h
  refine ⟨h1, ⟨h2.le, h2.mx, h2.bd, fun hn => ?_⟩, h3, i, z, h4, by rw [hk cb hR]; exact h5⟩
  obtain ⟨b, off, e, g1, g2⟩ := h2.at_ hn
  exact ⟨b, off, e, by omega, fun i hi => (World.cell?_of_block (w := w) (a := ⟨b, off + i, none⟩) (hk b (hb hn b off e))).trans (g2 i hi)⟩

theorem HeldD.but {w W W' : World} {cb T5 : Nat} {j : Jb} {a : Option Addr} {n cap : Nat} {zs : List Int} (h : HeldD w cb T5 j a n cap zs W) (c : CurAt W' cb a n cap zs) (b : But cb W W') : HeldD w cb T5 j a n cap zs W' := by
  have hl5 := lt_of_block h.box
  obtain ⟨e1, e2, e3⟩ := h.ne
  have hc := h.cur.lt
  exact ⟨h.r0.keep (b.block _ (by omega) (by omega)), h.r1.keep (b.block _ (by omega) (by omega)), c, h.low, h.bel.trans (b.below (by omega) (by omega)), h.ne, (b.block _ hl5 (Ne.symm e2)).trans h.box⟩
theorem HeldD.drew {w W : World} {cb T5 : Nat} {j : Jb} {a : Option Addr} {n cap : Nat} {zs : List Int} (h : HeldD w cb T5 j a n cap zs W) : HeldD w cb T5 j a n cap zs W.drew := ⟨h.r0, h.r1, h.cur.but (Below.refl _ _).drew h.cur.lt, h.low, h.bel.drew, h.ne, h.box⟩
theorem set7_below (w : World) (R b : Nat) (j : Jb) (hb : b ≤ R) : Below b w (((((((w.setCell ⟨R, 0, none⟩ (.int .i64 j.id)).setCell ⟨R, 1, none⟩ (.int .i64 j.cores)).setCell ⟨R, 2, none⟩ (.int .i64 j.long)).setCell ⟨R, 3, none⟩ (.int .i64 j.due)).setCell ⟨R, 4, none⟩ (.int .i64 j.wt)).setCell ⟨R, 5, none⟩ (.int .i64 j.rank)).setCell ⟨R, 6, none⟩ (.int .i64 j.at_)) :=
  (((((((Below.refl b w).setCell (p := ⟨R, 0, none⟩) hb _).setCell (p := ⟨R, 1, none⟩) hb _).setCell (p := ⟨R, 2, none⟩) hb _).setCell (p := ⟨R, 3, none⟩) hb _).setCell (p := ⟨R, 4, none⟩) hb _).setCell (p := ⟨R, 5, none⟩) hb _).setCell (p := ⟨R, 6, none⟩) hb _
theorem HeldD.set {w W W' : World} {cb T5 R : Nat} {j : Jb} {a : Option Addr} {n cap : Nat} {zs : List Int} (h : HeldD w cb T5 j a n cap zs W) (ho : ∀ k, k ≠ R → W'.heap[k]? = W.heap[k]?) (hz : W'.heap.size = W.heap.size) (hb : Below w.heap.size W W') (hR : R = w.heap.size ∨ R = w.heap.size + 1) (hs : SmallAt R W') : HeldD w cb T5 j a n cap zs W' := by
  obtain ⟨e1, e2, e3⟩ := h.ne
  have hc := h.cur.setLow ho hz (by omega) (fun hn b off e => by have := h.low hn b off e; omega)
  have hbx := (ho T5 (by omega)).trans h.box
  have hbe := h.bel.trans hb
  rcases hR with rfl | rfl
  · exact ⟨hs, h.r1.keep (ho _ (by omega)), hc, h.low, hbe, h.ne, hbx⟩
  · exact ⟨h.r0.keep (ho _ (by omega)), hs, hc, h.low, hbe, h.ne, hbx⟩
theorem HeldD.store0 {w W : World} {cb T5 : Nat} {j x : Jb} {a : Option Addr} {n cap : Nat} {zs : List Int} (h : HeldD w cb T5 j a n cap zs W) (hx : jsmall x) : HeldD w cb T5 j a n cap zs (((((((W.setCell ⟨w.heap.size, 0, none⟩ (.int .i64 x.id)).setCell ⟨w.heap.size, 1, none⟩ (.int .i64 x.cores)).setCell ⟨w.heap.size, 2, none⟩ (.int .i64 x.long)).setCell ⟨w.heap.size, 3, none⟩ (.int .i64 x.due)).setCell ⟨w.heap.size, 4, none⟩ (.int .i64 x.wt)).setCell ⟨w.heap.size, 5, none⟩ (.int .i64 x.rank)).setCell ⟨w.heap.size, 6, none⟩ (.int .i64 x.at_)) :=
  h.set (set7_other W w.heap.size x) (set7_size W w.heap.size x) (set7_below W w.heap.size w.heap.size x (Nat.le_refl _)) (Or.inl rfl) (h.r0.store hx)
theorem HeldD.store1 {w W : World} {cb T5 : Nat} {j x : Jb} {a : Option Addr} {n cap : Nat} {zs : List Int} (h : HeldD w cb T5 j a n cap zs W) (hx : jsmall x) : HeldD w cb T5 j a n cap zs (((((((W.setCell ⟨w.heap.size + 1, 0, none⟩ (.int .i64 x.id)).setCell ⟨w.heap.size + 1, 1, none⟩ (.int .i64 x.cores)).setCell ⟨w.heap.size + 1, 2, none⟩ (.int .i64 x.long)).setCell ⟨w.heap.size + 1, 3, none⟩ (.int .i64 x.due)).setCell ⟨w.heap.size + 1, 4, none⟩ (.int .i64 x.wt)).setCell ⟨w.heap.size + 1, 5, none⟩ (.int .i64 x.rank)).setCell ⟨w.heap.size + 1, 6, none⟩ (.int .i64 x.at_)) :=
  h.set (set7_other W (w.heap.size + 1) x) (set7_size W (w.heap.size + 1) x) (set7_below W (w.heap.size + 1) w.heap.size x (by omega)) (Or.inr rfl) (h.r1.store hx)

theorem blk7 {w : World} {B : Nat} {j : Jb} (h : w.heap[B]? = some (.cells #[.int .i64 j.id, .int .i64 j.cores, .int .i64 j.long, .int .i64 j.due, .int .i64 j.wt, .int .i64 j.rank, .int .i64 j.at_] 28 (0, 0))) : (w.cell? ⟨B, 0, none⟩ = some (.int .i64 j.id) ∧ w.cell? ⟨B, 1, none⟩ = some (.int .i64 j.cores) ∧ w.cell? ⟨B, 2, none⟩ = some (.int .i64 j.long) ∧ w.cell? ⟨B, 3, none⟩ = some (.int .i64 j.due) ∧ w.cell? ⟨B, 4, none⟩ = some (.int .i64 j.wt) ∧ w.cell? ⟨B, 5, none⟩ = some (.int .i64 j.rank) ∧ w.cell? ⟨B, 6, none⟩ = some (.int .i64 j.at_)) ∧ (w.frozen? ⟨B, 0, none⟩ = false ∧ w.frozen? ⟨B, 1, none⟩ = false ∧ w.frozen? ⟨B, 2, none⟩ = false ∧ w.frozen? ⟨B, 3, none⟩ = false ∧ w.frozen? ⟨B, 4, none⟩ = false ∧ w.frozen? ⟨B, 5, none⟩ = false ∧ w.frozen? ⟨B, 6, none⟩ = false) := by
  simp [World.cell?, World.frozen?, h]

set_option maxRecDepth 8000 in
set_option maxHeartbeats 4000000 in
theorem drawAhead_any (a : Option Addr) (n cap : Nat) (zs : List Int) (w : World) (h : IsBytes w a n cap zs) (hn : n ≤ 4096) :
    Calls Try.prog 17 #[.slice a n cap] w fun e w' => ∃ j k : Jb, e = .returned (.tuple #[.agg #[.int .i64 j.id, .int .i64 j.cores, .int .i64 j.long, .int .i64 j.due, .int .i64 j.wt, .int .i64 j.rank, .int .i64 j.at_], .agg #[.int .i64 k.id, .int .i64 k.cores, .int .i64 k.long, .int .i64 k.due, .int .i64 k.wt, .int .i64 k.rank, .int .i64 k.at_]]) ∧ jsmall j ∧ jsmall k ∧ Below w.heap.size w w' := by
  have bw : Below w.heap.size w ((w.alloc (.cells #[.int .i64 0, .int .i64 0, .int .i64 0, .int .i64 0, .int .i64 0, .int .i64 0, .int .i64 0] 28)).alloc (.cells #[.int .i64 0, .int .i64 0, .int .i64 0, .int .i64 0, .int .i64 0, .int .i64 0, .int .i64 0] 28)) := box_below0.alloc (by simp) _
  have hsz : jsmall jb0 := by
    intro c hc
    obtain rfl | rfl | rfl | rfl | rfl | rfl | rfl : c = 0 ∨ c = 1 ∨ c = 2 ∨ c = 3 ∨ c = 4 ∨ c = 5 ∨ c = 6 := by omega
    all_goals (simp only [jc, jb0]; omega)
  go_enter Try.func17, Try.ntmps17
  go_wp2_with fail
  obtain ⟨W, hW⟩ : ∃ W, W = (w.alloc (.cells #[.int .i64 0, .int .i64 0, .int .i64 0, .int .i64 0, .int .i64 0, .int .i64 0, .int .i64 0] 28)).alloc (.cells #[.int .i64 0, .int .i64 0, .int .i64 0, .int .i64 0, .int .i64 0, .int .i64 0, .int .i64 0] 28) := ⟨_, rfl⟩
  rw [← hW]
  have HB0 : SmallAt w.heap.size W := ⟨jb0, hsz, by rw [hW]; exact (Below.heap_alloc _ _ _ (by simp)).trans (heap_alloc_new _ _)⟩
  have HB1 : SmallAt (w.heap.size + 1) W := ⟨jb0, hsz, by
    have := heap_alloc_new (w.alloc (.cells #[.int .i64 0, .int .i64 0, .int .i64 0, .int .i64 0, .int .i64 0, .int .i64 0, .int .i64 0] 28)) (.cells #[.int .i64 0, .int .i64 0, .int .i64 0, .int .i64 0, .int .i64 0, .int .i64 0, .int .i64 0] 28)
    rw [show (w.alloc (.cells #[.int .i64 0, .int .i64 0, .int .i64 0, .int .i64 0, .int .i64 0, .int .i64 0, .int .i64 0] 28)).heap.size = w.heap.size + 1 by simp] at this
    rw [hW]; exact this⟩
  have BW : Below w.heap.size w W := by rw [hW]; exact bw
  have hz : w.heap.size + 2 ≤ W.heap.size := by rw [hW]; simp
  clear hW bw
  refine (l1New_any a n cap zs _ (h.below BW) hn).mono ?_
  rintro e w1 ⟨cb, rfl, hcb, c1, U1⟩
  go_wp2_with fail
  refine (l3DrawJob_any cb a n cap zs 1 _ c1 (by omega) (by omega)).mono ?_
  rintro e w2 ⟨j, rfl, hid, hsj, c2, b2⟩
  clear hid
  have z1 := U1.size
  have hcb2 := c2.lt
  have V2 : Below W.heap.size W w2 := U1.trans (b2.below hcb z1)
  have hlow : 0 < n → ∀ b off, a = some ⟨b, off, none⟩ → b < w.heap.size := fun hp b off e => by
    obtain ⟨b', off', e', h1, _⟩ := h.at_ hp
    rw [e] at e'; cases e'; exact h1
  have z2 := V2.size
  have H0 : HeldD w cb w2.heap.size j a n cap zs (w2.alloc (.cells #[.int .i64 j.id, .int .i64 j.cores, .int .i64 j.long, .int .i64 j.due, .int .i64 j.wt, .int .i64 j.rank, .int .i64 j.at_] 28)) :=
    ⟨HB0.keep ((Below.heap_alloc _ _ _ (by omega)).trans (V2.block _ (by omega))), HB1.keep ((Below.heap_alloc _ _ _ (by omega)).trans (V2.block _ (by omega))), c2.but box_below0 c2.lt, hlow, (BW.trans (V2.mono (by omega))).alloc (by omega) _, ⟨by omega, by omega, by omega⟩, heap_alloc_new _ _⟩
  go_wp2
  generalize w2.alloc (.cells #[.int .i64 j.id, .int .i64 j.cores, .int .i64 j.long, .int .i64 j.due, .int .i64 j.wt, .int .i64 j.rank, .int .i64 j.at_] 28) = W0 at H0 ⊢
  generalize hT5 : w2.heap.size = T5 at H0 ⊢
  clear hT5 V2 z2 hlow c2 b2 c1 U1 HB0 HB1 BW hcb2
  obtain ⟨ja, hja, ka⟩ := H0.r0
  obtain ⟨jb, hjb, kb⟩ := H0.r1
  have A0 := blk7 ka
  have A1 := blk7 kb
  have hne1 : w.heap.size ≠ w.heap.size + 1 := by omega
  clear ka kb
  have KB : ∀ {W}, (W.cell? ⟨T5, 0, none⟩ = some (.int .i64 j.id) ∧ W.cell? ⟨T5, 1, none⟩ = some (.int .i64 j.cores) ∧ W.cell? ⟨T5, 2, none⟩ = some (.int .i64 j.long) ∧ W.cell? ⟨T5, 3, none⟩ = some (.int .i64 j.due) ∧ W.cell? ⟨T5, 4, none⟩ = some (.int .i64 j.wt) ∧ W.cell? ⟨T5, 5, none⟩ = some (.int .i64 j.rank) ∧ W.cell? ⟨T5, 6, none⟩ = some (.int .i64 j.at_) ∧ HeldD w cb T5 j a n cap zs W) → HeldD w cb T5 j a n cap zs W := fun h => h.2.2.2.2.2.2.2
  have KK : ∀ W, HeldD w cb T5 j a n cap zs W → (W.cell? ⟨T5, 0, none⟩ = some (.int .i64 j.id) ∧ W.cell? ⟨T5, 1, none⟩ = some (.int .i64 j.cores) ∧ W.cell? ⟨T5, 2, none⟩ = some (.int .i64 j.long) ∧ W.cell? ⟨T5, 3, none⟩ = some (.int .i64 j.due) ∧ W.cell? ⟨T5, 4, none⟩ = some (.int .i64 j.wt) ∧ W.cell? ⟨T5, 5, none⟩ = some (.int .i64 j.rank) ∧ W.cell? ⟨T5, 6, none⟩ = some (.int .i64 j.at_) ∧ HeldD w cb T5 j a n cap zs W) := fun W hW => by
    obtain ⟨p0, p1, p2, p3, p4, p5, p6⟩ := (blk7 hW.box).1
    exact ⟨p0, p1, p2, p3, p4, p5, p6, hW⟩
  have HKK : Hid _ := KK
  clear KK
  go_region_held3 (fun w' => w'.cell? ⟨T5, 0, none⟩ = some (.int .i64 j.id) ∧ w'.cell? ⟨T5, 1, none⟩ = some (.int .i64 j.cores) ∧ w'.cell? ⟨T5, 2, none⟩ = some (.int .i64 j.long) ∧ w'.cell? ⟨T5, 3, none⟩ = some (.int .i64 j.due) ∧ w'.cell? ⟨T5, 4, none⟩ = some (.int .i64 j.wt) ∧ w'.cell? ⟨T5, 5, none⟩ = some (.int .i64 j.rank) ∧ w'.cell? ⟨T5, 6, none⟩ = some (.int .i64 j.at_) ∧ HeldD w cb T5 j a n cap zs w') ((refine HKK.out _ ?_; first | (with_reducible exact H0.drew) | (with_reducible exact SB) | (with_reducible refine HeldD.store0 ?_ hsj; exact KB (by assumption)) | (with_reducible refine HeldD.store1 ?_ hsk; exact KB (by assumption)))) (first
    | (go_at_call 57
       refine (l1Below_any cb a n cap zs 2 _ (KB (by assumption)).cur (by omega) (by omega)).mono ?_
       rintro e w3 ⟨x, rfl, x0, x1, c3, b3⟩
       have wx : IntKind.i64.wrap (1 + x) = 1 + x := by rw [IntKind.wrap_i64]; omega
       have SB : HeldD w cb T5 j a n cap zs w3 := (KB (by assumption)).but c3 b3
       obtain ⟨ja3, hja3, ka3⟩ := SB.r0
       obtain ⟨jb3, hjb3, kb3⟩ := SB.r1
       have A0 := blk7 ka3
       have A1 := blk7 kb3
       clear ka3 kb3 c3 b3)
    | (go_at_call 56
       refine (l3DrawJob_any cb a n cap zs (1 + x) _ (KB (by assumption)).cur (by omega) (by omega)).mono ?_
       rintro e w4 ⟨k, rfl, hid, hsk, c4, b4⟩
       clear hid
       have SB : HeldD w cb T5 j a n cap zs w4 := (KB (by assumption)).but c4 b4
       obtain ⟨ja4, hja4, ka4⟩ := SB.r0
       obtain ⟨jb4, hjb4, kb4⟩ := SB.r1
       have A0 := blk7 ka4
       have A1 := blk7 kb4
       clear ka4 kb4 c4 b4))
  clear A0 A1
  go_wp2
  have FH : HeldD w cb T5 j a n cap zs ((((((((((((((w4.setCell ⟨w.heap.size, 0, none⟩ (.int .i64 j.id)).setCell ⟨w.heap.size, 1, none⟩ (.int .i64 j.cores)).setCell ⟨w.heap.size, 2, none⟩ (.int .i64 j.long)).setCell ⟨w.heap.size, 3, none⟩ (.int .i64 j.due)).setCell ⟨w.heap.size, 4, none⟩ (.int .i64 j.wt)).setCell ⟨w.heap.size, 5, none⟩ (.int .i64 j.rank)).setCell ⟨w.heap.size, 6, none⟩ (.int .i64 j.at_)).setCell ⟨w.heap.size + 1, 0, none⟩ (.int .i64 k.id)).setCell ⟨w.heap.size + 1, 1, none⟩ (.int .i64 k.cores)).setCell ⟨w.heap.size + 1, 2, none⟩ (.int .i64 k.long)).setCell ⟨w.heap.size + 1, 3, none⟩ (.int .i64 k.due)).setCell ⟨w.heap.size + 1, 4, none⟩ (.int .i64 k.wt)).setCell ⟨w.heap.size + 1, 5, none⟩ (.int .i64 k.rank)).setCell ⟨w.heap.size + 1, 6, none⟩ (.int .i64 k.at_)) := (SB.store0 hsj).store1 hsk
  generalize ((((((((((((((w4.setCell ⟨w.heap.size, 0, none⟩ (.int .i64 j.id)).setCell ⟨w.heap.size, 1, none⟩ (.int .i64 j.cores)).setCell ⟨w.heap.size, 2, none⟩ (.int .i64 j.long)).setCell ⟨w.heap.size, 3, none⟩ (.int .i64 j.due)).setCell ⟨w.heap.size, 4, none⟩ (.int .i64 j.wt)).setCell ⟨w.heap.size, 5, none⟩ (.int .i64 j.rank)).setCell ⟨w.heap.size, 6, none⟩ (.int .i64 j.at_)).setCell ⟨w.heap.size + 1, 0, none⟩ (.int .i64 k.id)).setCell ⟨w.heap.size + 1, 1, none⟩ (.int .i64 k.cores)).setCell ⟨w.heap.size + 1, 2, none⟩ (.int .i64 k.long)).setCell ⟨w.heap.size + 1, 3, none⟩ (.int .i64 k.due)).setCell ⟨w.heap.size + 1, 4, none⟩ (.int .i64 k.wt)).setCell ⟨w.heap.size + 1, 5, none⟩ (.int .i64 k.rank)).setCell ⟨w.heap.size + 1, 6, none⟩ (.int .i64 k.at_)) = WF at FH ⊢
  obtain ⟨x0, hx0, kx⟩ := FH.r0
  obtain ⟨x1, hx1, ky⟩ := FH.r1
  obtain ⟨⟨g0, g1, g2, g3, g4, g5, g6⟩, _⟩ := blk7 kx
  obtain ⟨⟨q0, q1, q2, q3, q4, q5, q6⟩, _⟩ := blk7 ky
  exact bodyPost_ret (v := .tuple #[.agg #[.int .i64 x0.id, .int .i64 x0.cores, .int .i64 x0.long, .int .i64 x0.due, .int .i64 x0.wt, .int .i64 x0.rank, .int .i64 x0.at_], .agg #[.int .i64 x1.id, .int .i64 x1.cores, .int .i64 x1.long, .int .i64 x1.due, .int .i64 x1.wt, .int .i64 x1.rank, .int .i64 x1.at_]]) (by simp [results, Try.results17, go_sem, g0, g1, g2, g3, g4, g5, g6, q0, q1, q2, q3, q4, q5, q6]) rfl ⟨x0, x1, rfl, hx0, hx1, FH.bel⟩

end Go.Proofs.Ytaoimijeaacaiaa
