/- Profiles drawn, one of them turned. -/
import Derived.Test.YtcmpenlgkccgkaaProfDraw
import Derived.Outline
import Derived.Test.YtcmpenlgkccgkaaPkC
namespace Go.Proofs.Ytcmpenlgkccgkaa
open Go.RowKit

theorem levs_keep {W W' : World} {v : Option Addr} {n c : Nat} {ls : List Lev} (h : LevS W v n c ls) (hk : ∀ b off, v = some ⟨b, off, none⟩ → b < W.heap.size → W'.heap[b]? = W.heap[b]?) (hz : W.heap.size ≤ W'.heap.size) : LevS W' v n c ls :=
  ⟨h.len, h.le, h.mx, h.nil, h.wf, fun hn => by
    obtain ⟨b, off, e, h1, h2⟩ := h.at_ hn
    have hb := hk b off e h1
    exact ⟨b, off, e, by omega, fun i hi => ⟨(World.cell?_of_block (w := W) (a := ⟨b, off + i * 2, none⟩) hb).trans (h2 i hi).1, (World.cell?_of_block (w := W) (a := ⟨b, off + i * 2 + 1, none⟩) hb).trans (h2 i hi).2⟩⟩⟩

theorem cellAt {W : World} {B k : Nat} {L : Array Value} {T : TypeId} {v : Value} (h : W.heap[B]? = some (.cells L T (0, 0))) (hv : L[k]? = some v) : W.cell? ⟨B, k, none⟩ = some v := by
  simp [World.cell?, h, hv]

/-- what holds once a profile is drawn: block P holds it -/
structure DrawA (w : World) (cb P : Nat) (T : Int) (v : Option Addr) (m c' : Nat) (ls : List Lev) (a : Option Addr) (n cap : Nat) (zs : List Int) (W : World) : Prop where
  rb : W.heap[w.heap.size]? = some (.cells #[.int .i64 0, .slice none 0 0] 38 (0, 0))
  pb : W.heap[P]? = some (.cells #[.int .i64 T, .slice v m c'] 38 (0, 0))
  lv : LevS W v m c' ls
  vb : ∀ b off, v = some ⟨b, off, none⟩ → w.heap.size < b ∧ b ≠ P
  tb : -1 ≤ T ∧ T ≤ 1001
  nb : m ≤ 201
  cur : CurAt W cb a n cap zs
  but : But cb w W
  ne : cb < w.heap.size ∧ w.heap.size < P

theorem DrawA.step {w W W' : World} {cb P m c' : Nat} {T : Int} {v : Option Addr} {ls : List Lev} {a : Option Addr} {n cap : Nat} {zs : List Int} (h : DrawA w cb P T v m c' ls a n cap zs W) (k : CurAt W' cb a n cap zs) (b : But cb W W') : DrawA w cb P T v m c' ls a n cap zs W' := by
  obtain ⟨e1, e2⟩ := h.ne
  exact ⟨(b.block _ (lt_of_block h.rb) (by omega)).trans h.rb, (b.block _ (lt_of_block h.pb) (by omega)).trans h.pb, levs_keep h.lv (fun b' off e hlt => b.block _ hlt (by have := h.vb b' off e; omega)) b.size, h.vb, h.tb, h.nb, k, h.but.trans b, h.ne⟩
theorem DrawA.below {w W W' : World} {cb P m c' : Nat} {T : Int} {v : Option Addr} {ls : List Lev} {a : Option Addr} {n cap : Nat} {zs : List Int} (h : DrawA w cb P T v m c' ls a n cap zs W) (b : Below W.heap.size W W') : DrawA w cb P T v m c' ls a n cap zs W' := h.step (h.cur.but b h.cur.lt) (But.of b)

theorem levD_drop {w : World} {g c : Nat} {ls : List Lev} (h : LevD w g ls.length c ls) (hm : c ≤ maxLen) (wf : ∀ i, i < ls.length → (-9223372036854775808 ≤ fr ls i ∧ fr ls i ≤ 9223372036854775807) ∧ (-9223372036854775808 ≤ fe ls i ∧ fe ls i ≤ 9223372036854775807)) (n1 : 1 ≤ ls.length) : LevS w (some ⟨g, 2, none⟩) (ls.length - 1) (c - 1) (ls.drop 1) := by
  have ef : ∀ i, fr (ls.drop 1) i = fr ls (i + 1) ∧ fe (ls.drop 1) i = fe ls (i + 1) := fun i => by simp [fr, fe]
  obtain ⟨cur, h1, h2, h3, h4⟩ := h
  refine ⟨by simp, by omega, by omega, (fun e => by cases e), fun i hi => ?_, fun _ => ⟨g, 2, rfl, lt_of_block h1, fun i hi => ?_⟩⟩
  · rw [(ef i).1, (ef i).2]; exact wf (i + 1) (by omega)
  · have hi' : i + 1 < ls.length := by simp at hi; omega
    obtain ⟨a0, a1⟩ := h4 (i + 1) hi'
    rw [(ef i).1, (ef i).2, show 2 + i * 2 = (i + 1) * 2 by omega]
    exact ⟨by simp [World.cell?, h1, a0], by simp [World.cell?, h1, a1]⟩

/-- stores into the block R alone -/
theorem DrawA.fin {w W : World} {cb P m c' : Nat} {T : Int} {v : Option Addr} {ls : List Lev} {a : Option Addr} {n cap : Nat} {zs : List Int} (h : DrawA w cb P T v m c' ls a n cap zs W) :
    ((W.setCell ⟨w.heap.size, 0, none⟩ (.int .i64 T)).setCell ⟨w.heap.size, 1, none⟩ (.slice v m c')).heap[w.heap.size]? = some (.cells #[.int .i64 T, .slice v m c'] 38 (0, 0)) ∧
    LevS ((W.setCell ⟨w.heap.size, 0, none⟩ (.int .i64 T)).setCell ⟨w.heap.size, 1, none⟩ (.slice v m c')) v m c' ls ∧
    CurAt ((W.setCell ⟨w.heap.size, 0, none⟩ (.int .i64 T)).setCell ⟨w.heap.size, 1, none⟩ (.slice v m c')) cb a n cap zs ∧
    But cb w ((W.setCell ⟨w.heap.size, 0, none⟩ (.int .i64 T)).setCell ⟨w.heap.size, 1, none⟩ (.slice v m c')) := by
  obtain ⟨e1, e2⟩ := h.ne
  obtain ⟨q0, q1⟩ := Proofs.Ytcmpenlgkccgkaa.set2 h.rb (.int .i64 T) (.slice v m c')
  have hs : ((W.setCell ⟨w.heap.size, 0, none⟩ (.int .i64 T)).setCell ⟨w.heap.size, 1, none⟩ (.slice v m c')).heap.size = W.heap.size := by simp [World.setCell]
  exact ⟨q0, levs_keep h.lv (fun b off e _ => q1 b (by have := h.vb b off e; omega)) (by omega), h.cur.setHi q1 hs e1, ⟨h.but.os, h.but.tape, h.but.output, by rw [hs]; exact h.but.size, fun r hr hne => (q1 r (by omega)).trans (h.but.block r hr hne)⟩⟩

theorem DrawA.finA {w W : World} {cb P m c' : Nat} {T : Int} {v : Option Addr} {ls : List Lev} {a : Option Addr} {n cap : Nat} {zs : List Int} (h : DrawA w cb P T v m c' ls a n cap zs W) (o : Obj) :
    (((W.setCell ⟨w.heap.size, 0, none⟩ (.int .i64 T)).setCell ⟨w.heap.size, 1, none⟩ (.slice v m c')).alloc o).heap[w.heap.size]? = some (.cells #[.int .i64 T, .slice v m c'] 38 (0, 0)) ∧
    LevS (((W.setCell ⟨w.heap.size, 0, none⟩ (.int .i64 T)).setCell ⟨w.heap.size, 1, none⟩ (.slice v m c')).alloc o) v m c' ls ∧
    CurAt (((W.setCell ⟨w.heap.size, 0, none⟩ (.int .i64 T)).setCell ⟨w.heap.size, 1, none⟩ (.slice v m c')).alloc o) cb a n cap zs ∧
    But cb w (((W.setCell ⟨w.heap.size, 0, none⟩ (.int .i64 T)).setCell ⟨w.heap.size, 1, none⟩ (.slice v m c')).alloc o) := by
  obtain ⟨F0, F1, F2, F3⟩ := h.fin
  exact ⟨(Below.heap_alloc _ _ _ (lt_of_block F0)).trans F0, F1.below box_below0, F2.but box_below0 F2.lt, F3.alloc o⟩

/-- another Total -/
theorem DrawA.setT {w W : World} {cb P m c' : Nat} {T T' : Int} {v : Option Addr} {ls : List Lev} {a : Option Addr} {n cap : Nat} {zs : List Int} (h : DrawA w cb P T v m c' ls a n cap zs W) (hT : -1 ≤ T' ∧ T' ≤ 1001) : DrawA w cb P T' v m c' ls a n cap zs (W.setCell ⟨P, 0, none⟩ (.int .i64 T')) := by
  obtain ⟨e1, e2⟩ := h.ne
  have q1 : ∀ k, k ≠ P → (W.setCell ⟨P, 0, none⟩ (.int .i64 T')).heap[k]? = W.heap[k]? := fun k hk => Below.heap_setCell _ _ _ _ hk
  have hs : (W.setCell ⟨P, 0, none⟩ (.int .i64 T')).heap.size = W.heap.size := by simp [World.setCell]
  have hp := blk_set (j := 0) h.pb (.int .i64 T')
  simp only [List.setIfInBounds_toArray, List.set_cons_zero] at hp
  exact ⟨(q1 _ (by omega)).trans h.rb, hp, levs_keep h.lv (fun b off e _ => q1 b (h.vb b off e).2) (by omega), h.vb, hT, h.nb, h.cur.setHi q1 hs (by omega), ⟨h.but.os, h.but.tape, h.but.output, by rw [hs]; exact h.but.size, fun r hr hne => (q1 r (by omega)).trans (h.but.block r hr hne)⟩, h.ne⟩

/-- other levels -/
theorem DrawA.setL {w W : World} {cb P m c' m2 c2 : Nat} {T : Int} {v v2 : Option Addr} {ls ls2 : List Lev} {a : Option Addr} {n cap : Nat} {zs : List Int} (h : DrawA w cb P T v m c' ls a n cap zs W) (hl : LevS W v2 m2 c2 ls2) (hv : ∀ b off, v2 = some ⟨b, off, none⟩ → w.heap.size < b ∧ b ≠ P) (hm : m2 ≤ 201) : DrawA w cb P T v2 m2 c2 ls2 a n cap zs (W.setCell ⟨P, 1, none⟩ (.slice v2 m2 c2)) := by
  obtain ⟨e1, e2⟩ := h.ne
  have q1 : ∀ k, k ≠ P → (W.setCell ⟨P, 1, none⟩ (.slice v2 m2 c2)).heap[k]? = W.heap[k]? := fun k hk => Below.heap_setCell _ _ _ _ hk
  have hs : (W.setCell ⟨P, 1, none⟩ (.slice v2 m2 c2)).heap.size = W.heap.size := by simp [World.setCell]
  have hp := blk_set (j := 1) h.pb (.slice v2 m2 c2)
  simp only [List.setIfInBounds_toArray, List.set_cons_succ, List.set_cons_zero] at hp
  exact ⟨(q1 _ (by omega)).trans h.rb, hp, levs_keep hl (fun b off e _ => q1 b (hv b off e).2) (by omega), hv, h.tb, hm, h.cur.setHi q1 hs (by omega), ⟨h.but.os, h.but.tape, h.but.output, by rw [hs]; exact h.but.size, fun r hr hne => (q1 r (by omega)).trans (h.but.block r hr hne)⟩, h.ne⟩

theorem LevD.cell1 {w : World} {g c : Nat} {ls : List Lev} (h : LevD w g ls.length c ls) (n1 : 1 ≤ ls.length) : w.cell? ⟨g, 1, none⟩ = some (.int .i64 (fe ls 0)) ∧ w.frozen? ⟨g, 1, none⟩ = false := by
  obtain ⟨cur, h1, h2, h3, h4⟩ := h
  have := (h4 0 (by omega)).2
  exact ⟨by simpa [World.cell?, h1] using this, by simp [World.frozen?, h1]⟩
/-- the first level's Free turned -/
theorem DrawA.setG {w W : World} {cb P c g : Nat} {T x : Int} {ls : List Lev} {a : Option Addr} {n cap : Nat} {zs : List Int} (h : DrawA w cb P T (some ⟨g, 0, none⟩) ls.length c ls a n cap zs W) (d : LevD W g ls.length c ls) (n1 : 1 ≤ ls.length) (hx : -1000 ≤ x ∧ x ≤ 1000) : DrawA w cb P T (some ⟨g, 0, none⟩) ls.length c (ls.set 0 (fr ls 0, x)) a n cap zs (W.setCell ⟨g, 1, none⟩ (.int .i64 x)) := by
  obtain ⟨e1, e2⟩ := h.ne
  obtain ⟨v1, v2⟩ := h.vb g 0 rfl
  have q1 : ∀ k, k ≠ g → (W.setCell ⟨g, 1, none⟩ (.int .i64 x)).heap[k]? = W.heap[k]? := fun k hk => Below.heap_setCell _ _ _ _ hk
  have hs : (W.setCell ⟨g, 1, none⟩ (.int .i64 x)).heap.size = W.heap.size := by simp [World.setCell]
  have ef : ∀ i, i < ls.length → fr (ls.set 0 (fr ls 0, x)) i = fr ls i ∧ fe (ls.set 0 (fr ls 0, x)) i = if i = 0 then x else fe ls i := fun i hi => by
    by_cases e : i = 0
    · subst e; simp [fr, fe, hi]
    · rw [if_neg e]; simp only [fr, fe]; rw [List.getElem?_set_ne (by omega)]; exact ⟨rfl, rfl⟩
  have hlv := h.lv
  obtain ⟨cur, h1, h2, h3, h4⟩ := d
  have hb := blk_set (j := 1) h1 (.int .i64 x)
  have HL : LevS (W.setCell ⟨g, 1, none⟩ (.int .i64 x)) (some ⟨g, 0, none⟩) ls.length c (ls.set 0 (fr ls 0, x)) := by
    refine ⟨by simp, hlv.le, hlv.mx, (fun e => by cases e), fun i hi => ?_, fun _ => ⟨g, 0, rfl, by rw [hs]; exact lt_of_block h1, fun i hi => ?_⟩⟩
    · obtain ⟨f1, f2⟩ := ef i hi
      have := hlv.wf i hi
      rw [f1, f2]
      split <;> omega
    · have hi' : i < ls.length := by simpa using hi
      obtain ⟨f1, f2⟩ := ef i hi'
      obtain ⟨a0, a1⟩ := h4 i hi'
      rw [f1, f2, Nat.zero_add]
      have k0 : (cur.setIfInBounds 1 (.int .i64 x))[i * 2]? = some (.int .i64 (fr ls i)) := by rw [Array.getElem?_setIfInBounds, if_neg (by omega)]; exact a0
      have k1 : (cur.setIfInBounds 1 (.int .i64 x))[i * 2 + 1]? = some (.int .i64 (if i = 0 then x else fe ls i)) := by
        rw [Array.getElem?_setIfInBounds]
        by_cases e : i = 0
        · subst e; rw [if_pos rfl, if_pos (by omega), if_pos rfl]
        · rw [if_neg (by omega), if_neg e]; exact a1
      exact ⟨cellAt hb k0, cellAt hb k1⟩
  exact ⟨(q1 _ (by omega)).trans h.rb, (q1 _ (by omega)).trans h.pb, HL, h.vb, h.tb, h.nb, h.cur.setHi q1 hs (by omega), ⟨h.but.os, h.but.tape, h.but.output, by rw [hs]; exact h.but.size, fun r hr hne => (q1 r (by omega)).trans (h.but.block r hr hne)⟩, h.ne⟩

theorem l1From_any (cb : Nat) (a : Option Addr) (n cap : Nat) (zs : List Int) (lo hi : Int) (w : World) (h : CurAt w cb a n cap zs) (h0 : -100 ≤ lo) (h1 : lo ≤ hi) (h2 : hi ≤ 100) :
    Calls Try.prog 78 #[.pointer (some ⟨cb, 0, none⟩), .int .i64 lo, .int .i64 hi] w fun e w' => ∃ x : Int, e = .returned (.int .i64 x) ∧ lo ≤ x ∧ x ≤ hi ∧ CurAt w' cb a n cap zs ∧ But cb w w' := by
  go_enter Try.func78, Try.ntmps78
  go_wp2_with fail
  refine (l1Below_any cb a n cap zs (hi - lo + 1) _ h (by omega) (by omega)).mono ?_
  rintro e w1 ⟨x, rfl, x0, x1, c1, b1⟩
  go_wp2
  go_ret
  exact ⟨lo + x, rfl, by omega, by omega, c1, b1⟩

theorem tabP_at (T : Int) (hT : 1 ≤ T ∧ T ≤ 8) : ∀ k, k < 5 → ∃ v : Int, (#[Value.int .i64 (-1), .int .i64 0, .int .i64 (T + 1), .int .i64 1000, .int .i64 1001] : Array Value)[k]? = some (.int .i64 v) ∧ -1 ≤ v ∧ v ≤ 1001
  | 0, _ => ⟨_, rfl, by omega⟩
  | 1, _ => ⟨_, rfl, by omega⟩
  | 2, _ => ⟨_, rfl, by omega⟩
  | 3, _ => ⟨_, rfl, by omega⟩
  | 4, _ => ⟨_, rfl, by omega⟩
theorem tabF_at : ∀ k, k < 4 → ∃ v : Int, (#[Value.int .i64 0, .int .i64 99, .int .i64 999999999, .int .i64 1000000000] : Array Value)[k]? = some (.int .i64 v) ∧ 0 ≤ v ∧ v ≤ 1000000000
  | 0, _ => ⟨_, rfl, by omega⟩
  | 1, _ => ⟨_, rfl, by omega⟩
  | 2, _ => ⟨_, rfl, by omega⟩
  | 3, _ => ⟨_, rfl, by omega⟩

/-- a profile drawn, its levels a row with room -/
def KD (w : World) (cb P : Nat) (T : Int) (g c : Nat) (ls : List Lev) (a : Option Addr) (n cap : Nat) (zs : List Int) (W : World) : Prop := DrawA w cb P T (some ⟨g, 0, none⟩) ls.length c ls a n cap zs W ∧ LevD W g ls.length c ls
theorem KD.below {w : World} {cb P : Nat} {T : Int} {g c : Nat} {ls : List Lev} {a : Option Addr} {n cap : Nat} {zs : List Int} {W W' : World} (h : KD w cb P T g c ls a n cap zs W) (b : Below W.heap.size W W') : KD w cb P T g c ls a n cap zs W' := ⟨h.1.below b, h.2.below b⟩
theorem KD.drew {w : World} {cb P : Nat} {T : Int} {g c : Nat} {ls : List Lev} {a : Option Addr} {n cap : Nat} {zs : List Int} {W : World} (h : KD w cb P T g c ls a n cap zs W) : KD w cb P T g c ls a n cap zs W.drew := h.below (Below.refl _ _).drew
theorem KD.alloc {w : World} {cb P : Nat} {T : Int} {g c : Nat} {ls : List Lev} {a : Option Addr} {n cap : Nat} {zs : List Int} {W : World} (h : KD w cb P T g c ls a n cap zs W) (o : Obj) : KD w cb P T g c ls a n cap zs (W.alloc o) := h.below box_below0
theorem KD.step {w : World} {cb P : Nat} {T : Int} {g c : Nat} {ls : List Lev} {a : Option Addr} {n cap : Nat} {zs : List Int} {W W' : World} (h : KD w cb P T g c ls a n cap zs W) (k : CurAt W' cb a n cap zs) (b : But cb W W') : KD w cb P T g c ls a n cap zs W' :=
  ⟨h.1.step k b, h.2.blk (b.block g h.2.lt (by have := (h.1.vb g 0 rfl).1; have := h.1.ne.1; omega))⟩
theorem KD.cur {w : World} {cb P : Nat} {T : Int} {g c : Nat} {ls : List Lev} {a : Option Addr} {n cap : Nat} {zs : List Int} {W : World} (h : KD w cb P T g c ls a n cap zs W) : CurAt W cb a n cap zs := h.1.cur
theorem KD.own {w : World} {cb P : Nat} {T : Int} {g c : Nat} {ls : List Lev} {a : Option Addr} {n cap : Nat} {zs : List Int} {W : World} (h : KD w cb P T g c ls a n cap zs W) : W.ownsRow w.heap.size 80 2 (.slice (some ⟨g, 0, none⟩) ls.length c) ls.length (cellsOf ls) := h.2.own h.1.lv.mx (Nat.le_of_lt (h.1.vb g 0 rfl).1)

theorem CurAt.keepB {w w' : World} {cb : Nat} {a : Option Addr} {n cap : Nat} {zs : List Int} (h : CurAt w cb a n cap zs) (hz : w.heap.size ≤ w'.heap.size) (hk : ∀ k, k ≤ cb → w'.heap[k]? = w.heap[k]?) : CurAt w' cb a n cap zs := by
  obtain ⟨h1, h2, h3, i, z, h4, h5⟩ := h
  refine ⟨h1, ?_, h3, i, z, h4, by rw [hk cb (Nat.le_refl _)]; exact h5⟩
  refine ⟨h2.le, h2.mx, h2.bd, fun hn => ?_⟩
  obtain ⟨b, off, e, g1, g2⟩ := h2.at_ hn
  exact ⟨b, off, e, by omega, fun i hi => (World.cell?_of_block (w := w) (a := ⟨b, off + i, none⟩) (hk b (Nat.le_of_lt (h3 hn b off e)))).trans (g2 i hi)⟩

/-- levels that grew, told to the profile -/
theorem DrawA.app {w W W7 : World} {cb P m c' m2 c2 gb : Nat} {T : Int} {v v2 : Option Addr} {ls ls2 : List Lev} {a : Option Addr} {n cap : Nat} {zs : List Int} (h : DrawA w cb P T v m c' ls a n cap zs W) (gr : W.grownBy W7 (some gb)) (hg : w.heap.size < gb ∧ gb ≠ P)
    (hl : LevS W7 v2 m2 c2 ls2) (hv : ∀ b off, v2 = some ⟨b, off, none⟩ → w.heap.size < b ∧ b ≠ P) (hm : m2 ≤ 201) : DrawA w cb P T v2 m2 c2 ls2 a n cap zs (W7.setCell ⟨P, 1, none⟩ (.slice v2 m2 c2)) := by
  obtain ⟨e1, e2⟩ := h.ne
  have lP := lt_of_block h.pb
  have q1 : ∀ k, k ≠ P → (W7.setCell ⟨P, 1, none⟩ (.slice v2 m2 c2)).heap[k]? = W7.heap[k]? := fun k hk => Below.heap_setCell _ _ _ _ hk
  have hs : (W7.setCell ⟨P, 1, none⟩ (.slice v2 m2 c2)).heap.size = W7.heap.size := by simp [World.setCell]
  have g1 : ∀ k, k < W.heap.size → k ≠ gb → W7.heap[k]? = W.heap[k]? := fun k hk hne => gr.block k hk (fun e => hne (Option.some.inj e))
  have lR := lt_of_block h.rb
  have hz := gr.size
  have pb7 : W7.heap[P]? = some (.cells #[.int .i64 T, .slice v m c'] 38 (0, 0)) := (g1 P lP (Ne.symm hg.2)).trans h.pb
  have hp := blk_set (j := 1) pb7 (.slice v2 m2 c2)
  simp only [List.setIfInBounds_toArray, List.set_cons_succ, List.set_cons_zero] at hp
  refine ⟨(q1 _ (by omega)).trans ((g1 _ lR (by omega)).trans h.rb), hp, levs_keep hl (fun b off e _ => q1 b (hv b off e).2) (by omega), hv, h.tb, hm, ?_, ?_, h.ne⟩
  · refine h.cur.keepB (by omega) (fun k hk => ?_)
    exact (q1 k (by omega)).trans (g1 k (by omega) (by omega))
  · refine ⟨gr.os.trans h.but.os, gr.tape.trans h.but.tape, gr.output.trans h.but.output, by have := h.but.size; omega, fun r hr hne => ?_⟩
    have := h.but.size
    exact (q1 r (by omega)).trans ((g1 r (by omega) (by omega)).trans (h.but.block r hr hne))

theorem new2_cells (W : World) (x y : Value) (T : TypeId) : ∀ j u, [x, y][j]? = some u → (W.alloc (.cells #[x, y] T)).cell? ((⟨W.heap.size, 0, none⟩ : Addr).add j) = some u := by
  intro j u hj
  have hadd : (⟨W.heap.size, 0, none⟩ : Addr).add j = ⟨W.heap.size, j, none⟩ := by unfold Addr.add; split <;> simp_all
  rw [hadd]
  exact cellAt (heap_alloc_new _ _) (by rw [List.getElem?_toArray]; exact hj)

theorem new2_cellsK {W : World} {x y : Value} {T : TypeId} {k : Nat} (hk : k = W.heap.size) : ∀ j u, [x, y][j]? = some u → (W.alloc (.cells #[x, y] T)).cell? ((⟨k, 0, none⟩ : Addr).add j) = some u := by
  subst hk; exact new2_cells W x y T

theorem KD.grown {w : World} {cb P : Nat} {T : Int} {g c : Nat} {ls : List Lev} {a : Option Addr} {n cap : Nat} {zs : List Int} {W w7 : World} (h : KD w cb P T g c ls a n cap zs W) (gr : W.grownBy w7 (Value.slice (some ⟨g, 0, none⟩) ls.length c).ownBlock) :
    w7.heap[P]? = some (.cells #[.int .i64 T, .slice (some ⟨g, 0, none⟩) ls.length c] 38 (0, 0)) ∧ w7.heap[w.heap.size]? = some (.cells #[.int .i64 0, .slice none 0 0] 38 (0, 0)) := by
  obtain ⟨v1, v2⟩ := h.1.vb g 0 rfl
  have lP := lt_of_block h.1.pb
  have lR := lt_of_block h.1.rb
  exact ⟨(gr.block P lP (fun e => by have e' : P = g := Option.some.inj e; omega)).trans h.1.pb, (gr.block _ lR (fun e => by have e' : w.heap.size = g := Option.some.inj e; omega)).trans h.1.rb⟩

theorem KD.app {w : World} {cb P : Nat} {T : Int} {g c : Nat} {ls : List Lev} {a : Option Addr} {n cap : Nat} {zs : List Int} {W w7 : World} {v7 : Value} {x y : Int} (h : KD w cb P T g c ls a n cap zs W) (gr : W.grownBy w7 (Value.slice (some ⟨g, 0, none⟩) ls.length c).ownBlock)
    (own7 : w7.ownsRow w.heap.size 80 2 v7 (ls.length + 1) (cellsOf ls ++ [.int .i64 x, .int .i64 y])) (at7 : v7.ownBlock = (Value.slice (some ⟨g, 0, none⟩) ls.length c).ownBlock ∨ v7.ownBlock = some W.heap.size) (hx : 0 ≤ x ∧ x ≤ 1000000000) (hy : 0 ≤ y ∧ y ≤ 3) (hl : ls.length ≤ 200) :
    ∃ g7 c7, v7 = .slice (some ⟨g7, 0, none⟩) (ls.length + 1) c7 ∧ Hid (DrawA w cb P T (some ⟨g7, 0, none⟩) (ls.length + 1) c7 (ls ++ [(x, y)]) a n cap zs (w7.setCell ⟨P, 1, none⟩ (.slice (some ⟨g7, 0, none⟩) (ls.length + 1) c7))) := by
  obtain ⟨u1, u2⟩ := h.1.vb g 0 rfl
  have lP := lt_of_block h.1.pb
  have hRP := h.1.ne.2
  have e2 : cellsOf ls ++ [.int .i64 x, .int .i64 y] = cellsOf (ls ++ [(x, y)]) := by simp [cellsOf]
  have el : (ls ++ [(x, y)]).length = ls.length + 1 := by simp
  rw [e2, ← el] at own7
  obtain ⟨g7, c7, rfl, hb, hc, hm, hD⟩ := own_levD own7 (by rw [el]; omega)
  have hg7 : w.heap.size < g7 ∧ g7 ≠ P := by
    rcases at7 with e | e
    · have e' : g7 = g := Option.some.inj e; omega
    · have e' : g7 = W.heap.size := Option.some.inj e; omega
  have wf : ∀ i, i < (ls ++ [(x, y)]).length → (-9223372036854775808 ≤ fr (ls ++ [(x, y)]) i ∧ fr (ls ++ [(x, y)]) i ≤ 9223372036854775807) ∧ (-9223372036854775808 ≤ fe (ls ++ [(x, y)]) i ∧ fe (ls ++ [(x, y)]) i ≤ 9223372036854775807) := fun i hi => by
    by_cases hil : i < ls.length
    · have := h.1.lv.wf i hil
      have ef : fr (ls ++ [(x, y)]) i = fr ls i := by unfold fr; rw [List.getElem?_append_left hil]
      have eg : fe (ls ++ [(x, y)]) i = fe ls i := by unfold fe; rw [List.getElem?_append_left hil]
      rw [ef, eg]; exact this
    · have hi2 : i = ls.length := by omega
      have ef : fr (ls ++ [(x, y)]) i = x := by unfold fr; subst hi2; simp
      have eg : fe (ls ++ [(x, y)]) i = y := by unfold fe; subst hi2; simp
      rw [ef, eg]; omega
  have hS := hD.toS rfl hc hm wf
  refine ⟨g7, c7, by rw [el], ?_⟩
  have := h.1.app gr (show w.heap.size < g ∧ g ≠ P from ⟨u1, u2⟩) hS (fun b off e => by (injection e with e; injection e with e5 _ _; subst e5; exact hg7)) (by omega)
  rw [el] at this
  exact this

set_option maxRecDepth 8000 in
set_option maxHeartbeats 8000000 in
theorem l2DrawAny_any (cb : Nat) (a : Option Addr) (n cap : Nat) (zs : List Int) (w : World) (h : CurAt w cb a n cap zs) :
    Calls Try.prog 54 #[.pointer (some ⟨cb, 0, none⟩)] w fun e w' => ∃ (T : Int) (v : Option Addr) (m c' : Nat) (ls : List Lev), e = .returned (.agg #[.int .i64 T, .slice v m c']) ∧ LevS w' v m c' ls ∧ (∀ b off, v = some ⟨b, off, none⟩ → w.heap.size ≤ b) ∧ (-1 ≤ T ∧ T ≤ 1001) ∧ m ≤ 201 ∧ CurAt w' cb a n cap zs ∧ But cb w w' := by
  have hcb := h.lt
  have h0 := h.but (box_below0 (o := (.cells #[.int .i64 0, .slice none 0 0] 38))) hcb
  go_enter Try.func54, Try.ntmps54
  go_wp2_with fail
  refine (l2Draw_any cb a n cap zs _ h0).mono ?_
  rintro e w1 ⟨T, g, c, ls, rfl, po, ht8, hlc, hg, hlc1, hlc2, c1, b1⟩
  have hR1 := b1.laid hcb
  have hg1 : w.heap.size + 1 ≤ g := by simpa using hg
  have hgl := hlc.lt
  have n1 := po.n1
  have n2 := po.n2
  have wf : ∀ i, i < ls.length → (-9223372036854775808 ≤ fr ls i ∧ fr ls i ≤ 9223372036854775807) ∧ (-9223372036854775808 ≤ fe ls i ∧ fe ls i ≤ 9223372036854775807) := fun i hi => by have := po_okTo po hi; have := po.t1; omega
  have hzR := lt_of_block hR1
  have H0 : DrawA w cb w1.heap.size T (some ⟨g, 0, none⟩) ls.length c ls a n cap zs (w1.alloc (.cells #[.int .i64 T, .slice (some ⟨g, 0, none⟩) ls.length c] 38)) :=
    ⟨(Below.heap_alloc _ _ _ hzR).trans hR1, heap_alloc_new _ _, (hlc.below box_below).toS rfl hlc1 hlc2 wf, fun b off e => by (injection e with e; injection e with e5 _ _; subst e5; exact ⟨by omega, by omega⟩), by omega, by omega, c1.but box_below c1.lt, (((But.refl cb w).alloc (.cells #[.int .i64 0, .slice none 0 0] 38)).trans b1).alloc _, ⟨hcb, hzR⟩⟩
  have D0 : LevD (w1.alloc (.cells #[.int .i64 T, .slice (some ⟨g, 0, none⟩) ls.length c] 38)) g ls.length c ls := hlc.below box_below
  clear hlc hR1 h0 b1 c1 wf
  go_wp2_with fail
  generalize hP : w1.heap.size = P at H0 hgl hzR ⊢
  clear hP
  refine (l1Once_any cb a n cap zs 12 _ H0.cur (by omega) (by omega)).mono ?_
  rintro e w2 ⟨b, rfl, c2, b2⟩
  have H2 := H0.step c2 b2
  have D2 := D0.blk (b2.block g D0.lt (by omega))
  clear H0 D0 c2 b2
  cases b with
  | false =>
    obtain ⟨p0, p1, _, _⟩ := boxed H2.pb
    obtain ⟨r0, r1, g0, g1⟩ := boxed H2.rb
    have hne : P ≠ w.heap.size := by omega
    have HF : Hid _ := DrawA.fin H2
    go_wp2
    obtain ⟨F0, F1, F2, F3⟩ := HF.out
    generalize (w2.setCell ⟨w.heap.size, 0, none⟩ (.int .i64 T)).setCell ⟨w.heap.size, 1, none⟩ (.slice (some ⟨g, 0, none⟩) ls.length c) = WF at F0 F1 F2 F3 ⊢
    obtain ⟨c0, c1, _, _⟩ := boxed F0
    exact bodyPost_ret (v := .agg #[.int .i64 T, .slice (some ⟨g, 0, none⟩) ls.length c]) (by simp [results, Try.results54, go_sem, c0, c1]) rfl ⟨T, (some ⟨g, 0, none⟩), ls.length, c, ls, rfl, F1, fun b off e => Nat.le_of_lt ((H2).vb b off e).1, (H2).tb, (H2).nb, F2, F3⟩
  | true =>
    go_wp2_with fail
    refine (l1Below_any cb a n cap zs 4 _ H2.cur (by omega) (by omega)).mono ?_
    rintro e w3 ⟨xk, rfl, xk0, xk1, c3, b3⟩
    have H3 := H2.step c3 b3
    have D3 := D2.blk (b3.block g D2.lt (by omega))
    clear H2 D2 c3 b3
    obtain ⟨k, rfl⟩ := Int.eq_ofNat_of_zero_le xk0
    obtain ⟨p0, p1, pf0, pf1⟩ := boxed H3.pb
    obtain ⟨r0, r1, g0, g1⟩ := boxed H3.rb
    have hne : P ≠ w.heap.size := by omega
    have hne2 : w.heap.size ≠ P := by omega
    have hcbP : cb ≠ P := by omega
    have hcb3 := H3.cur.lt
    obtain rfl | rfl | rfl | rfl : k = 0 ∨ k = 1 ∨ k = 2 ∨ k = 3 := by omega
    · have wT : IntKind.i64.wrap (T + 1) = T + 1 := by rw [IntKind.wrap_i64]; omega
      have K3 : DrawA w cb P T (some ⟨g, 0, none⟩) ls.length c ls a n cap zs w3.drew := H3.below (Below.refl _ _).drew
      have K3a : DrawA w cb P T (some ⟨g, 0, none⟩) ls.length c ls a n cap zs (w3.alloc (.cells #[.int .i64 (-1), .int .i64 0, .int .i64 (T + 1), .int .i64 1000, .int .i64 1001] 2)).drew := H3.below (box_below0.drew)
      have q0 : (0 : Int) ≤ 0 := Int.le_refl _
      go_wp2_with fail
      go_region_with ((go_at_call 77; first
        | (refine (l1Below_any cb a n cap zs 5 _ K3a.cur (by omega) (by omega)).mono ?_
           rintro e w5 ⟨xt, rfl, xt0, xt1, c5, b5⟩
           have K5 := K3a.step c5 b5
           obtain ⟨t, rfl⟩ := Int.eq_ofNat_of_zero_le xt0
           obtain ⟨v, hv, v0, v1⟩ := tabP_at T ht8 t (by omega)
           have ht0 : (0 : Int) ≤ (t : Int) := by omega
           have ht5 : t < 5 := by omega
           have hq := cellAt (b5.laidd hcb3) hv
           obtain ⟨s0, s1, s2, s3⟩ := boxed K5.pb
           obtain ⟨u0, u1, u2, u3⟩ := boxed K5.rb
           have zP5 := lt_of_block K5.pb
           have zR5 := lt_of_block K5.rb
           have zn5 : P ≠ w5.heap.size := by omega
           have zn6 : w.heap.size ≠ w5.heap.size := by omega
           have HD : Hid (DrawA w cb P v (some ⟨g, 0, none⟩) ls.length c ls a n cap zs (w5.setCell ⟨P, 0, none⟩ (.int .i64 v))) := K5.setT ⟨v0, v1⟩
           have HK : Hid _ := HD.out.fin
           clear hv)
        | (refine (l1Below_any cb a n cap zs 5 _ K3.cur (by omega) (by omega)).mono ?_
           rintro e w5 ⟨xt, rfl, xt0, xt1, c5, b5⟩
           have K5 := K3.step c5 b5
           obtain ⟨t, rfl⟩ := Int.eq_ofNat_of_zero_le xt0
           obtain ⟨v, hv, v0, v1⟩ := tabP_at T ht8 t (by omega)
           have ht0 : (0 : Int) ≤ (t : Int) := by omega
           have ht5 : t < 5 := by omega
           have hq : (w5.alloc (.cells #[.int .i64 (-1), .int .i64 0, .int .i64 (T + 1), .int .i64 1000, .int .i64 1001] 2)).cell? ⟨w5.heap.size, t, none⟩ = some (.int .i64 v) := cellAt (heap_alloc_new _ _) hv
           obtain ⟨s0, s1, s2, s3⟩ := boxed K5.pb
           obtain ⟨u0, u1, u2, u3⟩ := boxed K5.rb
           have zP5 := lt_of_block K5.pb
           have zR5 := lt_of_block K5.rb
           have zn5 : P ≠ w5.heap.size := by omega
           have zn6 : w.heap.size ≠ w5.heap.size := by omega
           have HD : Hid (DrawA w cb P v (some ⟨g, 0, none⟩) ls.length c ls a n cap zs (w5.setCell ⟨P, 0, none⟩ (.int .i64 v))) := K5.setT ⟨v0, v1⟩
           have HK : Hid _ := HD.out.finA (.cells #[.int .i64 (-1), .int .i64 0, .int .i64 (T + 1), .int .i64 1000, .int .i64 1001] 2)
           clear hv)))
      all_goals
        go_wp2
        obtain ⟨F0, F1, F2, F3⟩ := HK.out
        obtain ⟨c0, c1, _, _⟩ := boxed F0
        first
          | (generalize ((w5.setCell ⟨P, 0, none⟩ (.int .i64 v)).setCell ⟨w.heap.size, 0, none⟩ (.int .i64 v)).setCell ⟨w.heap.size, 1, none⟩ (.slice (some ⟨g, 0, none⟩) ls.length c) = WF at F0 F1 F2 F3 c0 c1 ⊢
             exact bodyPost_ret (v := .agg #[.int .i64 v, .slice (some ⟨g, 0, none⟩) ls.length c]) (by simp [results, Try.results54, go_sem, c0, c1]) rfl ⟨v, (some ⟨g, 0, none⟩), ls.length, c, ls, rfl, F1, fun b off e => Nat.le_of_lt (HD.out.vb b off e).1, HD.out.tb, HD.out.nb, F2, F3⟩)
          | (generalize (((w5.setCell ⟨P, 0, none⟩ (.int .i64 v)).setCell ⟨w.heap.size, 0, none⟩ (.int .i64 v)).setCell ⟨w.heap.size, 1, none⟩ (.slice (some ⟨g, 0, none⟩) ls.length c)).alloc (.cells #[.int .i64 (-1), .int .i64 0, .int .i64 (T + 1), .int .i64 1000, .int .i64 1001] 2) = WF at F0 F1 F2 F3 c0 c1 ⊢
             exact bodyPost_ret (v := .agg #[.int .i64 v, .slice (some ⟨g, 0, none⟩) ls.length c]) (by simp [results, Try.results54, go_sem, c0, c1]) rfl ⟨v, (some ⟨g, 0, none⟩), ls.length, c, ls, rfl, F1, fun b off e => Nat.le_of_lt (HD.out.vb b off e).1, HD.out.tb, HD.out.nb, F2, F3⟩)
    · obtain ⟨i1, hji, hj0, hj1, hj2⟩ := info_parts info69
      have KX : KD w cb P T g c ls a n cap zs w3 := ⟨H3, D3⟩
      have AB : True := trivial
      have hv : True := trivial
      have hle := H3.lv.le
      have hmx := H3.lv.mx
      unfold maxLen at hmx
      have hgP : g ≠ P := (H3.vb g 0 rfl).2
      have hgR := (H3.vb g 0 rfl).1
      have zP := lt_of_block H3.pb
      have zb : cb < w3.heap.size := hcb3
      have hKD : ∀ W, KD w cb P T g c ls a n cap zs W → W.cell? ⟨P, 1, none⟩ = some (.slice (some ⟨g, 0, none⟩) ls.length c) ∧ P < W.heap.size ∧ cb < W.heap.size := fun W h => ⟨(boxed h.1.pb).2.1, lt_of_block h.1.pb, h.cur.lt⟩
      have HKD : Hid _ := hKD
      clear hKD H3 D3
      go_wp2_with fail
      go_region_law (first
        | (go_simp
           go_at_call 77
           refine (l1Below_any cb a n cap zs _ _ ?_ (by omega) (by omega)).mono ?_
           · first
             | exact KX.cur
             | exact KX.drew.cur
             | exact (KX.alloc _).cur
             | exact (KX.alloc _).drew.cur
             | exact (KX.drew.alloc _).cur
           rintro e wX ⟨x, rfl, x0, x1, cX, bX⟩
           first
             | have AB := bX.laid (o := (.cells #[.int .i64 0, .int .i64 99, .int .i64 999999999, .int .i64 1000000000] 2)) zb
             | have AB := bX.laidd (o := (.cells #[.int .i64 0, .int .i64 99, .int .i64 999999999, .int .i64 1000000000] 2)) zb
             | have AB := (bX.block _ (lt_of_block AB) (by omega)).trans AB
             | skip
           have KX : KD w cb P T g c ls a n cap zs wX := by
             first
             | exact KX.step cX bX
             | exact KX.drew.step cX bX
             | exact (KX.alloc _).step cX bX
             | exact (KX.alloc _).drew.step cX bX
             | exact (KX.drew.alloc _).step cX bX
           clear cX bX
           obtain ⟨s1, zP, zb⟩ := HKD.out _ KX
           first
             | (have hx4 : x < 4 := by exact x1
                obtain ⟨t, rfl⟩ := Int.eq_ofNat_of_zero_le x0
                obtain ⟨v, hv, v0, v1⟩ := tabF_at t (by omega)
                have ht0 : (0 : Int) ≤ (t : Int) := by omega
                have ht4 : t < 4 := by omega)
             | (have hy0 := x0
                have hy1 : x < 3 := by exact x1)
           first
             | have hq := cellAt AB hv
             | skip
           first
             | have hq' := cellAt (heap_alloc_new wX (.cells #[.int .i64 0, .int .i64 99, .int .i64 999999999, .int .i64 1000000000] 2)) hv
             | skip)
        | (refine step_append_own rfl (.tmp 24) (.tmp 33) 36 rfl w.heap.size 80 i1 (.agg #[.int .i64 0, .int .i64 0]) 2 16 Try.underlying36 hji hj0 hj1 hj2 rfl (by decide) (.slice (some ⟨g, 0, none⟩) ls.length c) ls.length (cellsOf ls) rfl ?_ _ 1 1 [.int .i64 v, .int .i64 x] rfl rfl ?_ ?_ (by unfold maxLen; omega) (by omega) ?_ ?_
           · first
             | exact (KX.alloc _).own
             | exact ((KX.alloc _).alloc _).own
           · first
             | exact new2_cellsK rfl
             | exact new2_cellsK (by simp)
           · intro u hu
             simp at hu
             rcases hu with rfl | rfl <;> rfl
           · simp; have := KX.1.but.size; omega
           intro v7 w7 own7 grow7 nil7 at7
           have HA7 : ∃ g7 c7, v7 = .slice (some ⟨g7, 0, none⟩) (ls.length + 1) c7 ∧ Hid (DrawA w cb P T (some ⟨g7, 0, none⟩) (ls.length + 1) c7 (ls ++ [(v, x)]) a n cap zs (w7.setCell ⟨P, 1, none⟩ (.slice (some ⟨g7, 0, none⟩) (ls.length + 1) c7))) := by
             first
             | exact KD.app (KX.alloc _) grow7 own7 at7 ⟨by omega, by omega⟩ ⟨by omega, by omega⟩ (by omega)
             | exact KD.app ((KX.alloc _).alloc _) grow7 own7 at7 ⟨by omega, by omega⟩ ⟨by omega, by omega⟩ (by omega)
           have HB7 : w7.heap[P]? = some (.cells #[.int .i64 T, .slice (some ⟨g, 0, none⟩) ls.length c] 38 (0, 0)) ∧ w7.heap[w.heap.size]? = some (.cells #[.int .i64 0, .slice none 0 0] 38 (0, 0)) := by
             first
             | exact KD.grown (KX.alloc _) grow7
             | exact KD.grown ((KX.alloc _).alloc _) grow7
           clear own7 grow7 nil7 at7
           obtain ⟨g7, c7, rfl, H7⟩ := HA7
           obtain ⟨P7, R7⟩ := HB7
           obtain ⟨y0, y1, y2, y3⟩ := boxed P7
           obtain ⟨z0, z1, z2, z3⟩ := boxed R7
           clear P7 R7))
      all_goals
        have HF : Hid _ := H7.out.fin
        go_wp2
        obtain ⟨F0, F1, F2, F3⟩ := HF.out
        obtain ⟨c0, c1, _, _⟩ := boxed F0
        generalize ((w7.setCell ⟨P, 1, none⟩ (.slice (some ⟨g7, 0, none⟩) (ls.length + 1) c7)).setCell ⟨w.heap.size, 0, none⟩ (.int .i64 T)).setCell ⟨w.heap.size, 1, none⟩ (.slice (some ⟨g7, 0, none⟩) (ls.length + 1) c7) = WF at F0 F1 F2 F3 c0 c1 ⊢
        exact bodyPost_ret (v := .agg #[.int .i64 T, .slice (some ⟨g7, 0, none⟩) (ls.length + 1) c7]) (by simp [results, Try.results54, go_sem, c0, c1]) rfl ⟨T, _, _, _, _, rfl, F1, fun b off e => Nat.le_of_lt (H7.out.vb b off e).1, H7.out.tb, H7.out.nb, F2, F3⟩
    · have q1 : (1 : Int) ≤ (ls.length : Int) := by omega
      have q2 : (ls.length : Int) ≤ (c : Int) := by omega
      have q3 : (0 : Int) ≤ 1 := by omega
      have wf : ∀ i, i < ls.length → (-9223372036854775808 ≤ fr ls i ∧ fr ls i ≤ 9223372036854775807) ∧ (-9223372036854775808 ≤ fe ls i ∧ fe ls i ≤ 9223372036854775807) := fun i hi => by have := po_okTo po hi; have := po.t1; omega
      by_cases hc1 : c = 1
      · subst hc1
        have e1 : ls.length = 1 := by omega
        have HL : LevS w3 (some ⟨g, 0, none⟩) 0 0 [] := ⟨rfl, Nat.le_refl _, Nat.zero_le _, (fun e => by cases e), fun i hi => by omega, fun hi => by omega⟩
        have H4 := H3.setL HL H3.vb (by omega)
        have HF : Hid _ := H4.fin
        clear e1 wf HL
        go_wp2
        obtain ⟨F0, F1, F2, F3⟩ := HF.out
        obtain ⟨c0, c1, _, _⟩ := boxed F0
        generalize ((w3.setCell ⟨P, 1, none⟩ (.slice (some ⟨g, 0, none⟩) 0 0)).setCell ⟨w.heap.size, 0, none⟩ (.int .i64 T)).setCell ⟨w.heap.size, 1, none⟩ (.slice (some ⟨g, 0, none⟩) 0 0) = WF at F0 F1 F2 F3 c0 c1 ⊢
        exact bodyPost_ret (v := .agg #[.int .i64 T, .slice (some ⟨g, 0, none⟩) 0 0]) (by simp [results, Try.results54, go_sem, c0, c1]) rfl ⟨T, _, _, _, [], rfl, F1, fun b off e => Nat.le_of_lt (H4.vb b off e).1, H4.tb, H4.nb, F2, F3⟩
      · have HL := levD_drop D3 hlc2 wf n1
        have H4 := H3.setL HL (fun b off e => by (injection e with e; injection e with e5 _ _; subst e5; exact H3.vb _ _ rfl)) (by omega)
        have HF : Hid _ := H4.fin
        clear wf HL
        go_wp2
        obtain ⟨F0, F1, F2, F3⟩ := HF.out
        obtain ⟨c0, c1, _, _⟩ := boxed F0
        generalize ((w3.setCell ⟨P, 1, none⟩ (.slice (some ⟨g, 2, none⟩) (ls.length - 1) (c - 1))).setCell ⟨w.heap.size, 0, none⟩ (.int .i64 T)).setCell ⟨w.heap.size, 1, none⟩ (.slice (some ⟨g, 2, none⟩) (ls.length - 1) (c - 1)) = WF at F0 F1 F2 F3 c0 c1 ⊢
        exact bodyPost_ret (v := .agg #[.int .i64 T, .slice (some ⟨g, 2, none⟩) (ls.length - 1) (c - 1)]) (by simp [results, Try.results54, go_sem, c0, c1]) rfl ⟨T, _, _, _, ls.drop 1, rfl, F1, fun b off e => Nat.le_of_lt (H4.vb b off e).1, H4.tb, H4.nb, F2, F3⟩
    · have q1 : (0 : Int) < (ls.length : Int) := by omega
      have K3 : DrawA w cb P T (some ⟨g, 0, none⟩) ls.length c ls a n cap zs w3.drew := H3.below (Below.refl _ _).drew
      have hgP : g ≠ P := (H3.vb g 0 rfl).2
      have hgR := (H3.vb g 0 rfl).1
      go_wp2_with fail
      go_region_with ((go_at_call 78; first
        | (refine (l1From_any cb a n cap zs (-1) 11 _ K3.cur (by omega) (by omega) (by omega)).mono ?_
           rintro e w5 ⟨x, rfl, x0, x1, c5, b5⟩
           have K5 := K3.step c5 b5
           have D5 : LevD w5 g ls.length c ls := D3.blk (b5.block g D3.lt (by omega))
           obtain ⟨s0, s1, s2, s3⟩ := boxed K5.pb
           obtain ⟨u0, u1, u2, u3⟩ := boxed K5.rb
           obtain ⟨t0, t1⟩ := D5.cell1 n1
           have HD : Hid (DrawA w cb P T (some ⟨g, 0, none⟩) ls.length c (ls.set 0 (fr ls 0, x)) a n cap zs (w5.setCell ⟨g, 1, none⟩ (.int .i64 x))) := K5.setG D5 n1 (by omega)
           have HK : Hid _ := HD.out.fin
           have gne : g ≠ w.heap.size := by omega
           have gne2 : w.heap.size ≠ g := by omega
           clear D5)))
      all_goals
        go_wp2
        obtain ⟨F0, F1, F2, F3⟩ := HK.out
        obtain ⟨c0, c1, _, _⟩ := boxed F0
        generalize ((w5.setCell ⟨g, 1, none⟩ (.int .i64 x)).setCell ⟨w.heap.size, 0, none⟩ (.int .i64 T)).setCell ⟨w.heap.size, 1, none⟩ (.slice (some ⟨g, 0, none⟩) ls.length c) = WF at F0 F1 F2 F3 c0 c1 ⊢
        exact bodyPost_ret (v := .agg #[.int .i64 T, .slice (some ⟨g, 0, none⟩) ls.length c]) (by simp [results, Try.results54, go_sem, c0, c1]) rfl ⟨T, _, _, _, _, rfl, F1, fun b off e => Nat.le_of_lt (HD.out.vb b off e).1, HD.out.tb, HD.out.nb, F2, F3⟩

end Go.Proofs.Ytcmpenlgkccgkaa
