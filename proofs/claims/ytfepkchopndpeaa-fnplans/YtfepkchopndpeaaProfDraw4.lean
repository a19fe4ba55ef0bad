/- The draws of profiles and times. -/
import Derived.Test.YtfepkchopndpeaaProfDraw2
import Derived.Deep.Cut
namespace Go.Proofs.Ytfepkchopndpeaa
open Go.RowKit

theorem levs_keep0 {W W' : World} {v : Option Addr} {n c : Nat} {ls : List Lev} (h : LevS W v n c ls) (hk : 0 < n → ∀ b off, v = some ⟨b, off, none⟩ → b < W.heap.size → W'.heap[b]? = W.heap[b]?) (hz : W.heap.size ≤ W'.heap.size) : LevS W' v n c ls :=
  ⟨h.len, h.le, h.mx, h.nil, h.wf, fun hn => by
    obtain ⟨b, off, e, h1, h2⟩ := h.at_ hn
    have hb := hk hn b off e h1
    exact ⟨b, off, e, by omega, fun i hi => ⟨(World.cell?_of_block (w := W) (a := ⟨b, off + i * 2, none⟩) hb).trans (h2 i hi).1, (World.cell?_of_block (w := W) (a := ⟨b, off + i * 2 + 1, none⟩) hb).trans (h2 i hi).2⟩⟩⟩

/-- a profile drawn lies in block P; the answer's box is block w0.heap.size -/
structure DrawB (w0 : World) (cb P : Nat) (T : Int) (v : Option Addr) (m c' : Nat) (ls : List Lev) (a : Option Addr) (n cap : Nat) (zs : List Int) (W : World) : Prop where
  rb : W.heap[w0.heap.size]? = some (.cells #[.int .i64 0, .slice none 0 0] 26 (0, 0))
  pb : W.heap[P]? = some (.cells #[.int .i64 T, .slice v m c'] 26 (0, 0))
  lv : LevS W v m c' ls
  vb : 0 < m → ∀ b off, v = some ⟨b, off, none⟩ → b ≠ cb ∧ b ≠ P ∧ b ≠ w0.heap.size
  tb : -1 ≤ T ∧ T ≤ 1001
  nb : m ≤ 201
  cur : CurAt W cb a n cap zs
  bel : Below w0.heap.size w0 W
  ne : w0.heap.size < cb ∧ cb < P

theorem DrawB.step {w0 W W' : World} {cb P m c' : Nat} {T : Int} {v : Option Addr} {ls : List Lev} {a : Option Addr} {n cap : Nat} {zs : List Int} (h : DrawB w0 cb P T v m c' ls a n cap zs W) (k : CurAt W' cb a n cap zs) (b : But cb W W') : DrawB w0 cb P T v m c' ls a n cap zs W' := by
  obtain ⟨e1, e2⟩ := h.ne
  have z := h.bel.size
  refine ⟨(b.block _ (lt_of_block h.rb) (by omega)).trans h.rb, (b.block _ (lt_of_block h.pb) (by omega)).trans h.pb, levs_keep0 h.lv (fun h0 b' off e hlt => b.block _ hlt (h.vb h0 b' off e).1) b.size, h.vb, h.tb, h.nb, k, h.bel.trans (b.below (Nat.le_of_lt e1) z), h.ne⟩
theorem DrawB.below {w0 W W' : World} {cb P m c' : Nat} {T : Int} {v : Option Addr} {ls : List Lev} {a : Option Addr} {n cap : Nat} {zs : List Int} (h : DrawB w0 cb P T v m c' ls a n cap zs W) (b : Below W.heap.size W W') : DrawB w0 cb P T v m c' ls a n cap zs W' := h.step (h.cur.but b h.cur.lt) (But.of b)

/-- the profile stored into the answer's box -/
theorem DrawB.fin {w0 W : World} {cb P m c' : Nat} {T : Int} {v : Option Addr} {ls : List Lev} {a : Option Addr} {n cap : Nat} {zs : List Int} (h : DrawB w0 cb P T v m c' ls a n cap zs W) :
    ((W.setCell ⟨w0.heap.size, 0, none⟩ (.int .i64 T)).setCell ⟨w0.heap.size, 1, none⟩ (.slice v m c')).heap[w0.heap.size]? = some (.cells #[.int .i64 T, .slice v m c'] 26 (0, 0)) ∧
    LevS ((W.setCell ⟨w0.heap.size, 0, none⟩ (.int .i64 T)).setCell ⟨w0.heap.size, 1, none⟩ (.slice v m c')) v m c' ls ∧
    Below w0.heap.size w0 ((W.setCell ⟨w0.heap.size, 0, none⟩ (.int .i64 T)).setCell ⟨w0.heap.size, 1, none⟩ (.slice v m c')) := by
  obtain ⟨q0, q1⟩ := Proofs.Ytfepkchopndpeaa.set2 h.rb (.int .i64 T) (.slice v m c')
  have hs : ((W.setCell ⟨w0.heap.size, 0, none⟩ (.int .i64 T)).setCell ⟨w0.heap.size, 1, none⟩ (.slice v m c')).heap.size = W.heap.size := by simp [World.setCell]
  exact ⟨q0, levs_keep0 h.lv (fun h0 b off e _ => q1 b (h.vb h0 b off e).2.2) (by omega), (h.bel.setCell (Nat.le_refl _) _).setCell (Nat.le_refl _) _⟩

end Go.Proofs.Ytfepkchopndpeaa
