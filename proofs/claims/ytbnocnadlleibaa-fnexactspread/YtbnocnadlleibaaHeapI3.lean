/- Swap of the program's heap. -/
import Derived.Test.YtbnocnadlleibaaHeapI2
import Derived.BigRegion
namespace Go.Proofs.Ytbnocnadlleibaa
open Go.RowKit Go.Sort

theorem cell_over {w : World} {a b : Addr} {u v v' : Value} (ha : w.cell? a = some v') (hb : w.cell? b = some v) (h : a = b → u = v) : (w.setCell a u).cell? b = some v := by
  by_cases e : a = b
  · subst e; rw [World.cell?_setCell_same _ _ _ ha, h rfl]
  · exact (World.cell?_setCell_other _ _ _ _ e).trans hb

set_option maxRecDepth 8000 in
set_option maxHeartbeats 4000000 in
theorem swap_any (g n cap i j : Nat) (x y : Int × Int) (w : World) (hi : i < n) (hj : j < n)
    (x0 : w.cell? ⟨g, i * 2, none⟩ = some (.int .i64 x.1)) (x1 : w.cell? ⟨g, i * 2 + 1, none⟩ = some (.int .i64 x.2))
    (y0 : w.cell? ⟨g, j * 2, none⟩ = some (.int .i64 y.1)) (y1 : w.cell? ⟨g, j * 2 + 1, none⟩ = some (.int .i64 y.2))
    (fz : ∀ k, w.frozen? ⟨g, k, none⟩ = false) :
    Calls Try.prog 122 #[.slice (some ⟨g, 0, none⟩) n cap, .int .i64 i, .int .i64 j] w fun e w' => e = .returned (.tuple #[]) ∧ ∃ q,
      w' = ((((w.setCell ⟨g, i * 2, none⟩ (.int .i64 y.1)).setCell ⟨g, i * 2 + 1, none⟩ (.int .i64 y.2)).setCell ⟨g, j * 2, none⟩ (.int .i64 x.1)).setCell ⟨g, j * 2 + 1, none⟩ (.int .i64 x.2)).drewN q := by
  have hi' : (i : Int) < (n : Int) := by omega
  have hj' : (j : Int) < (n : Int) := by omega
  have f0 := fz (i * 2)
  have f1 := fz (i * 2 + 1)
  have f2 := fz (j * 2)
  have f3 := fz (j * 2 + 1)
  clear fz
  have E : ∀ a b : Nat, (⟨g, a, none⟩ : Addr) = ⟨g, b, none⟩ → a = b := fun a b h => by injection h
  have q0 : ∀ b v, w.cell? ⟨g, b, none⟩ = some v → (b = i * 2 → v = .int .i64 y.1) → (b = i * 2 + 1 → v = .int .i64 y.2) → ((w.setCell ⟨g, i * 2, none⟩ (.int .i64 y.1)).setCell ⟨g, i * 2 + 1, none⟩ (.int .i64 y.2)).cell? ⟨g, b, none⟩ = some v := by
    intro b v hb h1 h2
    have e1 := cell_over (a := ⟨g, i * 2, none⟩) (u := .int .i64 y.1) x0 hb (fun e => (h1 (E _ _ e).symm).symm)
    exact cell_over (cell_over (v := .int .i64 x.2) x0 x1 (fun e => by have := E _ _ e; omega)) e1 (fun e => (h2 (E _ _ e).symm).symm)
  have s0 := q0 (j * 2) _ y0 (fun _ => rfl) (fun e => by omega)
  have s1 : ((w.setCell ⟨g, i * 2, none⟩ (.int .i64 y.1)).setCell ⟨g, i * 2 + 1, none⟩ (.int .i64 y.2)).cell? ⟨g, j * 2 + 1, none⟩ = some (.int .i64 y.2) := q0 (j * 2 + 1) _ y1 (fun e => by omega) (fun _ => rfl)
  clear E q0
  go_enter Try.func122, Try.ntmps122
  go_wp2_with fail
  go_region
  go_wp2
  go_end0
  exact ⟨rfl, 1, rfl⟩

end Go.Proofs.Ytbnocnadlleibaa
