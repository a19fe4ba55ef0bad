/- toJob and Ahead, told by what they lay. -/
import Derived.Test.YtplcpiglciplkaaJobCmp
import Derived.Shelf.SlSortCmp.QuietGrown
namespace Go.Proofs.Ytplcpiglciplkaa
open Go.RowKit Go.Sort

theorem toJob_grow (i c l d t r a : Int) (w : World) :
    Calls Try.prog 72 #[.agg #[.int .i64 i, .int .i64 c, .int .i64 l, .int .i64 d, .int .i64 t, .int .i64 r, .int .i64 a]] w fun e w' => e = .returned (.agg #[.int .i64 i, .int .i64 c, .int .i64 l, .int .i64 d, .int .i64 t, .int .i64 r, .int .i64 a]) ∧ ∃ q os', w' = grow (w.drewN q) os' := by
  go_enter Try.func72, Try.ntmps72
  go_wp2
  exact bodyPost_ret (v := .agg #[.int .i64 i, .int .i64 c, .int .i64 l, .int .i64 d, .int .i64 t, .int .i64 r, .int .i64 a]) (by simp [results, Try.results72, go_sem]) rfl ⟨rfl, by rw [alloc_eq_grow, alloc_eq_grow, alloc_eq_grow, grow_grow, grow_grow]; exact ⟨0, _, rfl⟩⟩

end Go.Proofs.Ytplcpiglciplkaa
