/- FreeAt, of the model and of the program. -/
import Derived.Test.YtfepkchopndpeaaAt
import Derived.Deep.RegionHeld3
namespace Go.Proofs.Ytfepkchopndpeaa
open Go.RowKit

/-- what FreeAt tells -/
noncomputable def freeI (T : Int) (ls : List Lev) (t : Int) : Int := if poB T ls = true then if okB t = true then atI ls t else -1 else -1
theorem freeI_tt {T : Int} {ls : List Lev} {t : Int} (h : poB T ls = true) (h' : okB t = true) : freeI T ls t = atI ls t := by unfold freeI; rw [if_pos h, if_pos h']
theorem freeI_tf {T : Int} {ls : List Lev} {t : Int} (h : poB T ls = true) (h' : okB t = false) : freeI T ls t = -1 := by unfold freeI; rw [if_pos h, if_neg (by rw [h']; simp)]
theorem freeI_f {T : Int} {ls : List Lev} {t : Int} (h : poB T ls = false) : freeI T ls t = -1 := by unfold freeI; rw [if_neg (by rw [h]; simp)]

end Go.Proofs.Ytfepkchopndpeaa
