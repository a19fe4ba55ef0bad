/- What Left tells is right (chapter 10): plain mathematics. -/
import Derived.Test.YtfepkchopndpeaaPlanL
namespace Go.Proofs.Ytfepkchopndpeaa
open Go.RowKit Go.Sort

theorem lfK_po {T : Int} {ls : List Lev} {js : List Jb} {ss : List Int} (h : PO T ls) : ∀ (k : Nat) (l : List Lev), lfK T ls js ss k = some l → PO T l
  | 0, l, e => by
    have : ls = l := Option.some.inj e
    rw [← this]; exact h
  | k + 1, l, e => by
    rcases hk : lfK T ls js ss k with _ | m
    · rw [lfK_stop hk 1] at e; cases e
    · have ih := lfK_po h k m hk
      by_cases c1 : zg ss k < -1 ∨ 1000000000 < zg ss k
      · rw [lfK_in hk c1] at e; cases e
      · by_cases c2 : zg ss k = -1 ∨ zg ss k = 1000000000
        · rw [lfK_same hk c2] at e
          have : m = l := Option.some.inj e
          rw [← this]; exact ih
        · rw [lfK_res hk (by omega)] at e
          by_cases c3 : resB T m (zg ss k) (laterI (zg ss k) (jg js k).long) (jg js k).cores = true
          · rw [if_pos c3] at e
            have : chgL m (zg ss k) (laterI (zg ss k) (jg js k).long) (-(jg js k).cores) = l := Option.some.inj e
            rw [← this]; exact resB_po c3
          · rw [if_neg c3] at e; cases e
theorem lfF_po {T : Int} {ls l : List Lev} {js : List Jb} {ss : List Int} (h : lfF T ls js ss = some l) : PO T l := by
  unfold lfF at h
  by_cases c : poB T ls = true ∧ jsB js = true ∧ ss.length = js.length
  · rw [if_pos c] at h; exact lfK_po (poB_t c.1) _ _ h
  · rw [if_neg c] at h; cases h

end Go.Proofs.Ytfepkchopndpeaa
