/- Reserve of the model: told, copied, cut. -/
import Derived.Test.YtplcpiglciplkaaNewBlk
import Derived.Test.YtplcpiglciplkaaNewProf
import Derived.Test.YtplcpiglciplkaaStepApp
import Derived.Test.YtplcpiglciplkaaCut
namespace Go.Proofs.Ytplcpiglciplkaa
open Go.RowKit

theorem addL_more_len (out : List Lev) (t f : Int) : (addL out t f).length ≤ out.length + 1 := by
  unfold addL
  split
  · split <;> simp
  · simp
theorem cutGo_len (ls : List Lev) (ts : List Int) (x y more : Int) : ∀ (g : Nat) (last : Int) (out : List Lev), (cutGo ls ts x y more g last out).length ≤ out.length + g
  | 0, _, out => by simp [cutGo]
  | g + 1, last, out => by
    rw [cutGo]
    split
    · omega
    · have := cutGo_len ls ts x y more g (nextT ts last) (addL out (nextT ts last) (freeC ls x y more (nextT ts last)))
      have := addL_more_len out (nextT ts last) (freeC ls x y more (nextT ts last))
      omega
theorem cutGo_mem (ls : List Lev) (ts : List Int) (x y more : Int) : ∀ (g : Nat) (last : Int) (out : List Lev) (m : Lev), m ∈ cutGo ls ts x y more g last out → m ∈ out ∨ (m.1 ∈ ts ∧ m.2 = freeC ls x y more m.1)
  | 0, _, out, m, h => Or.inl (by simpa [cutGo] using h)
  | g + 1, last, out, m, h => by
    rw [cutGo] at h
    split at h
    · exact Or.inl h
    · rename_i hne
      rcases cutGo_mem ls ts x y more g _ _ m h with h1 | h1
      · have h2 : m ∈ out ∨ m = (nextT ts last, freeC ls x y more (nextT ts last)) := by
          unfold addL at h1
          split at h1
          · split at h1
            · exact Or.inl h1
            · simpa using h1
          · simpa using h1
        rcases h2 with h2 | h2
        · exact Or.inl h2
        · exact Or.inr (by rw [h2]; exact ⟨(nextT_spec ts last hne).1, rfl⟩)
      · exact Or.inr h1

theorem cutL_bd {T : Int} {ls : List Lev} (po : PO T ls) {x y more : Int} (hx : okB x = true) (hy : okB y = true) (hm : -1000 ≤ more ∧ more ≤ 1000) {i : Nat} (hi : i < (cutL ls x y more).length) :
    (0 ≤ fr (cutL ls x y more) i ∧ fr (cutL ls x y more) i ≤ 1000000000) ∧ (-1000 ≤ fe (cutL ls x y more) i ∧ fe (cutL ls x y more) i ≤ 2000) := by
  obtain ⟨x0, x1⟩ := okB_t hx
  obtain ⟨y0, y1⟩ := okB_t hy
  have hmem : (cutL ls x y more)[i] ∈ cutL ls x y more := List.getElem_mem hi
  rw [← get_fr hi, ← get_fe hi]
  rcases cutGo_mem _ _ _ _ _ _ _ _ _ hmem with h | ⟨h1, h2⟩
  · cases h
  · have t0 := timesC_mem po x0 y0 h1
    have tb : (cutL ls x y more)[i].1 ≤ 1000000000 := by
      unfold timesC at h1
      rcases List.mem_append.1 h1 with h | h
      · obtain ⟨l, hl, e⟩ := List.mem_map.1 h
        obtain ⟨j, hj, e2⟩ := List.getElem_of_mem hl
        have := (po.el j hj).1
        rw [← e, ← e2, get_fr hj]; omega
      · simp at h; omega
    have ha := po.at_bd t0
    refine ⟨⟨t0, tb⟩, ?_⟩
    rw [h2]
    unfold freeC
    split <;> omega

theorem levs_src {w : World} {b off : Nat} {ls : List Lev} (hat : LevAt w b off ls) : ∀ j u, (cellsOf ls)[j]? = some u → w.cell? ((⟨b, off, none⟩ : Addr).add j) = some u := by
  intro j u hj
  have hadd : (⟨b, off, none⟩ : Addr).add j = ⟨b, off + j, none⟩ := by unfold Addr.add; split <;> simp_all
  have hl := cellsOf_len ls
  have hjl : j < ls.length * 2 := by
    rcases Nat.lt_or_ge j (cellsOf ls).length with h1 | h1
    · omega
    · rw [List.getElem?_eq_none h1] at hj; cases hj
  obtain ⟨c0, c1⟩ := cellsOf_at ls (j / 2) (by omega)
  obtain ⟨a0, a1⟩ := hat (j / 2) (by omega)
  rw [hadd]
  rcases Nat.mod_two_eq_zero_or_one j with e | e
  · rw [show j / 2 * 2 = j by omega] at c0 a0
    rw [hj] at c0
    rw [a0, c0]
  · rw [show j / 2 * 2 + 1 = j by omega] at c1
    rw [show off + j / 2 * 2 + 1 = off + j by omega] at a1
    rw [hj] at c1
    rw [a1, c1]

theorem l2Told_any (T x y m : Int) (a : Option Addr) (n cap : Nat) (ls : List Lev) (w : World) (h : LevS w a n cap ls) :
    Calls Try.prog 67 #[.agg #[.int .i64 T, .slice a n cap], .int .i64 x, .int .i64 y, .int .i64 m] w fun e w' => e = .returned (.bool (poB T ls && (okB x && (okB y && inB m 0 1000)))) ∧ Below w.heap.size w w' := by
  rcases q1 : poB T ls with _ | _
  · go_enter Try.func67, Try.ntmps67
    go_wp2_with fail
    refine (specProfileOk_any T a n cap ls _ (h.below box_below)).mono ?_
    rw [q1]
    rintro e w1 ⟨rfl, hb1⟩
    go_wp2
    go_ret
    exact ⟨rfl, box_below.then hb1 (by simp)⟩
  · rcases q2 : okB x with _ | _
    · go_enter Try.func67, Try.ntmps67
      go_wp2_with fail
      refine (specProfileOk_any T a n cap ls _ (h.below box_below)).mono ?_
      rw [q1]
      rintro e w1 ⟨rfl, hb1⟩
      go_wp2_with (go_at_call 58; refine (specOk_any _ _).mono ?_; rw [q2]; rintro e w' ⟨rfl, rfl⟩)
      go_ret
      exact ⟨rfl, box_below.then hb1 (by simp)⟩
    · rcases q3 : okB y with _ | _
      · go_enter Try.func67, Try.ntmps67
        go_wp2_with fail
        refine (specProfileOk_any T a n cap ls _ (h.below box_below)).mono ?_
        rw [q1]
        rintro e w1 ⟨rfl, hb1⟩
        go_wp2_with fail
        refine (specOk_any _ _).mono ?_
        rw [q2]
        rintro e w' ⟨rfl, rfl⟩
        go_wp2_with fail
        refine (specOk_any _ _).mono ?_
        rw [q3]
        rintro e w' ⟨rfl, rfl⟩
        go_wp2
        go_ret
        exact ⟨rfl, box_below.then hb1 (by simp)⟩
      · go_enter Try.func67, Try.ntmps67
        go_wp2_with fail
        refine (specProfileOk_any T a n cap ls _ (h.below box_below)).mono ?_
        rw [q1]
        rintro e w1 ⟨rfl, hb1⟩
        go_wp2_with fail
        refine (specOk_any _ _).mono ?_
        rw [q2]
        rintro e w' ⟨rfl, rfl⟩
        go_wp2_with fail
        refine (specOk_any _ _).mono ?_
        rw [q3]
        rintro e w' ⟨rfl, rfl⟩
        go_wp2_with fail
        refine (l1In_any _ _ _ _).mono ?_
        rintro e w' ⟨rfl, rfl⟩
        go_wp2
        go_ret
        exact ⟨rfl, box_below.then hb1 (by simp)⟩

end Go.Proofs.Ytplcpiglciplkaa
