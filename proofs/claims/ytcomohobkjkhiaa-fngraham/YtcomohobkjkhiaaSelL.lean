/- Longest of the model. -/
import Derived.Test.YtcomohobkjkhiaaSels
import Derived.Test.YtcomohobkjkhiaaRuleL
namespace Go.Proofs.Ytcomohobkjkhiaa
open Go.RowKit Go.Sort

set_option maxRecDepth 8000 in
set_option maxHeartbeats 2000000 in
theorem specLongest_any (a : Option Addr) (n cap : Nat) (ls : List Jb) (w0 : World) (h0 : JobS w0 a n cap ls) :
    Calls Try.prog 15 #[.slice a n cap] w0 fun e w' => ∃ g c ys, e = .returned (.slice (some ⟨g, 0, none⟩) ys.length c) ∧ OwnJ w' w0.heap.size g c ys ∧ IsBy ltLongest ls ys ∧ Below w0.heap.size w0 w' := by
  have hlen := h0.len
  rcases hq : jsB ls with _ | _
  · go_enter Try.func15, Try.ntmps15
    go_wp2_with (go_at_call 32; refine (specJobsOk_any _ _ _ _ _ h0).mono ?_; rw [hq]; rintro e w1 ⟨rfl, hb1⟩)
    go_ret
    exact ⟨w1.heap.size, 0, [], rfl, (own_nil w1).lower hb1.size, Or.inl ⟨hq, rfl⟩, hb1.alloc hb1.size _⟩
  · have hn : n ≤ 40 := by have := (jsB_t hq).n; omega
    go_enter Try.func15, Try.ntmps15
    go_wp2_with fail
    refine (specJobsOk_any _ _ _ _ _ h0).mono ?_
    rw [hq]
    rintro e w ⟨rfl, hb1⟩
    have h := h0.below hb1
    obtain ⟨i1, hj, hj0, hj1, hj2⟩ := info_parts infoI
    have hm := h.mx
    have hle := h.le
    unfold maxLen at hm
    have own0 : (w.alloc (.cells #[] 2)).ownsRow w.heap.size 2 1 (.slice (some ⟨w.heap.size, 0, none⟩) 0 0) 0 [] := World.ownsRow_made w #[] 0 (Nat.le_refl _) (Nat.zero_le _) rfl
    have bx : Below w.heap.size w (w.alloc (.cells #[] 2)) := (Below.refl _ _).alloc (Nat.le_refl _) _
    clear h0
    go_wp2
    go_loopw [3, 4] (fun u i wr => ∃ (k g uc : Nat), k ≤ n ∧ i = .int .i64 k ∧ u = .slice (some ⟨g, 0, none⟩) k uc ∧ Hid (wr.ownsRow w.heap.size 2 1 (.slice (some ⟨g, 0, none⟩) k uc) k ((keysL (fun j : Jb => -j.long) ls k).map (Value.int .i64))) ∧ Below w.heap.size w wr) (fun _ i _ => n - (intOf i).toNat)
    case atStart => exact ⟨0, _, 0, by omega, rfl, rfl, own0, bx⟩
    case round =>
      obtain ⟨k, g, uc, hk, rfl, rfl, HO, hw⟩ := hrel
      by_cases hlt : k < n
      · obtain ⟨b, off, rfl, hbw, hat⟩ := h.at_ (by omega)
        have hc := (hat.below hw hbw) k (by omega) 2 (by omega)
        simp only [jc] at hc
        have hlt' : (k : Int) < (n : Int) := by omega
        have jb := jok_bd ((jsB_t hq).ok k (by omega)).1
        obtain ⟨jb0, jb1, _⟩ := jb
        have HS : Hid (keysL (fun j : Jb => -j.long) ls (k + 1) = keysL (fun j : Jb => -j.long) ls k ++ [-(jg ls k).long]) := mapκ_succ (fun j : Jb => -j.long) ls (by omega)
        have OA : (wr.alloc (.cells #[.int .i64 (-(jg ls k).long)] 2)).ownsRow w.heap.size 2 1 (.slice (some ⟨g, 0, none⟩) k uc) k ((keysL (fun j : Jb => -j.long) ls k).map (Value.int .i64)) := ownI_below HO.out ((Below.refl _ _).alloc (Nat.le_refl _) _)
        have hz := hw.size
        go_wp2_with (at_builtin; refine wpList_append_own_at _ rfl (.tmp 16) (.tmp 23) 28 rfl w.heap.size 2 i1 (.int .i64 0) 1 8 Try.underlying28 hj hj0 hj1 hj2 rfl (by decide) _ _ _ rfl OA ⟨wr.heap.size, 0, none⟩ 1 1 [.int .i64 (-(jg ls k).long)] rfl rfl (own_one _ _ _) (by intro u hu; simp at hu; subst hu; rfl) (by unfold maxLen; omega) (by omega) (by simp; omega) ?_)
        intro v3 w3 own3 grow3 nil3 at3
        have hg := (World.ownsRow.lt HO.out) g rfl
        have B3 : Below w.heap.size w w3 := (hw.alloc hz _).grown grow3 (by simp; omega) (fun r e => by have e' : g = r := Option.some.inj e; omega)
        have own4 : w3.ownsRow w.heap.size 2 1 v3 (k + 1) ((keysL (fun j : Jb => -j.long) ls (k + 1)).map (Value.int .i64)) := by
          rw [HS.out, List.map_append]; exact own3
        obtain ⟨g3, c3, rfl⟩ : ∃ g3 c3, v3 = .slice (some ⟨g3, 0, none⟩) (k + 1) c3 := by
          rcases own4.2 with ⟨_, h0⟩ | ⟨g3, c3, _, e, _⟩
          · omega
          · exact ⟨g3, c3, e⟩
        have HO4 : Hid _ := own4
        clear own3 own4 grow3 nil3 at3 OA
        go_wp2
        go_roundw
        case rel => exact ⟨k + 1, g3, c3, by omega, by go_num, rfl, HO4, B3⟩
        case measure => simp [intOf]; omega
      · have e : k = n := by omega
        subst e
        obtain ⟨h1, _, h3, h4, h5⟩ := own_ints HO.out
        have hI : IntS wr (some ⟨g, 0, none⟩) k uc (ls.map (fun j : Jb => -j.long)) := by
          have e : keysL (fun j : Jb => -j.long) ls k = ls.map (fun j : Jb => -j.long) := by unfold keysL; rw [List.take_of_length_le (by omega)]
          rw [e] at h1
          exact h1.toS (by simp [hlen]) h3 h4
        clear HO h1
        go_wp2_with (go_at_call 36; refine (l5By_any (fun j : Jb => -j.long) a k cap ls _ uc _ (h.below hw) hI hn).mono ?_; rintro e w2 ⟨g2, c2, ys, rfl, O2, hyl, hp, hs, hb2⟩)
        go_ret
        exact ⟨g2, c2, ys, by rw [hyl]; rfl, (O2.lower hw.size).lower hb1.size, Or.inr ⟨hq, hp, hs⟩, hb1.then (hw.then hb2 hw.size) hb1.size⟩


theorem specLongestQ_any (a : Option Addr) (n cap : Nat) (ls : List Jb) (w : World) (h : JobS w a n cap ls) :
    Calls Try.prog 15 #[.slice a n cap] w fun e w' => ∃ v m cap' ys, e = .returned (.slice v m cap') ∧ JobS w' v m cap' ys ∧ IsBy ltLongest ls ys ∧ Below w.heap.size w w' := by
  have hlen := h.len
  refine (specLongest_any a n cap ls w h).mono ?_
  rintro e w' ⟨g, c, ys, rfl, O, hQ, hb⟩
  exact ⟨_, _, _, ys, rfl, O.toS (hQ.wf (fun i hi => h.wf i (by omega))), hQ, hb⟩

end Go.Proofs.Ytcomohobkjkhiaa
