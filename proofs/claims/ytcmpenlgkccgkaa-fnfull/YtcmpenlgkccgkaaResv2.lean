/- Reserve of the model: a copy, or a cut. -/
import Derived.Test.YtcmpenlgkccgkaaPkC
namespace Go.Proofs.Ytcmpenlgkccgkaa
open Go.RowKit

/-- block B is a row of the call's own with room for c levels, its first n those of ls -/
def LevD (w : World) (B n c : Nat) (ls : List Lev) : Prop :=
  ∃ cur : Array Value, w.heap[B]? = some (.cells cur 80 (0, 0)) ∧ cur.size = c * 2 ∧ n ≤ c ∧ ∀ i, i < n → cur[i * 2]? = some (.int .i64 (fr ls i)) ∧ cur[i * 2 + 1]? = some (.int .i64 (fe ls i))
theorem LevD.toC {w : World} {B n c : Nat} {ls : List Lev} (h : LevD w B n c ls) : LevC w B n ls := by
  obtain ⟨cur, h1, h2, h3, h4⟩ := h
  exact ⟨cur, h1, by omega, h4⟩
theorem LevD.lt {w : World} {B n c : Nat} {ls : List Lev} (h : LevD w B n c ls) : B < w.heap.size := h.toC.lt
theorem LevD.blk {w w' : World} {B n c : Nat} {ls : List Lev} (h : LevD w B n c ls) (hb : w'.heap[B]? = w.heap[B]?) : LevD w' B n c ls := by
  obtain ⟨cur, h1, h2⟩ := h
  exact ⟨cur, by rw [hb]; exact h1, h2⟩
theorem LevD.below {w w' : World} {B n c : Nat} {ls : List Lev} (h : LevD w B n c ls) (ho : Below w.heap.size w w') : LevD w' B n c ls := h.blk (ho.block B h.lt)
theorem LevD.toS {w : World} {B n cap : Nat} {ls : List Lev} (h : LevD w B n cap ls) (hl : ls.length = n) (hn : n ≤ cap) (hm : cap ≤ maxLen)
    (wf : ∀ i, i < n → (-9223372036854775808 ≤ fr ls i ∧ fr ls i ≤ 9223372036854775807) ∧ (-9223372036854775808 ≤ fe ls i ∧ fe ls i ≤ 9223372036854775807)) : LevS w (some ⟨B, 0, none⟩) n cap ls := h.toC.toS hl hn hm wf
theorem levB_toD {w : World} {B n : Nat} {ls : List Lev} (h : LevB w B n n ls) : LevD w B n n ls := by
  obtain ⟨cur, h1, h2, h3⟩ := h
  exact ⟨cur, h1, h2, Nat.le_refl _, h3⟩
theorem own_levD {w : World} {base : Nat} {v : Value} {out : List Lev} (h : w.ownsRow base 80 2 v out.length (cellsOf out)) (hn : 0 < out.length) :
    ∃ g cap, v = .slice (some ⟨g, 0, none⟩) out.length cap ∧ base ≤ g ∧ out.length ≤ cap ∧ cap ≤ maxLen ∧ LevD w g out.length cap out := by
  rcases h.2 with ⟨rfl, h0⟩ | ⟨g, cap, cur, rfl, hb, hg, h1, h2, h3, h4⟩
  · omega
  · refine ⟨g, cap, rfl, hb, h1, h2, cur, hg, h3, h1, fun i hi => ?_⟩
    obtain ⟨c0, c1⟩ := cellsOf_at out i hi
    have e : ∀ j, j < out.length * 2 → cur[j]? = (cellsOf out)[j]? := fun j hj => by
      rw [← h4, List.getElem?_take, if_pos hj, Array.getElem?_toList]
    exact ⟨(e _ (by omega)).trans c0, (e _ (by omega)).trans c1⟩
theorem LevD.own {w : World} {B c base : Nat} {ls : List Lev} (h : LevD w B ls.length c ls) (hm : c ≤ maxLen) (hb : base ≤ B) : w.ownsRow base 80 2 (.slice (some ⟨B, 0, none⟩) ls.length c) ls.length (cellsOf ls) := by
  obtain ⟨cur, h1, h2, h3, h4⟩ := h
  refine ⟨cellsOf_len ls, .inr ⟨B, c, cur, rfl, hb, h1, h3, hm, h2, ?_⟩⟩
  have hl := cellsOf_len ls
  apply List.ext_getElem?
  intro j
  by_cases hj : j < ls.length * 2
  · rw [List.getElem?_take, if_pos hj, Array.getElem?_toList]
    obtain ⟨c0, c1⟩ := cellsOf_at ls (j / 2) (by omega)
    obtain ⟨a0, a1⟩ := h4 (j / 2) (by omega)
    rcases Nat.mod_two_eq_zero_or_one j with e | e
    · rw [show j / 2 * 2 = j by omega] at c0 a0; rw [a0, c0]
    · rw [show j / 2 * 2 + 1 = j by omega] at c1 a1; rw [a1, c1]
  · rw [List.getElem?_take, if_neg hj, List.getElem?_eq_none (by omega)]

theorem boxAt {W W' : World} {v0 v1 : Value} {T : TypeId} {k : Nat} (hk : k = W.heap.size) (hb : Below (W.alloc (.cells #[v0, v1] T)).heap.size (W.alloc (.cells #[v0, v1] T)) W') : W'.heap[k]? = some (.cells #[v0, v1] T (0, 0)) := by
  subst hk; exact (hb.block _ (by simp)).trans (heap_alloc_new _ _)

set_option maxRecDepth 8000 in
set_option maxHeartbeats 2000000 in
theorem l2Copy_any (T : Int) (a : Option Addr) (n cap : Nat) (ls : List Lev) (w : World) (h : LevS w a n cap ls) (h0 : 0 < n) (hn : n ≤ 1000) :
    Calls Try.prog 43 #[.agg #[.int .i64 T, .slice a n cap]] w fun e w' => ∃ g c, e = .returned (.agg #[.int .i64 T, .slice (some ⟨g, 0, none⟩) n c]) ∧ w.heap.size ≤ g ∧ n ≤ c ∧ c ≤ maxLen ∧ LevD w' g n c ls ∧ Below w.heap.size w w' := by
  obtain ⟨i1, hj, hj0, hj1, hj2⟩ := info_parts info69
  have hlen := h.len
  subst hlen
  obtain ⟨b, off, rfl, hbw, hat⟩ := h.at_ h0
  go_enter Try.func43, Try.ntmps43
  go_wp2_with fail
  obtain ⟨W, hW⟩ : ∃ W, W = (w.alloc (.cells #[.int .i64 T, .slice (some ⟨b, off, none⟩) ls.length cap] 38)).alloc (.cells #[.int .i64 0, .slice none 0 0] 38) := ⟨_, rfl⟩
  rw [← hW]
  have BW : Below w.heap.size w W := by rw [hW]; exact box_below.alloc (by simp) _
  have hz : w.heap.size + 2 ≤ W.heap.size := by rw [hW]; simp
  have bA : W.heap[w.heap.size]? = some (.cells #[.int .i64 T, .slice (some ⟨b, off, none⟩) ls.length cap] 38 (0, 0)) := by rw [hW]; exact (Below.heap_alloc _ _ _ (by simp)).trans (heap_alloc_new _ _)
  have bR : W.heap[w.heap.size + 1]? = some (.cells #[.int .i64 0, .slice none 0 0] 38 (0, 0)) := by rw [hW]; exact new_at _ _ _ (by simp)
  clear hW
  obtain ⟨a0, a1, _, _⟩ := boxed bA
  obtain ⟨r0, r1, f0, f1⟩ := boxed bR
  have hatW := hat.below BW hbw
  have HC : ∀ j u, (cellsOf ls)[j]? = some u → (W.alloc (.cells #[] 80)).cell? ((⟨b, off, none⟩ : Addr).add j) = some u := fun j u hj => by
    have h1 := levs_src hatW j u hj
    rw [World.cell?_alloc_lt _ _ _ (World.block_lt_of_cell? W _ h1)]
    exact h1
  have OE := World.ownsRow_made (base := W.heap.size) (e := 80) (size := 2) W #[] 0 (Nat.le_refl _) (Nat.zero_le _) rfl
  have hl2 : (cellsOf ls).length = ls.length * 2 := cellsOf_len ls
  have OEd : ((W.alloc (.cells #[] 80)).drew).ownsRow W.heap.size 80 2 (.slice (some ⟨W.heap.size, 0, none⟩) 0 0) 0 [] := OE
  have HCd : ∀ j u, (cellsOf ls)[j]? = some u → ((W.alloc (.cells #[] 80)).drew).cell? ((⟨b, off, none⟩ : Addr).add j) = some u := fun j u hj => HC j u hj
  have hlt := hbw
  clear OE HC hat hatW
  go_region_held3 (fun w' => w'.cell? ⟨w.heap.size, 0, none⟩ = some (.int .i64 T) ∧ w'.cell? ⟨w.heap.size, 1, none⟩ = some (.slice (some ⟨b, off, none⟩) ls.length cap)) (first | exact ⟨a5, a6⟩ | go_keep) (first
    | (refine step_append_own rfl (.tmp 5) (.tmp 7) 36 rfl W.heap.size 80 i1 (.agg #[.int .i64 0, .int .i64 0]) 2 16 Try.underlying36 hj hj0 hj1 hj2 rfl (by decide) (.slice (some ⟨W.heap.size, 0, none⟩) 0 0) 0 [] rfl OEd ⟨b, off, none⟩ ls.length cap (cellsOf ls) rfl hl2 HCd (cellsOf_one ls) (by unfold maxLen; omega) (by omega) (by simp) ?_
       intro v5 w5 own5 grow5 nil5 at5
       have bA5 : w5.heap[w.heap.size]? = some (.cells #[.int .i64 T, .slice (some ⟨b, off, none⟩) ls.length cap] 38 (0, 0)) := (grow5.block w.heap.size (by simp; omega) (by simp [Value.ownBlock]; omega)).trans ((Below.heap_alloc _ _ _ (by omega)).trans bA)
       have bR5 : w5.heap[w.heap.size + 1]? = some (.cells #[.int .i64 0, .slice none 0 0] 38 (0, 0)) := (grow5.block (w.heap.size + 1) (by simp; omega) (by simp [Value.ownBlock]; omega)).trans ((Below.heap_alloc _ _ _ (by omega)).trans bR)
       obtain ⟨a5, a6, _, _⟩ := boxed bA5
       obtain ⟨r5, r6, f5, f6⟩ := boxed bR5
       have own6 : w5.ownsRow W.heap.size 80 2 v5 ls.length (cellsOf ls) := by
         simpa using own5
       have B5 : Below W.heap.size W w5 := (box_below0.drew).grown grow5 (by simp) (fun r e => by simp [Value.ownBlock] at e; omega)
       obtain ⟨g, c, rfl, hg, hgc, hgm, hlc⟩ := own_levD own6 (by omega)
       clear own5 own6 grow5 nil5 at5))
  go_wp2
  obtain ⟨q0, q1⟩ := set2 bR5 (.int .i64 T) (.slice (some ⟨g, 0, none⟩) ls.length c)
  have hglt := hlc.lt
  obtain ⟨c0, c1, _, _⟩ := boxed q0
  have BF : Below w.heap.size w ((w5.setCell ⟨w.heap.size + 1, 0, none⟩ (.int .i64 T)).setCell ⟨w.heap.size + 1, 1, none⟩ (.slice (some ⟨g, 0, none⟩) ls.length c)) := ((BW.trans (B5.mono (by omega))).setCell (show w.heap.size ≤ w.heap.size + 1 by omega) _).setCell (show w.heap.size ≤ w.heap.size + 1 by omega) _
  have hlF := hlc.blk (q1 g (by omega))
  generalize (w5.setCell ⟨w.heap.size + 1, 0, none⟩ (.int .i64 T)).setCell ⟨w.heap.size + 1, 1, none⟩ (.slice (some ⟨g, 0, none⟩) ls.length c) = WF at c0 c1 BF hlF ⊢
  exact bodyPost_ret (v := .agg #[.int .i64 T, .slice (some ⟨g, 0, none⟩) ls.length c]) (by simp [results, Try.results43, go_sem, c0, c1]) rfl ⟨g, c, rfl, by omega, hgc, hgm, hlF, BF⟩

theorem own_levS {w : World} {base : Nat} {v : Value} {out : List Lev} (h : w.ownsRow base 80 2 v out.length (cellsOf out))
    (wf : ∀ i, i < out.length → (-9223372036854775808 ≤ fr out i ∧ fr out i ≤ 9223372036854775807) ∧ (-9223372036854775808 ≤ fe out i ∧ fe out i ≤ 9223372036854775807)) :
    ∃ a cap, v = .slice a out.length cap ∧ LevS w a out.length cap out := by
  by_cases h0 : 0 < out.length
  · obtain ⟨g, cap, e, _, h1, h2, h3⟩ := own_levC h h0
    exact ⟨_, cap, e, h3.toS rfl h1 h2 wf⟩
  · have e0 : out.length = 0 := by omega
    have eo : out = [] := List.eq_nil_of_length_eq_zero e0
    subst eo
    rcases h.2 with ⟨rfl, _⟩ | ⟨g, cap, cur, rfl, _, _, h1, h2, _⟩
    · exact ⟨.none, 0, rfl, LevS.nil_ w⟩
    · exact ⟨_, cap, rfl, rfl, h1, h2, (fun e => by cases e), fun i hi => absurd hi (by simp), fun hi => absurd hi (by simp)⟩

theorem wf_of_bd {l : List Lev} (h : ∀ i, i < l.length → (0 ≤ fr l i ∧ fr l i ≤ 1000000000) ∧ (-1000 ≤ fe l i ∧ fe l i ≤ 2000)) :
    ∀ i, i < l.length → (-9223372036854775808 ≤ fr l i ∧ fr l i ≤ 9223372036854775807) ∧ (-9223372036854775808 ≤ fe l i ∧ fe l i ≤ 9223372036854775807) := fun i hi => by
  have := h i hi; omega

/-- what a change leaves: the levels themselves, or cut -/
def chgL (ls : List Lev) (x y more : Int) : List Lev := if y ≤ x then ls else cutL ls x y more

set_option maxRecDepth 8000 in
set_option maxHeartbeats 2000000 in
theorem l2Change_any (T x y more : Int) (a : Option Addr) (n cap : Nat) (ls : List Lev) (w : World) (h : LevS w a n cap ls) (po : PO T ls) (hx : okB x = true) (hy : okB y = true) (hm : -1000 ≤ more ∧ more ≤ 1000) :
    Calls Try.prog 70 #[.agg #[.int .i64 T, .slice a n cap], .int .i64 x, .int .i64 y, .int .i64 more] w fun e w' => Below w.heap.size w w' ∧
      ((poB T (chgL ls x y more) = true ∧ ∃ g c, e = .returned (.tuple #[.agg #[.int .i64 T, .slice (some ⟨g, 0, none⟩) (chgL ls x y more).length c], .bool true]) ∧ w.heap.size ≤ g ∧ (chgL ls x y more).length ≤ c ∧ c ≤ maxLen ∧ LevD w' g (chgL ls x y more).length c (chgL ls x y more)) ∨
       (poB T (chgL ls x y more) = false ∧ e = .returned (.tuple #[.agg #[.int .i64 0, .slice none 0 0], .bool false]))) := by
  have hlen := h.len
  subst hlen
  have n1 := po.n1
  have n2 := po.n2
  by_cases c : y ≤ x
  · have e : chgL ls x y more = ls := if_pos c
    rw [e]
    clear e
    have hbA : ∀ W, Below ((w.alloc (.cells #[.int .i64 T, .slice a ls.length cap] 38)).alloc (.cells #[.int .i64 0, .slice none 0 0] 38)).heap.size ((w.alloc (.cells #[.int .i64 T, .slice a ls.length cap] 38)).alloc (.cells #[.int .i64 0, .slice none 0 0] 38)) W → W.heap[w.heap.size + 1]? = some (.cells #[.int .i64 0, .slice none 0 0] 38 (0, 0)) := fun W hW => boxAt (by simp) hW
    have BW : Below w.heap.size w ((w.alloc (.cells #[.int .i64 T, .slice a ls.length cap] 38)).alloc (.cells #[.int .i64 0, .slice none 0 0] 38)) := box_below.alloc (by simp) _
    go_enter Try.func70, Try.ntmps70
    go_wp2_with fail
    refine (l2Copy_any T a ls.length cap ls _ (h.below BW) (by omega) (by omega)).mono ?_
    rintro e w1 ⟨g, cc, rfl, hg, hgc, hgm, hl1, hb1⟩
    have bR := hbA w1 hb1
    obtain ⟨r0, r1, f0, f1⟩ := boxed bR
    have hg2 : w.heap.size + 2 ≤ g := by simpa using hg
    obtain ⟨q0, q1⟩ := set2 bR (.int .i64 T) (.slice (some ⟨g, 0, none⟩) ls.length cc)
    obtain ⟨c0, c1, _, _⟩ := boxed q0
    have BF : Below w.heap.size w ((w1.setCell ⟨w.heap.size + 1, 0, none⟩ (.int .i64 T)).setCell ⟨w.heap.size + 1, 1, none⟩ (.slice (some ⟨g, 0, none⟩) ls.length cc)) := ((BW.then hb1 BW.size).setCell (show w.heap.size ≤ w.heap.size + 1 by omega) _).setCell (show w.heap.size ≤ w.heap.size + 1 by omega) _
    have hlF := hl1.blk (q1 g (by omega))
    clear q0 q1 hbA bR
    have HC : Hid _ := And.intro c0 c1
    clear c0 c1
    go_wp2
    obtain ⟨c0, c1⟩ := HC.out
    generalize (w1.setCell ⟨w.heap.size + 1, 0, none⟩ (.int .i64 T)).setCell ⟨w.heap.size + 1, 1, none⟩ (.slice (some ⟨g, 0, none⟩) ls.length cc) = WF at c0 c1 BF hlF ⊢
    exact bodyPost_ret (v := .tuple #[.agg #[.int .i64 T, .slice (some ⟨g, 0, none⟩) ls.length cc], .bool true]) (by simp [results, Try.results70, go_sem, c0, c1]) rfl ⟨BF, Or.inl ⟨poB_mk po, g, cc, rfl, by omega, hgc, hgm, hlF⟩⟩
  · have e : chgL ls x y more = cutL ls x y more := if_neg c
    rw [e]
    clear e
    have wf := wf_of_bd (fun i hi => cutL_bd po hx hy hm (i := i) hi)
    have hbA : ∀ W, Below ((w.alloc (.cells #[.int .i64 T, .slice a ls.length cap] 38)).alloc (.cells #[.int .i64 0, .slice none 0 0] 38)).heap.size ((w.alloc (.cells #[.int .i64 T, .slice a ls.length cap] 38)).alloc (.cells #[.int .i64 0, .slice none 0 0] 38)) W → W.heap[w.heap.size + 1]? = some (.cells #[.int .i64 0, .slice none 0 0] 38 (0, 0)) := fun W hW => boxAt (by simp) hW
    have BW : Below w.heap.size w ((w.alloc (.cells #[.int .i64 T, .slice a ls.length cap] 38)).alloc (.cells #[.int .i64 0, .slice none 0 0] 38)) := box_below.alloc (by simp) _
    go_enter Try.func70, Try.ntmps70
    go_wp2_with fail
    rcases hpo : poB T (cutL ls x y more) with _ | _
    · skip
      refine (l2Cut_any T x y more a ls.length cap ls _ (h.below BW) po hx hy hm).mono ?_
      rintro e w1 ⟨v, rfl, own, hb1⟩
      obtain ⟨a', cc, rfl, LS⟩ := own_levS own wf
      have z1 := hb1.size
      have hz1 : w.heap.size + 2 ≤ w1.heap.size := by simpa using z1
      have bR1 := hbA w1 hb1
      have bR2 : (w1.alloc (.cells #[.int .i64 T, .slice a' (cutL ls x y more).length cc] 38)).heap[w.heap.size + 1]? = some (.cells #[.int .i64 0, .slice none 0 0] 38 (0, 0)) := (Below.heap_alloc _ _ _ (by omega)).trans bR1
      have bO2 : (w1.alloc (.cells #[.int .i64 T, .slice a' (cutL ls x y more).length cc] 38)).heap[w1.heap.size]? = some (.cells #[.int .i64 T, .slice a' (cutL ls x y more).length cc] 38 (0, 0)) := heap_alloc_new _ _
      have B2 : Below w.heap.size w (w1.alloc (.cells #[.int .i64 T, .slice a' (cutL ls x y more).length cc] 38)) := (BW.then hb1 BW.size).alloc (by omega) _
      go_wp2_with fail
      refine (specProfileOk_any T a' (cutL ls x y more).length cc (cutL ls x y more) _ (LS.below box_below)).mono ?_
      rw [hpo]
      rintro e w3 ⟨rfl, hb3⟩
      have bR := (hb3.block _ (lt_of_block bR2)).trans bR2
      have bO := (hb3.block _ (lt_of_block bO2)).trans bO2
      have z3 := hb3.size
      have hz3 : w1.heap.size + 1 ≤ w3.heap.size := by simpa using z3
      obtain ⟨r0, r1, f0, f1⟩ := boxed bR
      obtain ⟨o0, o1, _, _⟩ := boxed bO
      obtain ⟨q0, q1⟩ := set2 bR (.int .i64 0) (.slice none 0 0)
      obtain ⟨c0, c1, _, _⟩ := boxed q0
      have BF : Below w.heap.size w ((w3.setCell ⟨w.heap.size + 1, 0, none⟩ (.int .i64 0)).setCell ⟨w.heap.size + 1, 1, none⟩ (.slice none 0 0)) := ((B2.then hb3 B2.size).setCell (show w.heap.size ≤ w.heap.size + 1 by omega) _).setCell (show w.heap.size ≤ w.heap.size + 1 by omega) _
      clear q0 q1 hbA bR bO bR1 bR2 bO2
      have HC : Hid _ := And.intro c0 c1
      clear c0 c1
      go_wp2
      obtain ⟨c0, c1⟩ := HC.out
      generalize (w3.setCell ⟨w.heap.size + 1, 0, none⟩ (.int .i64 0)).setCell ⟨w.heap.size + 1, 1, none⟩ (.slice none 0 0) = WF at c0 c1 BF ⊢
      exact bodyPost_ret (v := .tuple #[.agg #[.int .i64 0, .slice none 0 0], .bool false]) (by simp [results, Try.results70, go_sem, c0, c1]) rfl ⟨BF, Or.inr ⟨hpo, rfl⟩⟩
    · have pn1 : 0 < (cutL ls x y more).length := (poB_t hpo).n1
      refine (l2Cut_any T x y more a ls.length cap ls _ (h.below BW) po hx hy hm).mono ?_
      rintro e w1 ⟨v, rfl, own, hb1⟩
      obtain ⟨g, cc, rfl, hg, hgc, hgm, hlc⟩ := own_levD own pn1
      have LS := hlc.toS rfl hgc hgm wf
      have z1 := hb1.size
      have hz1 : w.heap.size + 2 ≤ w1.heap.size := by simpa using z1
      have bR1 := hbA w1 hb1
      have bR2 : (w1.alloc (.cells #[.int .i64 T, .slice (some ⟨g, 0, none⟩) (cutL ls x y more).length cc] 38)).heap[w.heap.size + 1]? = some (.cells #[.int .i64 0, .slice none 0 0] 38 (0, 0)) := (Below.heap_alloc _ _ _ (by omega)).trans bR1
      have bO2 : (w1.alloc (.cells #[.int .i64 T, .slice (some ⟨g, 0, none⟩) (cutL ls x y more).length cc] 38)).heap[w1.heap.size]? = some (.cells #[.int .i64 T, .slice (some ⟨g, 0, none⟩) (cutL ls x y more).length cc] 38 (0, 0)) := heap_alloc_new _ _
      have B2 : Below w.heap.size w (w1.alloc (.cells #[.int .i64 T, .slice (some ⟨g, 0, none⟩) (cutL ls x y more).length cc] 38)) := (BW.then hb1 BW.size).alloc (by omega) _
      go_wp2_with fail
      refine (specProfileOk_any T (some ⟨g, 0, none⟩) (cutL ls x y more).length cc (cutL ls x y more) _ (LS.below box_below)).mono ?_
      rw [hpo]
      rintro e w3 ⟨rfl, hb3⟩
      have bR := (hb3.block _ (lt_of_block bR2)).trans bR2
      have bO := (hb3.block _ (lt_of_block bO2)).trans bO2
      have z3 := hb3.size
      have hz3 : w1.heap.size + 1 ≤ w3.heap.size := by simpa using z3
      obtain ⟨r0, r1, f0, f1⟩ := boxed bR
      obtain ⟨o0, o1, _, _⟩ := boxed bO
      have hl3 := (hlc.below box_below).below hb3
      have hglt := hlc.lt
      have hg2 : w.heap.size + 2 ≤ g := by simpa using hg
      obtain ⟨q0, q1⟩ := set2 bR (.int .i64 T) (.slice (some ⟨g, 0, none⟩) (cutL ls x y more).length cc)
      obtain ⟨c0, c1, _, _⟩ := boxed q0
      have BF : Below w.heap.size w ((w3.setCell ⟨w.heap.size + 1, 0, none⟩ (.int .i64 T)).setCell ⟨w.heap.size + 1, 1, none⟩ (.slice (some ⟨g, 0, none⟩) (cutL ls x y more).length cc)) := ((B2.then hb3 B2.size).setCell (show w.heap.size ≤ w.heap.size + 1 by omega) _).setCell (show w.heap.size ≤ w.heap.size + 1 by omega) _
      have hlF := hl3.blk (q1 g (by omega))
      clear q0 q1 hbA bR bO bR1 bR2 bO2
      have HC : Hid _ := And.intro c0 c1
      clear c0 c1
      go_wp2
      obtain ⟨c0, c1⟩ := HC.out
      generalize (w3.setCell ⟨w.heap.size + 1, 0, none⟩ (.int .i64 T)).setCell ⟨w.heap.size + 1, 1, none⟩ (.slice (some ⟨g, 0, none⟩) (cutL ls x y more).length cc) = WF at c0 c1 BF hlF ⊢
      exact bodyPost_ret (v := .tuple #[.agg #[.int .i64 T, .slice (some ⟨g, 0, none⟩) (cutL ls x y more).length cc], .bool true]) (by simp [results, Try.results70, go_sem, c0, c1]) rfl ⟨BF, Or.inl ⟨hpo, g, cc, rfl, by omega, hgc, hgm, hlF⟩⟩

end Go.Proofs.Ytcmpenlgkccgkaa
