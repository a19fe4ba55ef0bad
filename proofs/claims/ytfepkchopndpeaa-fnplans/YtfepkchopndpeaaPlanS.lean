/- Planned and Strict of the model. -/
import Derived.Test.YtfepkchopndpeaaPlanQ
import Derived.Test.YtfepkchopndpeaaPkB
import Derived.Test.YtfepkchopndpeaaPkC
import Derived.Test.YtfepkchopndpeaaPkD
import Derived.Test.YtfepkchopndpeaaInts
import Derived.Deep.RegionHeld3
import Derived.Deep.Cut
import Derived.Deep.CutRange
namespace Go.Proofs.Ytfepkchopndpeaa
open Go.RowKit Go.Sort

theorem LevS.blkS {w w' : World} {a : Option Addr} {n cap : Nat} {ls : List Lev} (h : LevS w a n cap ls) (hz : w.heap.size ≤ w'.heap.size) (hk : ∀ b off, a = some ⟨b, off, Option.none⟩ → w'.heap[b]? = w.heap[b]?) : LevS w' a n cap ls :=
  ⟨h.len, h.le, h.mx, h.nil, h.wf, fun hn => by
    obtain ⟨b, off, e, h1, h2⟩ := h.at_ hn
    have hb := hk b off e
    exact ⟨b, off, e, Nat.lt_of_lt_of_le h1 hz, fun i hi => ⟨(World.cell?_of_block (a := ⟨b, off + i * 2, Option.none⟩) hb).trans (h2 i hi).1, (World.cell?_of_block (a := ⟨b, off + i * 2 + 1, Option.none⟩) hb).trans (h2 i hi).2⟩⟩⟩

/-- told alike whether the change is right or not -/
theorem l2Change_un (T x y more : Int) (a : Option Addr) (n cap : Nat) (ls : List Lev) (w : World) (h : LevS w a n cap ls) (po : PO T ls) (hx : okB x = true) (hy : okB y = true) (hm : -1000 ≤ more ∧ more ≤ 1000) :
    Calls Try.prog 48 #[.agg #[.int .i64 T, .slice a n cap], .int .i64 x, .int .i64 y, .int .i64 more] w fun e w' => ∃ (T' : Int) (v : Option Addr) (n' c' : Nat) (b : Bool), e = .returned (.tuple #[.agg #[.int .i64 T', .slice v n' c'], .bool b]) ∧ Below w.heap.size w w' ∧ b = poB T (chgL ls x y more) ∧
      (b = true → ∃ g : Nat, T' = T ∧ v = some ⟨g, 0, none⟩ ∧ n' = (chgL ls x y more).length ∧ w.heap.size ≤ g ∧ (chgL ls x y more).length ≤ c' ∧ c' ≤ maxLen ∧ LevD w' g (chgL ls x y more).length c' (chgL ls x y more)) := by
  refine (l2Change_any T x y more a n cap ls w h po hx hy hm).mono ?_
  rintro e w' ⟨hb, ⟨hr, g, c, rfl, hg, hgc, hgm, hlc⟩ | ⟨hr, rfl⟩⟩
  · exact ⟨T, _, _, _, true, rfl, hb, hr.symm, fun _ => ⟨g, rfl, rfl, rfl, hg, hgc, hgm, hlc⟩⟩
  · exact ⟨0, none, 0, 0, false, rfl, hb, hr.symm, fun h => by cases h⟩

/-- the profile that is left in its box, the starts in a row of their own -/
structure PlW (w W : World) (P g uc k : Nat) (T : Int) (v : Option Addr) (n' c' : Nat) (l : List Lev) (ss : List Int) : Prop where
  bel : Below w.heap.size w W
  box : W.heap[P]? = some (.cells #[.int .i64 T, .slice v n' c'] 26 (0, 0))
  lev : LevS W v n' c' l
  far : ∀ b off, v = some ⟨b, off, none⟩ → b ≠ P ∧ b ≠ g
  row : W.ownsRow w.heap.size 2 1 (.slice (some ⟨g, 0, none⟩) k uc) k (ss.map (Value.int .i64))
  p0 : w.heap.size ≤ P
  ne : g ≠ P
theorem PlW.below {w W W' : World} {P g uc k : Nat} {T : Int} {v : Option Addr} {n' c' : Nat} {l : List Lev} {ss : List Int} (h : PlW w W P g uc k T v n' c' l ss) (hb : Below W.heap.size W W') : PlW w W' P g uc k T v n' c' l ss :=
  ⟨h.bel.then hb h.bel.size, (hb.block P (lt_of_block h.box)).trans h.box, h.lev.below hb, h.far, ownI_below h.row hb, h.p0, h.ne⟩
theorem PlW.cell {w W : World} {P g uc k : Nat} {T : Int} {v : Option Addr} {n' c' : Nat} {l : List Lev} {ss : List Int} (h : PlW w W P g uc k T v n' c' l ss) : W.cell? ⟨P, 0, none⟩ = some (.int .i64 T) ∧ W.cell? ⟨P, 1, none⟩ = some (.slice v n' c') ∧ W.frozen? ⟨P, 0, none⟩ = false ∧ W.frozen? ⟨P, 1, none⟩ = false := by
  simp [World.cell?, World.frozen?, h.box]
theorem PlW.put {w W : World} {P g uc k : Nat} {T : Int} {v : Option Addr} {n' c' : Nat} {l : List Lev} {ss : List Int} (h : PlW w W P g uc k T v n' c' l ss) {g' c2 : Nat} {l2 : List Lev} (hl : LevD W g' l2.length c2 l2) (hc : l2.length ≤ c2) (hm : c2 ≤ maxLen) (hP : g' ≠ P) (hg : g' ≠ g)
    (wf : ∀ i, i < l2.length → (-9223372036854775808 ≤ fr l2 i ∧ fr l2 i ≤ 9223372036854775807) ∧ (-9223372036854775808 ≤ fe l2 i ∧ fe l2 i ≤ 9223372036854775807)) :
    PlW w ((W.setCell ⟨P, 0, none⟩ (.int .i64 T)).setCell ⟨P, 1, none⟩ (.slice (some ⟨g', 0, none⟩) l2.length c2)) P g uc k T (some ⟨g', 0, none⟩) l2.length c2 l2 ss := by
  obtain ⟨q0, q1⟩ := Proofs.Ytfepkchopndpeaa.set2 h.box (.int .i64 T) (.slice (some ⟨g', 0, none⟩) l2.length c2)
  have hL := hl.toS rfl hc hm wf
  exact ⟨(h.bel.setCell h.p0 _).setCell h.p0 _, q0, hL.blkS (by simp [World.setCell]) (fun b off e => by cases e; exact q1 g' hP), (fun b off e => by cases e; exact ⟨hP, hg⟩), ownI_keep h.row (q1 g h.ne), h.p0, h.ne⟩
theorem PlW.grow {w W W' : World} {P g uc k : Nat} {T : Int} {v : Option Addr} {n' c' : Nat} {l : List Lev} {ss : List Int} (h : PlW w W P g uc k T v n' c' l ss) {g3 c3 : Nat} {z : Int} {o : Obj} (hn : 0 < n')
    (own : W'.ownsRow w.heap.size 2 1 (.slice (some ⟨g3, 0, none⟩) (k + 1) c3) (k + 1) (ss.map (Value.int .i64) ++ [.int .i64 z])) (gr : (W.alloc o).grownBy W' (some g)) (hg3 : g3 = g ∨ g3 = W.heap.size + 1) :
    PlW w W' P g3 c3 (k + 1) T v n' c' l (ss ++ [z]) := by
  have hz := h.bel.size
  have hgl := (World.ownsRow.lt h.row) g rfl
  have hgb := (own_ints h.row).2.2.2.2
  have hP := lt_of_block h.box
  obtain ⟨b, off, e, hb, _⟩ := h.lev.at_ hn
  have hf := h.far b off e
  have hbl : ∀ x, x < W.heap.size → x ≠ g → W'.heap[x]? = W.heap[x]? := fun x hx hne => (gr.block x (by simp; omega) (fun q => hne (Option.some.inj q))).trans (Below.heap_alloc _ _ _ hx)
  refine ⟨(h.bel.alloc hz o).grown gr (by simp; omega) (fun r q => by have := Option.some.inj q; omega), (hbl P hP (Ne.symm h.ne)).trans h.box, h.lev.blkS (Nat.le_trans (by simp) gr.size) (fun b' off' e' => ?_), (fun b' off' e' => ?_), by rw [List.map_append]; exact own, h.p0, ?_⟩
  · rw [e] at e'; cases e'
    exact hbl b hb hf.2
  · rw [e] at e'; cases e'
    rcases hg3 with q | q
    · rw [q]; exact hf
    · exact ⟨hf.1, by omega⟩
  · rcases hg3 with q | q
    · rw [q]; exact h.ne
    · omega

set_option maxRecDepth 8000 in
set_option maxHeartbeats 8000000 in
theorem l10Planned_any (T now : Int) (st : Bool) (a b : Option Addr) (n cap nb capb : Nat) (ls : List Lev) (js : List Jb) (w : World) (h : LevS w a n cap ls) (hjs : JobS w b nb capb js) (po : PlOk T ls now) (ok : JsOk js) :
    Calls Try.prog 39 #[.agg #[.int .i64 T, .slice a n cap], .slice b nb capb, .int .i64 now, .bool st] w fun e w' => ∃ g c, e = .returned (.slice (some ⟨g, 0, none⟩) nb c) ∧
      w'.ownsRow w.heap.size 2 1 (.slice (some ⟨g, 0, none⟩) nb c) nb ((staK T st ls now js nb).map (Value.int .i64)) ∧ Below w.heap.size w w' := by
  obtain ⟨i1, hj, hj0, hj1, hj2⟩ := info_parts infoI
  have hlenb := hjs.len
  have hmxb := hjs.mx
  have hleb := hjs.le
  have hnb := ok.n
  unfold maxLen at hmxb
  have hmo : Try.prog.follows .mixedOrders = true := by kernel_rfl
  obtain ⟨W0, hW0⟩ : ∃ W0, W0 = (w.alloc (.cells #[.int .i64 T, .slice a n cap] 26)).alloc (.cells #[] 2) := ⟨_, rfl⟩
  have H0 : PlW w W0 w.heap.size (w.heap.size + 1) 0 0 T a n cap ls [] := by
    rw [hW0]
    have hb : Below w.heap.size w ((w.alloc (.cells #[.int .i64 T, .slice a n cap] 26)).alloc (.cells #[] 2)) := box_below0.alloc (by simp) _
    refine ⟨hb, (Below.heap_alloc _ _ _ (by simp)).trans (heap_alloc_new _ _), h.below hb, fun b' off e => ?_, ?_, Nat.le_refl _, by omega⟩
    · obtain ⟨b2, off2, e2, hlt, _⟩ := h.at_ (by have := po.po.n1; have := h.len; omega)
      rw [e2] at e; cases e
      exact ⟨by omega, by omega⟩
    · have := World.ownsRow_made (w.alloc (.cells #[.int .i64 T, .slice a n cap] 26)) #[] 0 (base := w.heap.size) (e := 2) (size := 1) (by simp) (Nat.zero_le _) rfl
      simpa using this
  have hjs0 := hjs
  go_enter Try.func39, Try.ntmps39
  go_wp2
  rw [← hW0]
  clear hW0
  generalize hP : w.heap.size = P at H0 ⊢
  have HP : Hid (w.heap.size = P) := hP
  clear hP
  go_loopw [2, 9, 10, 11, 12, 13, 14] (fun nw u i _ _ _ _ wr => ∃ (k g uc : Nat) (V' : Option Addr) (N' C' : Nat), k ≤ nb ∧ i = .int .i64 k ∧ nw = .int .i64 (nowK T st ls now js k) ∧ u = .slice (some ⟨g, 0, none⟩) k uc ∧ Hid (PlW w wr P g uc k T V' N' C' (lefK T st ls now js k) (staK T st ls now js k))) (fun _ _ i _ _ _ _ _ => nb - (intOf i).toNat)
  case atStart => exact ⟨0, _, 0, a, n, cap, by omega, rfl, rfl, rfl, H0⟩
  case round =>
    obtain ⟨k, g, uc, V', N', C', hk, rfl, rfl, rfl, HW⟩ := hrel
    rename World => wr
    by_cases hlt : k < nb
    · have P1 := po.all (st := st) (js := js) k
      have hcl := jok_cl (ok.ok k (by omega)).1
      have hB := HW.out.bel
      have hz := hB.size
      obtain ⟨b1, off, rfl, hbw, hat⟩ := (hjs0.below hB).at_ (by omega)
      obtain ⟨hc0, hc1, hc2, hc3, hc4, hc5, hc6⟩ := hat.job (i := k) (by omega)
      have hlt' : (k : Int) < (nb : Int) := by omega
      obtain ⟨p0, p1, _, _⟩ := HW.out.cell
      have zP := lt_of_block HW.out.box
      have EA : Hid (at10 T st ls now js k = plT T (lefK T st ls now js k) (nowK T st ls now js k) (jg js k)) := rfl
      have EL : Hid (lefK T st ls now js (k + 1) = plL (lefK T st ls now js k) (jg js k) (at10 T st ls now js k)) := lefK_s k
      have EN : Hid (nowK T st ls now js (k + 1) = plN st (nowK T st ls now js k) (at10 T st ls now js k)) := nowK_s k
      have ES : Hid (staK T st ls now js (k + 1) = staK T st ls now js k ++ [at10 T st ls now js k]) := staK_s k
      obtain ⟨L', hL'⟩ : ∃ L', L' = lefK T st ls now js k := ⟨_, rfl⟩
      rw [← hL'] at HW P1 EA EL
      clear hL'
      obtain ⟨now', hnow'⟩ : ∃ now', now' = nowK T st ls now js k := ⟨_, rfl⟩
      rw [← hnow'] at P1 EA EN ⊢
      clear hnow'
      have PN := P1.po
      have W2' : Hid (∀ o, PlW w (wr.alloc o) P g uc k T V' N' C' L' (staK T st ls now js k)) := fun o => HW.out.below box_below0
      have hn0 : 0 < N' := by have := PN.n1; have := HW.out.lev.len; omega
      have D1' : ∀ o, PlW w (wr.alloc o) P g uc k T V' N' C' L' (staK T st ls now js k) := W2'.out
      have HDB' : ∀ o, (wr.alloc o).heap[wr.heap.size]? = some o := fun o => heap_alloc_new _ _
      clear W2'
      go_upto_region 6 with fail
      have D1 := D1' (.cells #[.int .i64 (jg js k).id, .int .i64 (jg js k).cores, .int .i64 (jg js k).long, .int .i64 (jg js k).due, .int .i64 (jg js k).wt, .int .i64 (jg js k).rank, .int .i64 (jg js k).at_] 44)
      have HDB := HDB' (.cells #[.int .i64 (jg js k).id, .int .i64 (jg js k).cores, .int .i64 (jg js k).long, .int .i64 (jg js k).due, .int .i64 (jg js k).wt, .int .i64 (jg js k).rank, .int .i64 (jg js k).at_] 44)
      clear D1' HDB' p0 p1 hc0 hc1 hc2 hc3 hc4 hc5 hc6
      generalize wr.alloc (.cells #[.int .i64 (jg js k).id, .int .i64 (jg js k).cores, .int .i64 (jg js k).long, .int .i64 (jg js k).due, .int .i64 (jg js k).wt, .int .i64 (jg js k).rank, .int .i64 (jg js k).at_] 44) = W1 at D1 HDB ⊢
      obtain ⟨p0, p1, _, _⟩ := D1.cell
      have zP1 := lt_of_block D1.box
      have zD1 := lt_of_block HDB
      have c1 : W1.cell? ⟨wr.heap.size, 1, none⟩ = some (.int .i64 (jg js k).cores) := by simp [World.cell?, HDB]
      have c2 : W1.cell? ⟨wr.heap.size, 2, none⟩ = some (.int .i64 (jg js k).long) := by simp [World.cell?, HDB]
      have HDB1 : Hid _ := HDB
      clear HDB
      by_cases hc : T < (jg js k).cores
      · have EAz : Hid (at10 T st ls now js k = -1) := EA.out.trans (by unfold plT; rw [if_pos hc])
        clear HDB1 EA
        have EN1 : Hid (nowK T st ls now js (k + 1) = now') := by unfold Hid; rw [EN.out, EAz.out]; unfold plN; rw [if_neg (by omega)]
        have EL1 : Hid (lefK T st ls now js (k + 1) = L') := by unfold Hid; rw [EL.out, EAz.out]; unfold plL; rw [if_neg (by omega)]
        have ES1 : Hid (staK T st ls now js (k + 1) = staK T st ls now js k ++ [-1]) := by unfold Hid; rw [ES.out, EAz.out]
        clear EN EL ES EAz
        have HR := D1.row
        have hz0 := D1.bel.size
        have OA : (W1.alloc (.cells #[.int .i64 (-1)] 2)).ownsRow w.heap.size 2 1 (.slice (some ⟨g, 0, none⟩) k uc) k ((staK T st ls now js k).map (Value.int .i64)) := ownI_below HR box_below0
        have HD : Hid (PlW w W1 P g uc k T V' N' C' L' (staK T st ls now js k)) := D1
        clear D1
        go_wp2_with (at_builtin; refine wpList_append_own_at _ rfl (.tmp 31) (.tmp 32) 30 rfl w.heap.size 2 i1 (.int .i64 0) 1 8 Try.underlying30 hj hj0 hj1 hj2 rfl (by decide) _ _ _ rfl OA ⟨W1.heap.size, 0, none⟩ 1 1 [.int .i64 (-1)] rfl rfl (own_one _ _ _) (by intro u hu; simp at hu; subst hu; rfl) (by unfold maxLen; omega) (by omega) (by simp; omega) ?_)
        intro v3 w9 own3 grow3 nil3 at3
        obtain ⟨g3, c3, rfl⟩ : ∃ g3 c3, v3 = .slice (some ⟨g3, 0, none⟩) (k + 1) c3 := by
          rcases own3.2 with ⟨_, h0⟩ | ⟨g3, c3, _, e, _⟩
          · omega
          · exact ⟨g3, c3, e⟩
        have hg3 : g3 = g ∨ g3 = W1.heap.size + 1 := by
          rcases at3 with e | e
          · exact Or.inl (by simpa [Value.ownBlock] using e)
          · exact Or.inr (by simpa [Value.ownBlock] using e)
        have HN : Hid (PlW w w9 P g3 c3 (k + 1) T V' N' C' L' (staK T st ls now js k ++ [-1])) := HD.out.grow hn0 own3 grow3 hg3
        clear own3 grow3 nil3 at3 OA HR HD
        go_wp2
        go_roundw
        case rel => first | exact ⟨k + 1, g3, c3, _, _, _, by omega, by go_num, by rw [EN1.out], rfl, by rw [EL1.out, ES1.out]; exact HN.out⟩ | ((repeat apply Exists.intro); exact ⟨⟨k + 1, g3, c3, _, _, _, by omega, by go_num, by rw [EN1.out], rfl, by rw [EL1.out, ES1.out]; exact HN.out⟩, rfl⟩)
        case measure => first | (simp [intOf]; done) | (simp [intOf]; omega)
      · have hb := PN.fit_bd (long := (jg js k).long) (n := (jg js k).cores) P1.n0 P1.n1
        obtain ⟨f, hf⟩ : ∃ f, f = fitI L' now' (jg js k).long (jg js k).cores := ⟨_, rfl⟩
        rw [← hf] at hb
        have HF : Hid (f = fitI L' now' (jg js k).long (jg js k).cores) := hf
        clear hf
        have hx1 : okB now' = true := inB_mk ⟨P1.n0, P1.n1⟩
        have hx2 : okB (jg js k).long = true := inB_mk (by omega)
        have hcn : (jg js k).cores ≤ T := by omega
        go_wp2_with fail
        refine (l2Fit_any T now' _ _ _ _ _ L' _ D1.lev PN hx1 hx2 hcn).mono ?_
        rintro e w2 ⟨e1, hb2⟩
        rw [← HF.out] at e1
        subst e1
        have D2 := D1.below hb2
        have HDB2 := (hb2.block _ (lt_of_block HDB1.out)).trans HDB1.out
        clear HDB1 D1 p0 p1 c1 c2
        by_cases hlt1 : f < 1000000000
        · have hn0' := P1.n0
          have hx0 : now' ≤ f := by omega
          obtain ⟨hy1, hy2⟩ := later_gt hlt1 hcl.2.2.1
          have hxo : okB f = true := inB_mk (by omega)
          have hyo : okB (laterI f (jg js k).long) = true := inB_mk (by omega)
          have hm : -1000 ≤ -(jg js k).cores ∧ -(jg js k).cores ≤ 1000 := by omega
          have hwn : IntKind.i64.wrap (-(jg js k).cores) = -(jg js k).cores := by rw [IntKind.wrap_i64]; omega
          have hf0 : 0 ≤ f := by omega
          have hf1 : f ≤ 1000000000 := by omega
          have hl0 : 0 ≤ (jg js k).long := by omega
          have hl1 : (jg js k).long ≤ 1000000000 := by omega
          obtain ⟨p0, p1, _, _⟩ := D2.cell
          have zP2 := lt_of_block D2.box
          have zD2 := lt_of_block HDB2
          have c1 : w2.cell? ⟨wr.heap.size, 1, none⟩ = some (.int .i64 (jg js k).cores) := by simp [World.cell?, HDB2]
          have c2 : w2.cell? ⟨wr.heap.size, 2, none⟩ = some (.int .i64 (jg js k).long) := by simp [World.cell?, HDB2]
          have zg2 := (World.ownsRow.lt D2.row) g rfl
          have HKK : Hid (∀ W, Below w2.heap.size w2 W → (W.cell? ⟨P, 0, none⟩ = some (.int .i64 T) ∧ W.cell? ⟨P, 1, none⟩ = some (.slice V' N' C') ∧ W.cell? ⟨wr.heap.size, 1, none⟩ = some (.int .i64 (jg js k).cores) ∧ W.cell? ⟨wr.heap.size, 2, none⟩ = some (.int .i64 (jg js k).long) ∧ Below w2.heap.size w2 W)) := fun W hW => by
            obtain ⟨q0, q1, _, _⟩ := (D2.below hW).cell
            have q2 := (hW.block _ zD2).trans HDB2
            exact ⟨q0, q1, by simp [World.cell?, q2], by simp [World.cell?, q2], hW⟩
          have KB : ∀ {W}, (W.cell? ⟨P, 0, none⟩ = some (.int .i64 T) ∧ W.cell? ⟨P, 1, none⟩ = some (.slice V' N' C') ∧ W.cell? ⟨wr.heap.size, 1, none⟩ = some (.int .i64 (jg js k).cores) ∧ W.cell? ⟨wr.heap.size, 2, none⟩ = some (.int .i64 (jg js k).long) ∧ Below w2.heap.size w2 W) → Below w2.heap.size w2 W := fun h => h.2.2.2.2
          have HG0 : Hid (Below w2.heap.size w2 w2) := Below.refl _ _
          have HG1 : Hid (Below w2.heap.size w2 w2.drew) := (Below.refl _ _).drew
          have HG2 : Hid (Below w2.heap.size w2 (w2.alloc (.cells #[.int .i64 0, .slice none 0 0] 26)).drew) := box_below0.drew
          have HG3 : Hid (Below w2.heap.size w2 (w2.alloc (.cells #[.int .i64 0, .slice none 0 0] 26))) := box_below0
          have HD2 : Hid (PlW w w2 P g uc k T V' N' C' L' (staK T st ls now js k)) := D2
          clear D2 HDB2
          have hdt : decide (f < 1000000000) = true := decide_eq_true hlt1
          go_upto_region 10 with fail
          try rw [hdt]
          go_cut [13, 14] from 43 to 55 (fun sb sf wx => ∃ (bx : Nat) (T' : Int) (v : Option Addr) (n' c' : Nat) (b : Bool), sb = .pointer (some ⟨bx, 0, none⟩) ∧ sf = .bool b ∧ wx.heap[bx]? = some (.cells #[.int .i64 T', .slice v n' c'] 26 (0, 0)) ∧ b = poB T (chgL L' f (laterI f (jg js k).long) (-(jg js k).cores)) ∧
            (b = true → ∃ g' : Nat, T' = T ∧ v = some ⟨g', 0, none⟩ ∧ n' = (chgL L' f (laterI f (jg js k).long) (-(jg js k).cores)).length ∧ w2.heap.size ≤ g' ∧ (chgL L' f (laterI f (jg js k).long) (-(jg js k).cores)).length ≤ c' ∧ c' ≤ maxLen ∧ LevD wx g' (chgL L' f (laterI f (jg js k).long) (-(jg js k).cores)).length c' (chgL L' f (laterI f (jg js k).long) (-(jg js k).cores))) ∧ w2.heap.size ≤ bx ∧ Below w2.heap.size w2 wx)
          case first =>
            go_region_held3 (fun w' => w'.cell? ⟨P, 0, none⟩ = some (.int .i64 T) ∧ w'.cell? ⟨P, 1, none⟩ = some (.slice V' N' C') ∧ w'.cell? ⟨wr.heap.size, 1, none⟩ = some (.int .i64 (jg js k).cores) ∧ w'.cell? ⟨wr.heap.size, 2, none⟩ = some (.int .i64 (jg js k).long) ∧ Below w2.heap.size w2 w') ((refine HKK.out _ ?_; first | with_reducible exact HG1.out | with_reducible exact HG2.out | with_reducible exact HG0.out | with_reducible exact HG3.out | with_reducible exact SB | with_reducible exact SB.alloc (by omega) _ | exact (SB.setCell (by first | exact Nat.le_refl _ | (dsimp only; omega) | omega) _).setCell (by first | exact Nat.le_refl _ | (dsimp only; omega) | omega) _)) (first
              | (go_at_call 44
                 refine (l1Later_any _ _ _ hf0 hf1 hl0 hl1).mono ?_
                 rintro e w5 ⟨rfl, rfl⟩)
              | (go_at_call 48
                 refine (l2Change_un T f _ _ _ _ _ L' _ ((HD2.out.below (KB (by assumption))).lev) PN hxo hyo hm).mono ?_
                 rintro e w7 ⟨T', v, n', c', b, rfl, hb7, hpo0, hor⟩
                 have hpo : Hid _ := hpo0
                 clear hpo0
                 have SB : Below w2.heap.size w2 w7 := (KB (by assumption)).then hb7 (KB (by assumption)).size
                 have z7 : w2.heap.size ≤ w7.heap.size := SB.size
                 have zc := (KB (by assumption)).size
                 first | (have NB := newblk hb7; have NC := boxed NB; have NL : w2.heap.size ≤ w2.heap.size := Nat.le_refl _) | (have NB := newblkd hb7; have NC := boxed NB; have NL : w2.heap.size ≤ w2.heap.size := Nat.le_refl _) | skip
                 clear hb7))
            all_goals
              go_wp2_with fail
              go_meet
              first
                | (refine ⟨_, T', v, n', c', b, rfl, rfl, heap_alloc_new _ _, hpo.out, fun hbt => ?_, ?_, SB.alloc z7 _⟩
                   · obtain ⟨g', h1, h2, h3, h4, h5, h6, h7⟩ := hor hbt
                     exact ⟨g', h1, h2, h3, Nat.le_trans zc h4, h5, h6, h7.below box_below⟩
                   · exact z7)
                | (have hS := NL
                   refine ⟨_, T', v, n', c', b, rfl, rfl, (Proofs.Ytfepkchopndpeaa.set2 NB _ _).1, hpo.out, fun hbt => ?_, hS, (SB.setCell hS _).setCell hS _⟩
                   obtain ⟨g', h1, h2, h3, h4, h5, h6, h7⟩ := hor hbt
                   have h4' : (w2.alloc (.cells #[.int .i64 0, .slice none 0 0] 26)).heap.size ≤ g' := h4
                   simp only [World.size_alloc] at h4'
                   refine ⟨g', h1, h2, h3, ?_, h5, h6, h7.blk ((Proofs.Ytfepkchopndpeaa.set2 NB _ _).2 g' ?_)⟩
                   · omega
                   · omega)
          case rest =>
            obtain ⟨bx, T', v, n', c', b, rfl, rfl, hbx, hpo, hor, hbl, B6⟩ := hcut
            have D6 := HD2.out.below B6
            obtain ⟨s0, s1, _, _⟩ := boxed hbx
            obtain ⟨t0, t1, t2, t3⟩ := D6.cell
            have zP6 := lt_of_block D6.box
            have zb6 := lt_of_block hbx
            have hbP : bx ≠ P := by omega
            clear p0 p1 c1 c2 KB HKK HG0 HG1 HG2 HG3 HD2
            cases b with
            | false =>
              have EAz : Hid (at10 T st ls now js k = 1000000000) := EA.out.trans (by unfold plT; rw [if_neg (by omega), ← HF.out, if_neg (fun h => by rw [← hpo] at h; cases h.2)])
              clear EA hor hpo hbx
              have EN1 : Hid (nowK T st ls now js (k + 1) = now') := by unfold Hid; rw [EN.out, EAz.out]; unfold plN; rw [if_neg (by omega)]
              have EL1 : Hid (lefK T st ls now js (k + 1) = L') := by unfold Hid; rw [EL.out, EAz.out]; unfold plL; rw [if_neg (by omega)]
              have ES1 : Hid (staK T st ls now js (k + 1) = staK T st ls now js k ++ [1000000000]) := by unfold Hid; rw [ES.out, EAz.out]
              clear EN EL ES EAz
              have HR := D6.row
              have hz0 := D6.bel.size
              have OA : (wc.alloc (.cells #[.int .i64 (1000000000)] 2)).ownsRow w.heap.size 2 1 (.slice (some ⟨g, 0, none⟩) k uc) k ((staK T st ls now js k).map (Value.int .i64)) := ownI_below HR box_below0
              have HD : Hid (PlW w wc P g uc k T V' N' C' L' (staK T st ls now js k)) := D6
              clear D6
              go_wp2_with (at_builtin; refine wpList_append_own_at _ rfl (.tmp 60) (.tmp 62) 30 rfl w.heap.size 2 i1 (.int .i64 0) 1 8 Try.underlying30 hj hj0 hj1 hj2 rfl (by decide) _ _ _ rfl OA ⟨wc.heap.size, 0, none⟩ 1 1 [.int .i64 (1000000000)] rfl rfl (own_one _ _ _) (by intro u hu; simp at hu; subst hu; rfl) (by unfold maxLen; omega) (by omega) (by simp; omega) ?_)
              intro v3 w9 own3 grow3 nil3 at3
              obtain ⟨g3, c3, rfl⟩ : ∃ g3 c3, v3 = .slice (some ⟨g3, 0, none⟩) (k + 1) c3 := by
                rcases own3.2 with ⟨_, h0⟩ | ⟨g3, c3, _, e, _⟩
                · omega
                · exact ⟨g3, c3, e⟩
              have hg3 : g3 = g ∨ g3 = wc.heap.size + 1 := by
                rcases at3 with e | e
                · exact Or.inl (by simpa [Value.ownBlock] using e)
                · exact Or.inr (by simpa [Value.ownBlock] using e)
              have HN : Hid (PlW w w9 P g3 c3 (k + 1) T V' N' C' L' (staK T st ls now js k ++ [1000000000])) := HD.out.grow hn0 own3 grow3 hg3
              clear own3 grow3 nil3 at3 OA HR HD
              go_wp2
              go_roundw
              case rel => first | exact ⟨k + 1, g3, c3, _, _, _, by omega, by go_num, by rw [EN1.out], rfl, by rw [EL1.out, ES1.out]; exact HN.out⟩ | ((repeat apply Exists.intro); exact ⟨⟨k + 1, g3, c3, _, _, _, by omega, by go_num, by rw [EN1.out], rfl, by rw [EL1.out, ES1.out]; exact HN.out⟩, rfl⟩)
              case measure => first | (simp [intOf]; done) | (simp [intOf]; omega)
            | true =>
              obtain ⟨g', hT, rfl, rfl, hgg, hgc, hgm, hld⟩ := hor rfl
              rw [hT] at s0 hbx
              obtain ⟨L2, hL2⟩ : ∃ L2, L2 = chgL L' f (laterI f (jg js k).long) (-(jg js k).cores) := ⟨_, rfl⟩
              rw [← hL2] at hld hgc hpo s1 hbx
              try rw [← hL2]
              have EAz : Hid (at10 T st ls now js k = f) := EA.out.trans (by unfold plT; rw [if_neg (by omega), ← HF.out, if_pos ⟨hlt1, by rw [← hL2]; exact hpo.symm⟩])
              have HL2 : Hid (L2 = chgL L' f (laterI f (jg js k).long) (-(jg js k).cores)) := hL2
              clear hL2 EA hor
              have P2 := poB_t hpo.symm
              clear hpo hT
              have D7 := D6.put hld hgc hgm (by omega) (by omega) (wf_of_bd fun i hi => by have := P2.el i hi; have := P2.pos hi; have := P2.t1; omega)
              have hn0 : 0 < L2.length := P2.n1
              go_upto_region 13 with fail
              generalize (wc.setCell ⟨P, 0, none⟩ (.int .i64 T)).setCell ⟨P, 1, none⟩ (.slice (some ⟨g', 0, none⟩) L2.length c') = WF at D7 ⊢
              clear D6 hbx s0 s1 t0 t1 t2 t3 hld
              cases st with
              | false =>
                have EN1 : Hid (nowK T false ls now js (k + 1) = now') := by unfold Hid; rw [EN.out, EAz.out]; unfold plN; rw [if_neg (by simp)]
                have EL1 : Hid (lefK T false ls now js (k + 1) = L2) := by unfold Hid; rw [EL.out, EAz.out]; unfold plL; rw [if_pos (by omega), ← HL2.out]
                have ES1 : Hid (staK T false ls now js (k + 1) = staK T false ls now js k ++ [f]) := by unfold Hid; rw [ES.out, EAz.out]
                clear EN EL ES EAz
                have HR := D7.row
                have hz0 := D7.bel.size
                have OA : (WF.alloc (.cells #[.int .i64 (f)] 2)).ownsRow w.heap.size 2 1 (.slice (some ⟨g, 0, none⟩) k uc) k ((staK T false ls now js k).map (Value.int .i64)) := ownI_below HR box_below0
                have HD : Hid (PlW w WF P g uc k T (some ⟨g', 0, none⟩) L2.length c' L2 (staK T false ls now js k)) := D7
                clear D7
                go_wp2_with (at_builtin; refine wpList_append_own_at _ rfl (.tmp 60) (.tmp 62) 30 rfl w.heap.size 2 i1 (.int .i64 0) 1 8 Try.underlying30 hj hj0 hj1 hj2 rfl (by decide) _ _ _ rfl OA ⟨WF.heap.size, 0, none⟩ 1 1 [.int .i64 (f)] rfl rfl (own_one _ _ _) (by intro u hu; simp at hu; subst hu; rfl) (by unfold maxLen; omega) (by omega) (by simp; omega) ?_)
                intro v3 w9 own3 grow3 nil3 at3
                obtain ⟨g3, c3, rfl⟩ : ∃ g3 c3, v3 = .slice (some ⟨g3, 0, none⟩) (k + 1) c3 := by
                  rcases own3.2 with ⟨_, h0⟩ | ⟨g3, c3, _, e, _⟩
                  · omega
                  · exact ⟨g3, c3, e⟩
                have hg3 : g3 = g ∨ g3 = WF.heap.size + 1 := by
                  rcases at3 with e | e
                  · exact Or.inl (by simpa [Value.ownBlock] using e)
                  · exact Or.inr (by simpa [Value.ownBlock] using e)
                have HN : Hid (PlW w w9 P g3 c3 (k + 1) T (some ⟨g', 0, none⟩) L2.length c' L2 (staK T false ls now js k ++ [f])) := HD.out.grow hn0 own3 grow3 hg3
                clear own3 grow3 nil3 at3 OA HR HD
                go_wp2
                go_roundw
                case rel => first | exact ⟨k + 1, g3, c3, _, _, _, by omega, by go_num, by rw [EN1.out], rfl, by rw [EL1.out, ES1.out]; exact HN.out⟩ | ((repeat apply Exists.intro); exact ⟨⟨k + 1, g3, c3, _, _, _, by omega, by go_num, by rw [EN1.out], rfl, by rw [EL1.out, ES1.out]; exact HN.out⟩, rfl⟩)
                case measure => first | (simp [intOf]; done) | (simp [intOf]; omega)
              | true =>
                have EN1 : Hid (nowK T true ls now js (k + 1) = f) := by unfold Hid; rw [EN.out, EAz.out]; unfold plN; rw [if_pos ⟨rfl, by omega⟩]
                have EL1 : Hid (lefK T true ls now js (k + 1) = L2) := by unfold Hid; rw [EL.out, EAz.out]; unfold plL; rw [if_pos (by omega), ← HL2.out]
                have ES1 : Hid (staK T true ls now js (k + 1) = staK T true ls now js k ++ [f]) := by unfold Hid; rw [ES.out, EAz.out]
                clear EN EL ES EAz
                have HR := D7.row
                have hz0 := D7.bel.size
                have OA : (WF.alloc (.cells #[.int .i64 (f)] 2)).ownsRow w.heap.size 2 1 (.slice (some ⟨g, 0, none⟩) k uc) k ((staK T true ls now js k).map (Value.int .i64)) := ownI_below HR box_below0
                have HD : Hid (PlW w WF P g uc k T (some ⟨g', 0, none⟩) L2.length c' L2 (staK T true ls now js k)) := D7
                clear D7
                go_wp2_with (at_builtin; refine wpList_append_own_at _ rfl (.tmp 60) (.tmp 62) 30 rfl w.heap.size 2 i1 (.int .i64 0) 1 8 Try.underlying30 hj hj0 hj1 hj2 rfl (by decide) _ _ _ rfl OA ⟨WF.heap.size, 0, none⟩ 1 1 [.int .i64 (f)] rfl rfl (own_one _ _ _) (by intro u hu; simp at hu; subst hu; rfl) (by unfold maxLen; omega) (by omega) (by simp; omega) ?_)
                intro v3 w9 own3 grow3 nil3 at3
                obtain ⟨g3, c3, rfl⟩ : ∃ g3 c3, v3 = .slice (some ⟨g3, 0, none⟩) (k + 1) c3 := by
                  rcases own3.2 with ⟨_, h0⟩ | ⟨g3, c3, _, e, _⟩
                  · omega
                  · exact ⟨g3, c3, e⟩
                have hg3 : g3 = g ∨ g3 = WF.heap.size + 1 := by
                  rcases at3 with e | e
                  · exact Or.inl (by simpa [Value.ownBlock] using e)
                  · exact Or.inr (by simpa [Value.ownBlock] using e)
                have HN : Hid (PlW w w9 P g3 c3 (k + 1) T (some ⟨g', 0, none⟩) L2.length c' L2 (staK T true ls now js k ++ [f])) := HD.out.grow hn0 own3 grow3 hg3
                clear own3 grow3 nil3 at3 OA HR HD
                go_wp2
                go_roundw
                case rel => first | exact ⟨k + 1, g3, c3, _, _, _, by omega, by go_num, by rw [EN1.out], rfl, by rw [EL1.out, ES1.out]; exact HN.out⟩ | ((repeat apply Exists.intro); exact ⟨⟨k + 1, g3, c3, _, _, _, by omega, by go_num, by rw [EN1.out], rfl, by rw [EL1.out, ES1.out]; exact HN.out⟩, rfl⟩)
                case measure => first | (simp [intOf]; done) | (simp [intOf]; omega)
        · obtain rfl : f = 1000000000 := by omega
          have EAz : Hid (at10 T st ls now js k = 1000000000) := EA.out.trans (by unfold plT; rw [if_neg (by omega), ← HF.out, if_neg (fun h => hlt1 h.1)])
          clear HDB2 EA hb2
          have EN1 : Hid (nowK T st ls now js (k + 1) = now') := by unfold Hid; rw [EN.out, EAz.out]; unfold plN; rw [if_neg (by omega)]
          have EL1 : Hid (lefK T st ls now js (k + 1) = L') := by unfold Hid; rw [EL.out, EAz.out]; unfold plL; rw [if_neg (by omega)]
          have ES1 : Hid (staK T st ls now js (k + 1) = staK T st ls now js k ++ [1000000000]) := by unfold Hid; rw [ES.out, EAz.out]
          clear EN EL ES EAz
          have HR := D2.row
          have hz0 := D2.bel.size
          have OA : (w2.alloc (.cells #[.int .i64 (1000000000)] 2)).ownsRow w.heap.size 2 1 (.slice (some ⟨g, 0, none⟩) k uc) k ((staK T st ls now js k).map (Value.int .i64)) := ownI_below HR box_below0
          have HD : Hid (PlW w w2 P g uc k T V' N' C' L' (staK T st ls now js k)) := D2
          clear D2
          go_wp2_with (at_builtin; refine wpList_append_own_at _ rfl (.tmp 60) (.tmp 62) 30 rfl w.heap.size 2 i1 (.int .i64 0) 1 8 Try.underlying30 hj hj0 hj1 hj2 rfl (by decide) _ _ _ rfl OA ⟨w2.heap.size, 0, none⟩ 1 1 [.int .i64 (1000000000)] rfl rfl (own_one _ _ _) (by intro u hu; simp at hu; subst hu; rfl) (by unfold maxLen; omega) (by omega) (by simp; omega) ?_)
          intro v3 w9 own3 grow3 nil3 at3
          obtain ⟨g3, c3, rfl⟩ : ∃ g3 c3, v3 = .slice (some ⟨g3, 0, none⟩) (k + 1) c3 := by
            rcases own3.2 with ⟨_, h0⟩ | ⟨g3, c3, _, e, _⟩
            · omega
            · exact ⟨g3, c3, e⟩
          have hg3 : g3 = g ∨ g3 = w2.heap.size + 1 := by
            rcases at3 with e | e
            · exact Or.inl (by simpa [Value.ownBlock] using e)
            · exact Or.inr (by simpa [Value.ownBlock] using e)
          have HN : Hid (PlW w w9 P g3 c3 (k + 1) T V' N' C' L' (staK T st ls now js k ++ [1000000000])) := HD.out.grow hn0 own3 grow3 hg3
          clear own3 grow3 nil3 at3 OA HR HD
          go_wp2
          go_roundw
          case rel => first | exact ⟨k + 1, g3, c3, _, _, _, by omega, by go_num, by rw [EN1.out], rfl, by rw [EL1.out, ES1.out]; exact HN.out⟩ | ((repeat apply Exists.intro); exact ⟨⟨k + 1, g3, c3, _, _, _, by omega, by go_num, by rw [EN1.out], rfl, by rw [EL1.out, ES1.out]; exact HN.out⟩, rfl⟩)
          case measure => first | (simp [intOf]; done) | (simp [intOf]; omega)
    · obtain rfl : k = nb := by omega
      go_wp2
      go_ret
      exact ⟨g, uc, rfl, HW.out.row, HW.out.bel⟩

end Go.Proofs.Ytfepkchopndpeaa
