/- What FnPlans asks of a plan, start by start: plain mathematics. -/
import Derived.Test.YtfepkchopndpeaaPlanF
namespace Go.Proofs.Ytfepkchopndpeaa
open Go.RowKit Go.Sort

theorem plF_len (T : Int) (ls : List Lev) (js : List Jb) (now : Int) (st st' : Bool) : (plF T st ls js now).length = (plF T st' ls js now).length := by
  by_cases c : poB T ls = true ∧ jsB js = true ∧ okB now = true
  · rw [plF_t c.1 c.2.1 c.2.2, plF_t c.1 c.2.1 c.2.2, staK_len, staK_len]
  · unfold plF; rw [if_neg c, if_neg c]

theorem jg_take {js : List Jb} {n i : Nat} (h : i < n) : jg (js.take n) i = jg js i := by simp [jg, h]
theorem JsOk.take {js : List Jb} (h : JsOk js) (n : Nat) : JsOk (js.take n) := by
  refine ⟨?_, fun i hi => ?_⟩
  · have := h.n; rw [List.length_take]; omega
  · rw [List.length_take] at hi
    have h9 := h.ok i (by omega)
    rw [jg_take (by omega)]
    refine ⟨h9.1, fun m hm => ?_⟩
    rw [jg_take (by omega)]
    exact h9.2 m hm

variable {T : Int} {st : Bool} {ls : List Lev} {ys : List Jb} {x : Int} {zs : List Int}
theorem PlF.zs_eq (P : PlF T st ls ys x zs) : zs = staK T st ls x ys ys.length := by
  refine List.ext_getElem (by rw [P.len, staK_len]) fun i h1 h2 => ?_
  have e := P.at_ i (by rw [← P.len]; exact h1)
  have e2 := staK_at (T := T) (st := st) (ls := ls) (now := x) (js := ys) ys.length i (by rw [← P.len]; exact h1)
  rw [← e] at e2
  unfold zg at e2
  rw [List.getElem?_eq_getElem h1, List.getElem?_eq_getElem h2] at e2
  exact e2.symm
theorem staK_take : ∀ m k, k ≤ m → (staK T st ls x ys m).take k = staK T st ls x ys k
  | 0, k, h => by
    obtain rfl : k = 0 := by omega
    rfl
  | m + 1, k, h => by
    have hl := staK_len (T := T) (st := st) (ls := ls) (now := x) (js := ys) m
    rcases Nat.lt_or_ge k (m + 1) with c | c
    · rw [staK_s, List.take_append_of_le_length (by omega)]
      exact staK_take m k (by omega)
    · obtain rfl : k = m + 1 := by omega
      exact List.take_of_length_le (by rw [staK_len]; omega)
theorem PlF.take (P : PlF T st ls ys x zs) {n : Nat} (hn : n ≤ ys.length) : plF T st ls (ys.take n) x = zs.take n := by
  have hl : (ys.take n).length = n := by rw [List.length_take]; omega
  rw [plF_t (poB_mk P.po) (jsB_mk (P.js_.take n)) (inB_mk ⟨P.ok.n0, P.ok.n1⟩), hl, P.zs_eq, staK_take _ _ hn]
  unfold staK
  rw [plS_same n fun i hi => jg_take hi]
theorem plan_none (P : PlF T false ls ys x zs) {k : Nat} (hk : k < ys.length) (h : zg zs k < 0) : T < (jg ys k).cores ∧ lefK T false ls x ys (k + 1) = lefK T false ls x ys k := by
  have e := P.at_ k hk
  refine ⟨?_, by rw [lefK_s, ← e]; unfold plL; rw [if_neg (by omega)]⟩
  have ok := P.ok.all (st := false) (js := ys) k
  have hb := ok.po.fit_bd (long := (jg ys k).long) (n := (jg ys k).cores) ok.n0 ok.n1
  have e2 : zg zs k = plT T (lefK T false ls x ys k) (nowK T false ls x ys k) (jg ys k) := e
  have := ok.n0
  rcases plT_cases ok (jg ys k) with ⟨h1, _⟩ | ⟨_, e1, h2, _⟩ | ⟨_, e1, _⟩
  · exact h1
  · omega
  · omega
theorem plan_never (P : PlF T false ls ys x zs) {k : Nat} (hk : k < ys.length) (h : ¬ zg zs k < 1000000000) : lefK T false ls x ys (k + 1) = lefK T false ls x ys k := by
  have e := P.at_ k hk
  rw [lefK_s, ← e]; unfold plL; rw [if_neg (by omega)]
theorem plan_fits (P : PlF T false ls ys x zs) {k : Nat} (hk : k < ys.length) (h0 : 0 ≤ zg zs k) (h1 : zg zs k < 1000000000) :
    x ≤ zg zs k ∧ fitF T (lefK T false ls x ys k) x (jg ys k).long (jg ys k).cores = zg zs k ∧ resB T (lefK T false ls x ys k) (zg zs k) (laterI (zg zs k) (jg ys k).long) (jg ys k).cores = true ∧
    lefK T false ls x ys (k + 1) = chgL (lefK T false ls x ys k) (zg zs k) (laterI (zg zs k) (jg ys k).long) (-(jg ys k).cores) := by
  have e := P.at_ k hk
  have ok := P.ok.all (st := false) (js := ys) k
  have en : nowK T false ls x ys k = x := plain_now k
  rw [en] at ok
  have hcl := jok_cl (P.js_.ok k hk).1
  have hb := ok.po.fit_bd (long := (jg ys k).long) (n := (jg ys k).cores) ok.n0 ok.n1
  have e2 : zg zs k = plT T (lefK T false ls x ys k) x (jg ys k) := by rw [e]; unfold at10; rw [en]
  have hy := later_gt h1 hcl.2.2.1
  have x0 := ok.n0
  have x1 := ok.n1
  rcases plT_cases ok (jg ys k) with ⟨_, e1⟩ | ⟨c1, e1, h2, h3⟩ | ⟨_, e1, _⟩
  · omega
  · have e3 : zg zs k = fitI (lefK T false ls x ys k) x (jg ys k).long (jg ys k).cores := e2.trans e1
    refine ⟨by omega, ?_, ?_, ?_⟩
    · rw [fitF_t, e3]
      rw [poB_mk ok.po, show okB x = true from inB_mk ⟨by omega, by omega⟩, show okB (jg ys k).long = true from inB_mk ⟨by omega, by omega⟩, inB_mk ⟨by omega, c1⟩]; rfl
    · rw [← e3] at h3
      unfold resB
      rw [poB_mk ok.po, h3, show okB (zg zs k) = true from inB_mk ⟨by omega, by omega⟩, show okB (laterI (zg zs k) (jg ys k).long) = true from inB_mk ⟨by omega, by omega⟩, inB_mk ⟨by omega, by omega⟩]; rfl
    · rw [lefK_s, ← e]; unfold plL; rw [if_pos ⟨h0, h1⟩]
  · omega

/-- what Left answered, wherever it still lies -/
def XAns (X : World) (Tb Tx : Int) (vx : Option Addr) (nx cx : Nat) (bx : Bool) : Option (List Lev) → Prop
  | none => bx = false ∧ Tx = 0 ∧ vx = none ∧ nx = 0 ∧ cx = 0
  | some l => bx = true ∧ Tx = Tb ∧ nx = l.length ∧ LevS X vx nx cx l
theorem xans {w0 w1 X : World} {Tb Tx : Int} {vx : Option Addr} {nx cx : Nat} {bx : Bool} {an : Option (List Lev)} {lb : List Lev} {js : List Jb} {ss : List Int} (h : LfAns w0 w1 Tb Tx vx nx cx bx an) (e : an = lfF Tb lb js ss) (hX : Below w1.heap.size w1 X) : XAns X Tb Tx vx nx cx bx an := by
  cases an with
  | none => exact h
  | some l =>
    obtain ⟨h1, h2, g9, rfl, h4, h5, h6, h7, h8⟩ := h
    have pl := lfF_po e.symm
    refine ⟨h1, h2, h4, ?_⟩
    rw [h4]
    exact (h8.below hX).toS rfl h6 h7 (wf_of_bd fun i hi => by have := pl.el i hi; have := pl.pos hi; have := pl.t1; omega)

theorem IntS.pre {w : World} {a : Option Addr} {n cap : Nat} {zs : List Int} (h : IntS w a n cap zs) {m : Nat} (hm : m ≤ n) : IntS w a m cap (zs.take m) := by
  have hl := h.len
  refine ⟨by rw [List.length_take]; omega, Nat.le_trans hm h.le, h.mx, fun h0 => ?_⟩
  obtain ⟨b, off, ha, hb, hat⟩ := h.at_ (by omega)
  refine ⟨b, off, ha, hb, fun i hi => ?_⟩
  rw [hat i (by omega)]
  unfold zg
  rw [List.getElem?_take_of_lt hi]

/-- what is left lies in its box -/
structure LbW (w W : World) (P : Nat) (T : Int) (u : Option Addr) (n c : Nat) (l : List Lev) : Prop where
  bel : Below w.heap.size w W
  box : W.heap[P]? = some (.cells #[.int .i64 T, .slice u n c] 26 (0, 0))
  lev : LevS W u n c l
  far : ∀ b off, u = some ⟨b, off, none⟩ → b ≠ P
  p0 : w.heap.size ≤ P
theorem LbW.below {w W W' : World} {P : Nat} {T : Int} {u : Option Addr} {n c : Nat} {l : List Lev} (h : LbW w W P T u n c l) (hb : Below W.heap.size W W') : LbW w W' P T u n c l :=
  ⟨h.bel.then hb h.bel.size, (hb.block P (lt_of_block h.box)).trans h.box, h.lev.below hb, h.far, h.p0⟩
theorem LbW.put {w W : World} {P : Nat} {T : Int} {u : Option Addr} {n c : Nat} {l : List Lev} (h : LbW w W P T u n c l) {g c2 : Nat} {l2 : List Lev} (hl : LevS W (some ⟨g, 0, none⟩) l2.length c2 l2) (hg : g ≠ P) :
    LbW w ((W.setCell ⟨P, 0, none⟩ (.int .i64 T)).setCell ⟨P, 1, none⟩ (.slice (some ⟨g, 0, none⟩) l2.length c2)) P T (some ⟨g, 0, none⟩) l2.length c2 l2 := by
  obtain ⟨q0, q1⟩ := Proofs.Ytfepkchopndpeaa.set2 h.box (.int .i64 T) (.slice (some ⟨g, 0, none⟩) l2.length c2)
  exact ⟨(h.bel.setCell h.p0 _).setCell h.p0 _, q0, hl.blkS (by simp [World.setCell]) (fun b off e => by cases e; exact q1 g hg), (fun b off e => by cases e; exact hg), h.p0⟩

end Go.Proofs.Ytfepkchopndpeaa
