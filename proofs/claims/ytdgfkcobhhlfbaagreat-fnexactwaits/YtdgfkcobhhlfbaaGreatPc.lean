/- Several texts in one. -/
import Derived.Test.YtdgfkcobhhlfbaaGreatPd
import Derived.Test.YtdgfkcobhhlfbaaGreatPa
import Derived.Test.YtdgfkcobhhlfbaaGreatEntBox
import Derived.Test.YtdgfkcobhhlfbaaGreatPb
/- The program's chapter 13, first part: the Jobs of Entries; are their Ids in order? -/
namespace Go.Proofs.YtdgfkcobhhlfbaaGreat
open Go.RowKit Go.Sort

set_option maxRecDepth 8000 in
set_option maxHeartbeats 2000000 in
theorem implJobsOf_any (a : Option Addr) (n ec : Nat) (ls : List En) (w : World) (h : EntS w a n ec ls) (hs : n ≤ 1048576) :
    Calls Tryz.prog 21 #[.slice a n ec] w fun e w' => ∃ g c, e = .returned (.slice (some ⟨g, 0, none⟩) n c) ∧ OwnJ w' w.heap.size g c (jbK ls n) ∧ Below w.heap.size w w' := by
  obtain ⟨i1, hj, hj0, hj1, hj2⟩ := info_parts infoJ
  have hlen := h.len
  have hmx := h.mx
  have hle := h.le
  unfold maxLen at hmx
  obtain ⟨W0, hW0⟩ : ∃ W0, W0 = w.alloc (.cells #[] 49) := ⟨_, rfl⟩
  have B0 : Below w.heap.size w W0 := by rw [hW0]; exact box_below0
  have O0 : OwnJ W0 w.heap.size w.heap.size 0 [] := by
    have := World.ownsRow_made (base := w.heap.size) (e := 49) (size := 7) w #[] 0 (by simp) (Nat.zero_le _) rfl
    rw [hW0]
    exact ⟨this, Nat.le_refl _, Nat.zero_le _, Nat.le_refl _, by simp⟩
  have HE : Hid (∀ W, Below w.heap.size w W → EntS W a n ec ls) := fun W hW => h.below hW
  go_enter Tryz.func21, Tryz.ntmps21
  go_upto_region 2 with fail
  rw [← hW0]
  clear hW0 h
  go_wp2
  go_loopw [3, 9] (fun ov i wr => ∃ (k g c : Nat), k ≤ n ∧ i = .int .i64 k ∧ ov = .slice (some ⟨g, 0, none⟩) k c ∧ Hid (OwnJ wr w.heap.size g c (jbK ls k)) ∧ Below w.heap.size w wr) (fun _ i _ => n - (intOf i).toNat)
  case atStart => exact ⟨0, _, 0, by omega, rfl, rfl, O0, B0⟩
  case round =>
    obtain ⟨k, g, c, hk, rfl, rfl, HO, hw⟩ := hrel
    rename World => wr
    clear O0
    by_cases hlt : k < n
    · obtain ⟨b, off, rfl, hbw, hat⟩ := (HE.out _ hw).at_ (by omega)
      obtain ⟨v, m, E⟩ := hat.row (i := k) (by omega)
      obtain ⟨d0, d1, d2, d3, d4, d5, d6, d7, d8, d9, d10, hps⟩ := E
      have hlt' : (k : Int) < (n : Int) := by omega
      have HJ : Hid (jbK ls (k + 1) = jbK ls k ++ [(eng ls k).job]) := jbK_s (by omega)
      have hjl := jbK_len (ls := ls) (k := k) (by omega)
      have own5 := HO.out.own
      have hgl := HO.out.lt
      have hgb := HO.out.base
      have z5 := hw.size
      rw [hjl] at own5
      clear hat hps
      obtain ⟨W1, hW1⟩ : ∃ W1, W1 = wr.alloc (.cells #[.int .i64 (eng ls k).job.id, .int .i64 (eng ls k).job.cores, .int .i64 (eng ls k).job.long, .int .i64 (eng ls k).job.due, .int .i64 (eng ls k).job.wt, .int .i64 (eng ls k).job.rank, .int .i64 (eng ls k).job.at_, .int .i64 (eng ls k).ph, .int .i64 (eng ls k).st, .int .i64 (eng ls k).ep, .slice v (eng ls k).ps.length m] 64) := ⟨_, rfl⟩
      have B1 : Below w.heap.size w W1 := by rw [hW1]; exact hw.then box_below0 hw.size
      have x1 : W1.heap[wr.heap.size]? = some (.cells #[.int .i64 (eng ls k).job.id, .int .i64 (eng ls k).job.cores, .int .i64 (eng ls k).job.long, .int .i64 (eng ls k).job.due, .int .i64 (eng ls k).job.wt, .int .i64 (eng ls k).job.rank, .int .i64 (eng ls k).job.at_, .int .i64 (eng ls k).ph, .int .i64 (eng ls k).st, .int .i64 (eng ls k).ep, .slice v (eng ls k).ps.length m] 64 (0, 0)) := by rw [hW1]; exact heap_alloc_new _ _
      have own6 : W1.ownsRow w.heap.size 49 7 (.slice (some ⟨g, 0, none⟩) k c) k (jcells (jbK ls k)) := by rw [hW1]; exact own5.alloc _
      have z7 : w.heap.size ≤ W1.heap.size := B1.size
      obtain ⟨y0, y1, y2, y3, y4, y5, y6, _, _, _, _, _, _, _, _, _, _, _, _, _, _, _⟩ := box11 x1
      go_upto_region 5 with fail
      rw [← hW1]
      clear hW1 x1 d0 d1 d2 d3 d4 d5 d6 d7 d8 d9 d10 own5
      go_wp2_with (at_builtin; refine wpList_append_own_at _ rfl (.tmp 13) (.tmp 16) 27 rfl w.heap.size 49 i1 (.agg #[.int .i64 0, .int .i64 0, .int .i64 0, .int .i64 0, .int .i64 0, .int .i64 0, .int .i64 0]) 7 56 Tryz.underlying27 hj hj0 hj1 hj2 rfl (by decide) _ _ _ rfl (own6.alloc _) ⟨W1.heap.size, 0, none⟩ 1 1 (jl (eng ls k).job) rfl rfl (nj7_plain _ _ _) (jl_one _) (by unfold maxLen; omega) (by omega) (by simp; omega) ?_)
      intro v' w4 hown' hgrow _ hat'
      have B4 : Below w.heap.size w w4 := (B1.alloc B1.size _).grown hgrow (by simp; omega) (fun r q => by simp [Value.ownBlock] at q; omega)
      have hv : v' ≠ .slice none 0 0 := fun e => by
        rcases hown'.2 with ⟨_, h0⟩ | ⟨g3, c3, _, e3, _⟩
        · omega
        · rw [e3] at e; cases e
      obtain ⟨g3, c3', e3, O3⟩ := ownJ_of' (ys := jbK ls (k + 1)) hown' (by rw [HJ.out, List.length_append, hjl]; rfl) (by rw [HJ.out, jcells_app]; rfl) hv
      subst e3
      have HO3 : Hid (OwnJ w4 w.heap.size g3 c3' (jbK ls (k + 1))) := O3
      clear O3 hown' hgrow hv own6 hat'
      go_wp2
      go_roundw
      case rel => exact ⟨k + 1, g3, c3', by omega, by go_num, rfl, HO3, B4⟩
      case measure => simp [intOf]; omega
    · obtain rfl : k = n := by omega
      have hnn : ¬ (k : Int) < (k : Int) := by omega
      go_wp2
      go_ret
      exact ⟨g, c, rfl, HO.out, hw⟩

set_option maxHeartbeats 2000000 in
theorem isSorted_job (a : Option Addr) (n cap : Nat) (ls : List Jb) (w : World) (h : JobS w a n cap ls) :
    Calls Tryz.prog 59 #[.slice a n cap, .func (.func 60) #[] #[]] w fun e w' => e = .returned (.bool (jsrtB ls)) ∧ GrS w w' := by
  have hm := h.mx
  have hle := h.le
  have hlen := h.len
  unfold maxLen at hm
  have hmo : Tryz.prog.follows .mixedOrders = true := by kernel_rfl
  obtain ⟨r, hr⟩ : ∃ r, r = jsrtB ls := ⟨_, rfl⟩
  have HR : Hid (r = jsrtB ls) := hr
  rw [← hr]
  clear hr
  have hn0 : (0 : Int) ≤ (n : Int) := by omega
  go_enter Tryz.func59, Tryz.ntmps59
  go_wp2
  go_loopw [5] (fun i wr => ∃ m : Int, i = .int .i64 m ∧ -1 ≤ m ∧ m < (n : Int) ∧ Hid (∀ j : Nat, m < (j : Int) → 0 < j → j < n → (jg ls (j - 1)).id ≤ (jg ls j).id) ∧ GrS w wr) (fun i _ => (intOf i).toNat)
  case atStart => exact ⟨(n : Int) - 1, by go_num, by omega, by omega, fun j h1 h2 h3 => by omega, GrS.refl _⟩
  case round =>
    obtain ⟨m, rfl, h1, h2, hok, hw⟩ := hrel
    rename World => wr
    by_cases hp : 0 < m
    · obtain ⟨k, rfl⟩ : ∃ k : Nat, m = k := ⟨m.toNat, by omega⟩
      have hbel : Below w.heap.size w wr := hw.below
      obtain ⟨b, off, rfl, hbw, hat⟩ := h.at_ (by omega)
      have hbi : b < wr.heap.size := Nat.lt_of_lt_of_le hbw hbel.size
      have hatW := hat.below hbel hbw
      obtain ⟨p0, p1, p2, p3, p4, p5, p6⟩ := hatW.job (i := k) (by omega)
      obtain ⟨q0, q1, q2, q3, q4, q5, q6⟩ := hatW.job (i := k - 1) (by omega)
      have P0 := fun nn os => cell_grown (w := wr) (by exact hbi) p0 nn os
      have P1 := fun nn os => cell_grown (w := wr) (by exact hbi) p1 nn os
      have P2 := fun nn os => cell_grown (w := wr) (by exact hbi) p2 nn os
      have P3 := fun nn os => cell_grown (w := wr) (by exact hbi) p3 nn os
      have P4 := fun nn os => cell_grown (w := wr) (by exact hbi) p4 nn os
      have P5 := fun nn os => cell_grown (w := wr) (by exact hbi) p5 nn os
      have P6 := fun nn os => cell_grown (w := wr) (by exact hbi) p6 nn os
      have Q0 := fun nn os => cell_grown (w := wr) (by exact hbi) q0 nn os
      have Q1 := fun nn os => cell_grown (w := wr) (by exact hbi) q1 nn os
      have Q2 := fun nn os => cell_grown (w := wr) (by exact hbi) q2 nn os
      have Q3 := fun nn os => cell_grown (w := wr) (by exact hbi) q3 nn os
      have Q4 := fun nn os => cell_grown (w := wr) (by exact hbi) q4 nn os
      have Q5 := fun nn os => cell_grown (w := wr) (by exact hbi) q5 nn os
      have Q6 := fun nn os => cell_grown (w := wr) (by exact hbi) q6 nn os
      have CB : ∀ nn os, Calls Tryz.prog 60 #[.agg #[.int .i64 (jg ls k).id, .int .i64 (jg ls k).cores, .int .i64 (jg ls k).long, .int .i64 (jg ls k).due, .int .i64 (jg ls k).wt, .int .i64 (jg ls k).rank, .int .i64 (jg ls k).at_], .agg #[.int .i64 (jg ls (k - 1)).id, .int .i64 (jg ls (k - 1)).cores, .int .i64 (jg ls (k - 1)).long, .int .i64 (jg ls (k - 1)).due, .int .i64 (jg ls (k - 1)).wt, .int .i64 (jg ls (k - 1)).rank, .int .i64 (jg ls (k - 1)).at_]] (grow (wr.drewN nn) os) fun e w' => e = .returned (.int .i64 (cmpI (jg ls k).id (jg ls (k - 1)).id)) ∧ ∃ q os', w' = grow ((grow (wr.drewN nn) os).drewN q) os' :=
        fun nn os => byId_job _ _ _
      have hcv := @cmpI_neg (jg ls k).id (jg ls (k - 1)).id
      have i1 : (0 : Int) ≤ (k : Int) - 1 := by omega
      have i2 : (k : Int) - 1 < (n : Int) := by omega
      have i3 : (k : Int) < (n : Int) := by omega
      have i5 : (1 : Int) ≤ (k : Int) := by omega
      have i6 : 1 ≤ k := by omega
      have i7 : ¬ (k : Int) - 1 < 0 := by omega
      have i8 : ¬ (n : Int) ≤ (k : Int) - 1 := by omega
      have i4 : (0 : Int) ≤ (k : Int) := by omega
      have hkk : ((k : Int) - 1).toNat = k - 1 := by omega
      have hwk : IntKind.i64.wrap ((k : Int) - 1) = (k : Int) - 1 := by rw [IntKind.wrap_i64]; omega
      have HG : Hid (∀ nn os, GrS w (grow (wr.drewN nn) os)) := fun nn os => hw.grow nn os
      clear p0 p1 p2 p3 p4 p5 p6 q0 q1 q2 q3 q4 q5 q6 hat hatW hbel
      generalize cmpI (jg ls k).id (jg ls (k - 1)).id = cv at CB hcv
      by_cases hc : cv < 0
      · have E : Hid (r = false) := HR.out.trans (jsrtB_no fun q => by have := q k (by omega) (by omega); have := hcv.1 hc; omega)
        clear hcv hok
        go_wp2
        go_quiet_grown ((go_at_call 60; exact Calls.grown_of (CB _ _)))
        go_wp2
        go_ret
        exact ⟨by rw [E.out]; rfl, HG.out _ _⟩
      · have N : Hid (∀ j : Nat, (k : Int) - 1 < (j : Int) → 0 < j → j < n → (jg ls (j - 1)).id ≤ (jg ls j).id) := fun j g1 g2 g3 => by
          by_cases e : j = k
          · subst e
            have := mt hcv.2 hc
            omega
          · exact hok.out j (by omega) g2 g3
        clear hcv hok
        go_wp2
        go_quiet_grown ((go_at_call 60; exact Calls.grown_of (CB _ _)))
        go_wp2
        first
          | (go_roundw
             case rel => exact ⟨(k : Int) - 1, by go_num, by omega, by omega, N, HG.out _ _⟩
             case measure => simp [intOf]; omega)
          | exact ⟨⟨(k : Int) - 1, by go_num, by omega, by omega, N, HG.out _ _⟩, by simp [intOf]; omega⟩
    · have E : Hid (r = true) := HR.out.trans (jsrtB_mk fun j g1 g2 => hok.out j (by omega) g1 (by omega))
      go_wp2
      go_ret
      exact ⟨by rw [E.out]; rfl, hw⟩

/-- the Jobs are right, and their Ids rise -/
noncomputable def jo2 (ls : List En) : Bool := jsB (jbK ls ls.length) && jsrtB (jbK ls ls.length)
theorem implJobsOkS_any (s : St) (na : Option Addr) (nc : Nat) (ea : Option Addr) (ec : Nat) (w : World) (h : StS w s na nc ea ec) (hs : s.ents.length ≤ 1048576) :
    Calls Tryz.prog 41 #[stV s na nc ea ec] w fun e w' => e = .returned (.bool (jo2 s.ents)) ∧ Below w.heap.size w w' := by
  unfold stV
  obtain ⟨r, hr⟩ : ∃ r, r = jo2 s.ents := ⟨_, rfl⟩
  have HR : Hid (r = jo2 s.ents) := hr
  rw [← hr]
  clear hr
  obtain ⟨W0, hW0⟩ : ∃ W0, W0 = w.alloc (.cells #[.int .i64 s.now, .slice na s.nodes.length nc, .slice ea s.ents.length ec, .int .i64 s.next, .int .i64 s.eps] 32) := ⟨_, rfl⟩
  have B0 : Below w.heap.size w W0 := by rw [hW0]; exact box_below0
  have x0 : W0.heap[w.heap.size]? = some (.cells #[.int .i64 s.now, .slice na s.nodes.length nc, .slice ea s.ents.length ec, .int .i64 s.next, .int .i64 s.eps] 32 (0, 0)) := by rw [hW0]; exact heap_alloc_new _ _
  obtain ⟨c0, c1, c2, c3, c4, _, _, _, _, _⟩ := box5 x0
  have hE := h.en.below B0
  have CJ := implJobsOf_any ea s.ents.length ec s.ents W0 hE hs
  go_enter Tryz.func41, Tryz.ntmps41
  go_upto_region 1 with fail
  rw [← hW0]
  clear hW0 x0
  go_wp2_with (go_at_call 21; refine CJ.mono ?_; rintro e w1 ⟨g, c, rfl, hO, hb1⟩)
  have B1 := B0.then hb1 B0.size
  have hJ := ownJ_toS hO (fun i hi => h.en.wf i hi)
  clear hO CJ
  have C1 := implJobsOk_any _ _ _ _ _ hJ
  rcases q1 : jsB (jbK s.ents s.ents.length) with _ | _
  · have E : Hid (r = false) := HR.out.trans (by unfold jo2; rw [q1]; rfl)
    rw [q1] at C1
    refine C1.mono ?_
    rintro e w2 ⟨rfl, hb2⟩
    go_wp2
    go_ret
    exact ⟨by rw [E.out]; rfl, B1.then hb2 B1.size⟩
  · have E : Hid (r = jsrtB (jbK s.ents s.ents.length)) := HR.out.trans (by unfold jo2; rw [q1]; rfl)
    rw [q1] at C1
    refine C1.mono ?_
    rintro e w2 ⟨rfl, hb2⟩
    have B2 := B1.then hb2 B1.size
    have C2 := isSorted_job _ _ _ _ _ (hJ.below hb2)
    clear hJ C1
    generalize jsrtB (jbK s.ents s.ents.length) = rb at C2 E
    go_wp2_with (go_at_call 59; refine C2.mono ?_; rintro e w3 ⟨rfl, hg3⟩)
    have B3 := B2.then hg3.below B2.size
    go_ret
    exact ⟨by rw [E.out]; rfl, B3⟩

end Go.Proofs.YtdgfkcobhhlfbaaGreat

/- The program's chapter 13, second part: the Entries of a phase, in a row of the call's own; the cores in use. -/
namespace Go.Proofs.YtdgfkcobhhlfbaaGreat
open Go.RowKit Go.Sort

/-- an entry with the place of its parts -/
structure Ex where
  e : En
  v : Option Addr
  m : Nat
/-- its cells -/
def el (x : Ex) : List Value := [.int .i64 x.e.job.id, .int .i64 x.e.job.cores, .int .i64 x.e.job.long, .int .i64 x.e.job.due, .int .i64 x.e.job.wt, .int .i64 x.e.job.rank, .int .i64 x.e.job.at_, .int .i64 x.e.ph, .int .i64 x.e.st, .int .i64 x.e.ep, .slice x.v x.e.ps.length x.m]
def ecells (xs : List Ex) : List Value := xs.flatMap el
theorem el_len (x : Ex) : (el x).length = 11 := rfl
theorem el_one (x : Ex) : ∀ v ∈ el x, v.oneCell' = true := by
  intro v hv
  simp [el] at hv
  rcases hv with rfl | rfl | rfl | rfl | rfl | rfl | rfl | rfl | rfl | rfl | rfl <;> rfl
theorem el_num (x : Ex) (c : Nat) (h : c < 10) : (el x)[c]? = some (.int .i64 (enc x.e c)) := by
  obtain rfl | rfl | rfl | rfl | rfl | rfl | rfl | rfl | rfl | rfl : c = 0 ∨ c = 1 ∨ c = 2 ∨ c = 3 ∨ c = 4 ∨ c = 5 ∨ c = 6 ∨ c = 7 ∨ c = 8 ∨ c = 9 := by omega
  all_goals rfl
theorem ecells_len : ∀ l : List Ex, (ecells l).length = l.length * 11
  | [] => rfl
  | x :: r => by
    have := ecells_len r
    show (el x ++ ecells r).length = (r.length + 1) * 11
    rw [List.length_append, el_len]; omega
theorem ecells_at : ∀ (l : List Ex) (i c : Nat) (h : i < l.length), c < 11 → (ecells l)[i * 11 + c]? = (el l[i])[c]?
  | x :: r, 0, c, _, hc => by
    show (el x ++ ecells r)[0 * 11 + c]? = _
    rw [List.getElem?_append_left (by rw [el_len]; omega), Nat.zero_mul, Nat.zero_add]
    rfl
  | x :: r, i + 1, c, h, hc => by
    show (el x ++ ecells r)[(i + 1) * 11 + c]? = _
    rw [List.getElem?_append_right (by rw [el_len]; omega), el_len, show (i + 1) * 11 + c - 11 = i * 11 + c by omega]
    exact ecells_at r i c (by simpa using h) hc
theorem ecells_app (a b : List Ex) : ecells (a ++ b) = ecells a ++ ecells b := by simp [ecells]

/-- a row of the call's own: entries, in a block from base on -/
structure OwnE (w : World) (base g cap : Nat) (xs : List Ex) : Prop where
  own : w.ownsRow base 64 11 (.slice (some ⟨g, 0, none⟩) xs.length cap) xs.length (ecells xs)
  le : xs.length ≤ cap
  mx : cap ≤ maxLen
  base : base ≤ g
  lt : g < w.heap.size
theorem ownE_of' {w : World} {base : Nat} {v : Value} {m : Nat} {zs : List Value} {xs : List Ex} (h : w.ownsRow base 64 11 v m zs) (hm : m = xs.length) (hx : zs = ecells xs) (hv : v ≠ .slice none 0 0) :
    ∃ g cap, v = .slice (some ⟨g, 0, none⟩) m cap ∧ OwnE w base g cap xs := by
  subst hm hx
  have hl := h.lt
  rcases h.2 with ⟨rfl, h0⟩ | ⟨g, cap, cur, rfl, hb, hg, h1, h2, h3⟩
  · exact absurd rfl hv
  · exact ⟨g, cap, rfl, h, h1, h2, hb, (hl g rfl).2⟩
theorem OwnE.alloc {w : World} {base g cap : Nat} {xs : List Ex} (h : OwnE w base g cap xs) (o : Obj) : OwnE (w.alloc o) base g cap xs :=
  ⟨h.own.alloc o, h.le, h.mx, h.base, by have := h.lt; simp; omega⟩
/-- the parts lie where it says -/
def ExPs (w : World) (xs : List Ex) : Prop := ∀ x ∈ xs, PartS w x.v x.e.ps.length x.m x.e.ps
theorem ExPs.below {w w' : World} {xs : List Ex} (h : ExPs w xs) (hb : Below w.heap.size w w') : ExPs w' xs := fun x hx => (h x hx).below hb
theorem eng_map {xs : List Ex} {i : Nat} (h : i < xs.length) : eng (xs.map (·.e)) i = xs[i].e := by
  rw [eng_get (by simpa using h)]; simp
theorem OwnE.toS {w : World} {base g cap : Nat} {xs : List Ex} (h : OwnE w base g cap xs) (hp : ExPs w xs) (wf : ∀ i, i < xs.length → enwf (eng (xs.map (·.e)) i)) : EntS w (some ⟨g, 0, none⟩) xs.length cap (xs.map (·.e)) := by
  refine ⟨by simp, h.le, h.mx, (fun e => by cases e), wf, fun _ => ⟨g, 0, rfl, h.lt, fun i hi => ?_⟩⟩
  have hi' : i < xs.length := by simpa using hi
  have hc : ∀ c u, (el xs[i])[c]? = some u → w.cell? ⟨g, 0 + i * 11 + c, none⟩ = some u := fun c u hu => by
    have hlt : c < 11 := by
      rcases Nat.lt_or_ge c 11 with q | q
      · exact q
      · rw [List.getElem?_eq_none (by rw [el_len]; exact q)] at hu; cases hu
    have := World.ownsRow.cells h.own (g := g) rfl (i * 11 + c) _ (by rw [ecells_at xs i c hi' hlt]; exact hu)
    have hadd : (⟨g, 0, none⟩ : Addr).add (i * 11 + c) = ⟨g, i * 11 + c, none⟩ := by unfold Addr.add; split <;> simp_all
    rw [hadd] at this
    rw [Nat.zero_add]; exact this
  rw [eng_map hi']
  exact ⟨fun c h => hc c _ (el_num _ c h), xs[i].v, xs[i].m, hc 10 _ rfl, hp _ (List.getElem_mem hi')⟩

theorem ne11_plain (W : World) (x : Ex) (T : TypeId) : ∀ i u, (el x)[i]? = some u → (W.alloc (.cells #[.int .i64 x.e.job.id, .int .i64 x.e.job.cores, .int .i64 x.e.job.long, .int .i64 x.e.job.due, .int .i64 x.e.job.wt, .int .i64 x.e.job.rank, .int .i64 x.e.job.at_, .int .i64 x.e.ph, .int .i64 x.e.st, .int .i64 x.e.ep, .slice x.v x.e.ps.length x.m] T)).cell? ((⟨W.heap.size, 0, none⟩ : Addr).add i) = some u := by
  intro i u hi
  have hadd : (⟨W.heap.size, 0, none⟩ : Addr).add i = ⟨W.heap.size, i, none⟩ := by unfold Addr.add; split <;> simp_all
  rw [hadd, Joins.cell_alloc_mark_at _ _ _ _ _ _ rfl]
  show (List.toArray (el x))[i]? = _
  rw [List.getElem?_toArray]
  exact hi

theorem Ent1.below {w w' : World} {b o : Nat} {e : En} {v : Option Addr} {m : Nat} (h : Ent1 w b o e v m) (hb : Below w.heap.size w w') (hB : b < w.heap.size) : Ent1 w' b o e v m :=
  ⟨(hb.cell (p := ⟨b, o, none⟩) hB).trans h.c0, (hb.cell (p := ⟨b, o + 1, none⟩) hB).trans h.c1, (hb.cell (p := ⟨b, o + 2, none⟩) hB).trans h.c2, (hb.cell (p := ⟨b, o + 3, none⟩) hB).trans h.c3, (hb.cell (p := ⟨b, o + 4, none⟩) hB).trans h.c4, (hb.cell (p := ⟨b, o + 5, none⟩) hB).trans h.c5, (hb.cell (p := ⟨b, o + 6, none⟩) hB).trans h.c6, (hb.cell (p := ⟨b, o + 7, none⟩) hB).trans h.c7, (hb.cell (p := ⟨b, o + 8, none⟩) hB).trans h.c8, (hb.cell (p := ⟨b, o + 9, none⟩) hB).trans h.c9, (hb.cell (p := ⟨b, o + 10, none⟩) hB).trans h.c10, h.ps.below hb⟩

set_option maxRecDepth 8000 in
set_option maxHeartbeats 4000000 in
theorem implIn_any (s : St) (p : Int) (na : Option Addr) (nc : Nat) (ea : Option Addr) (ec : Nat) (w : World) (h : StS w s na nc ea ec) (hs : s.ents.length ≤ 1048576) :
    Calls Tryz.prog 22 #[stV s na nc ea ec, .int .i64 p] w fun e w' => ∃ g c, e = .returned (.slice (some ⟨g, 0, none⟩) (inK s.ents p s.ents.length).length c) ∧ EntS w' (some ⟨g, 0, none⟩) (inK s.ents p s.ents.length).length c (inK s.ents p s.ents.length) ∧ Below w.heap.size w w' := by
  obtain ⟨i1, hj, hj0, hj1, hj2⟩ := info_parts infoEnt
  have hmx := h.en.mx
  have hle := h.en.le
  have hwf := h.en.wf
  unfold maxLen at hmx
  unfold stV
  obtain ⟨W0, hW0⟩ : ∃ W0, W0 = (w.alloc (.cells #[.int .i64 s.now, .slice na s.nodes.length nc, .slice ea s.ents.length ec, .int .i64 s.next, .int .i64 s.eps] 32)).alloc (.cells #[] 64) := ⟨_, rfl⟩
  have B0 : Below w.heap.size w W0 := by rw [hW0]; exact box_below0.alloc (by simp) _
  have x0 : W0.heap[w.heap.size]? = some (.cells #[.int .i64 s.now, .slice na s.nodes.length nc, .slice ea s.ents.length ec, .int .i64 s.next, .int .i64 s.eps] 32 (0, 0)) := by rw [hW0]; exact (Below.heap_alloc _ _ _ (by simp)).trans (heap_alloc_new _ _)
  obtain ⟨c0, c1, c2, c3, c4, _, _, _, _, _⟩ := box5 x0
  have O0 : OwnE W0 w.heap.size (w.heap.size + 1) 0 [] := by
    have := World.ownsRow_made (base := w.heap.size) (e := 64) (size := 11) (w.alloc (.cells #[.int .i64 s.now, .slice na s.nodes.length nc, .slice ea s.ents.length ec, .int .i64 s.next, .int .i64 s.eps] 32)) #[] 0 (by simp) (Nat.zero_le _) rfl
    have e : (w.alloc (.cells #[.int .i64 s.now, .slice na s.nodes.length nc, .slice ea s.ents.length ec, .int .i64 s.next, .int .i64 s.eps] 32)).heap.size = w.heap.size + 1 := by simp
    rw [e] at this
    rw [hW0]
    exact ⟨this, Nat.le_refl _, Nat.zero_le _, by omega, by simp⟩
  have HE : Hid (EntS w ea s.ents.length ec s.ents) := h.en
  go_enter Tryz.func22, Tryz.ntmps22
  go_upto_region 2 with fail
  rw [← hW0]
  clear hW0 x0 h
  go_wp2
  clear c0 c1 c2 c3 c4
  go_loopw [5, 12] (fun ov i wr => ∃ (k g c q : Nat) (xs : List Ex), k ≤ s.ents.length ∧ i = .int .i64 k ∧ ov = .slice (some ⟨g, 0, none⟩) q c ∧ q = xs.length ∧ q ≤ k ∧ xs.map (·.e) = inK s.ents p k ∧ Hid (OwnE wr w.heap.size g c xs) ∧ Hid (ExPs w xs) ∧ Below w.heap.size w wr) (fun _ i _ => s.ents.length - (intOf i).toNat)
  case atStart => exact ⟨0, _, 0, 0, [], by omega, rfl, rfl, rfl, by omega, by simp [inK], O0, (fun x hx => absurd hx (by simp) : ExPs w []), B0⟩
  case round =>
    obtain ⟨k, g, c, q, xs, hk, rfl, rfl, rfl, hqk, hxs, HO, HP, hw⟩ := hrel
    rename World => wr
    clear O0
    by_cases hlt : k < s.ents.length
    · obtain ⟨b, off, rfl, hbw, hat⟩ := HE.out.at_ (by omega)
      obtain ⟨v, m, E⟩ := hat.row (i := k) hlt
      have HP0 : Hid (PartS w v (eng s.ents k).ps.length m (eng s.ents k).ps) := E.ps
      obtain ⟨d0, d1, d2, d3, d4, d5, d6, d7, d8, d9, d10, _⟩ := E.below hw hbw
      have hbw' : b < wr.heap.size := Nat.lt_of_lt_of_le hbw hw.size
      have hlt' : (k : Int) < (s.ents.length : Int) := by omega
      have own5 := HO.out.own
      have hgl := HO.out.lt
      have hgb := HO.out.base
      have z5 := hw.size
      clear hat
      obtain ⟨e, he⟩ : ∃ e, e = eng s.ents k := ⟨_, rfl⟩
      have HEk : Hid (e = eng s.ents k) := he
      rw [← he] at d0 d1 d2 d3 d4 d5 d6 d7 d8 d9 d10 HP0
      clear he
      obtain ⟨W1, hW1⟩ : ∃ W1, W1 = wr.alloc (.cells #[.int .i64 e.job.id, .int .i64 e.job.cores, .int .i64 e.job.long, .int .i64 e.job.due, .int .i64 e.job.wt, .int .i64 e.job.rank, .int .i64 e.job.at_, .int .i64 e.ph, .int .i64 e.st, .int .i64 e.ep, .slice v e.ps.length m] 64) := ⟨_, rfl⟩
      have b1 : Below wr.heap.size wr W1 := by rw [hW1]; exact box_below0
      have B1 : Below w.heap.size w W1 := hw.then b1 hw.size
      have x1 : W1.heap[wr.heap.size]? = some (.cells #[.int .i64 e.job.id, .int .i64 e.job.cores, .int .i64 e.job.long, .int .i64 e.job.due, .int .i64 e.job.wt, .int .i64 e.job.rank, .int .i64 e.job.at_, .int .i64 e.ph, .int .i64 e.st, .int .i64 e.ep, .slice v e.ps.length m] 64 (0, 0)) := by rw [hW1]; exact heap_alloc_new _ _
      have own6 : W1.ownsRow w.heap.size 64 11 (.slice (some ⟨g, 0, none⟩) xs.length c) xs.length (ecells xs) := by rw [hW1]; exact own5.alloc _
      have HO1 : Hid (OwnE W1 w.heap.size g c xs) := by unfold Hid; rw [hW1]; exact HO.out.alloc _
      have z7 : w.heap.size ≤ W1.heap.size := B1.size
      obtain ⟨y0, y1, y2, y3, y4, y5, y6, y7, y8, y9, y10, _, _, _, _, _, _, _, _, _, _, _⟩ := box11 x1
      go_upto_region 5 with fail
      rw [← hW1]
      clear hW1 x1 d0 d1 d2 d3 d4 d5 d6 d7 d8 d9 d10 own5
      by_cases hph : e.ph = p
      · have hp' : (e.ph == p) = true := by simpa using hph
        have HX : Hid ((xs ++ [Ex.mk e v m]).map (·.e) = inK s.ents p (k + 1)) := by
          unfold Hid
          rw [inK_yes hlt (by rw [← HEk.out]; exact hph), List.map_append, hxs, HEk.out]; rfl
        clear hph
        go_wp2_with (at_builtin; refine wpList_append_own_at _ rfl (.tmp 20) (.tmp 22) 30 rfl w.heap.size 64 i1 (.agg #[.int .i64 0, .int .i64 0, .int .i64 0, .int .i64 0, .int .i64 0, .int .i64 0, .int .i64 0, .int .i64 0, .int .i64 0, .int .i64 0, .slice none 0 0]) 11 104 Tryz.underlying30 hj hj0 hj1 hj2 rfl (by decide) _ _ _ rfl (own6.alloc _) ⟨W1.heap.size, 0, none⟩ 1 1 (el (Ex.mk e v m)) rfl rfl (ne11_plain _ (Ex.mk e v m) _) (el_one _) (by unfold maxLen; omega) (by omega) (by simp; omega) ?_)
        intro v' w4 hown' hgrow _ hat'
        have B4 : Below w.heap.size w w4 := (B1.alloc B1.size _).grown hgrow (by simp; omega) (fun r q => by simp [Value.ownBlock] at q; omega)
        have hv : v' ≠ .slice none 0 0 := fun e => by
          rcases hown'.2 with ⟨_, h0⟩ | ⟨g3, c3, _, e3, _⟩
          · omega
          · rw [e3] at e; cases e
        obtain ⟨g3, c3', e3, O3⟩ := ownE_of' (xs := xs ++ [Ex.mk e v m]) hown' (by rw [List.length_append]; rfl) (by rw [ecells_app]; rfl) hv
        subst e3
        have HO3 : Hid (OwnE w4 w.heap.size g3 c3' (xs ++ [Ex.mk e v m])) := O3
        have HP3 : Hid (ExPs w (xs ++ [Ex.mk e v m])) := fun x hx => by
          rcases List.mem_append.1 hx with q9 | q9
          · exact HP.out x q9
          · obtain rfl := List.mem_singleton.1 q9
            exact HP0.out
        clear O3 hown' hgrow hv own6 hat'
        go_wp2
        go_roundw
        case rel => exact ⟨k + 1, g3, c3', xs.length + 1, xs ++ [Ex.mk e v m], by omega, by go_num, rfl, by rw [List.length_append]; rfl, by omega, HX.out, HO3, HP3, B4⟩
        case measure => simp [intOf]; omega
      · have hp' : (e.ph == p) = false := by simpa using hph
        have HX : Hid (xs.map (·.e) = inK s.ents p (k + 1)) := by
          unfold Hid
          rw [inK_no hlt (by rw [← HEk.out]; exact hph), hxs]
        clear hph own6
        go_wp2
        go_roundw
        case rel => exact ⟨k + 1, g, c, xs.length, xs, by omega, by go_num, rfl, rfl, by omega, HX.out, HO1, HP, B1⟩
        case measure => simp [intOf]; omega
    · obtain rfl : k = s.ents.length := by omega
      have hnn : ¬ (s.ents.length : Int) < (s.ents.length : Int) := by omega
      have HL : Hid ((inK s.ents p s.ents.length).length = xs.length) := by unfold Hid; rw [← hxs]; simp
      have HS : Hid (EntS wr (some ⟨g, 0, none⟩) xs.length c (inK s.ents p s.ents.length)) := by
        unfold Hid
        rw [← hxs]
        refine HO.out.toS (HP.out.below hw) fun i hi => ?_
        rw [hxs]
        obtain ⟨j, hj, e, _⟩ := inK_at (ls := s.ents) (p := p) (k := s.ents.length) (i := i) (by rw [HL.out]; exact hi)
        rw [e]
        exact hwf j hj
      clear HO HP hxs
      go_wp2
      go_ret
      exact ⟨g, c, by rw [HL.out]; rfl, by rw [HL.out]; exact HS.out, hw⟩

set_option maxRecDepth 8000 in
set_option maxHeartbeats 4000000 in
theorem implUsed_any (s : St) (na : Option Addr) (nc : Nat) (ea : Option Addr) (ec : Nat) (w : World) (h : StS w s na nc ea ec) (hs : stSmall s) :
    Calls Tryz.prog 65 #[stV s na nc ea ec] w fun e w' => ∃ v c, e = .returned (.slice v (iuK s s.ents.length).length c) ∧ LInt w' w.heap.size v (iuK s s.ents.length).length c (iuK s s.ents.length) ∧ Below w.heap.size w w' := by
  obtain ⟨hs1, hs2, hs3⟩ := hs
  have HI0 : Hid (iuK s s.ents.length = usK s.nodes.length (inK s.ents 2 s.ents.length) (inK s.ents 2 s.ents.length).length) := iuK_us s _ (Nat.le_refl _)
  have hs4 : ∀ i, i < (inK s.ents 2 s.ents.length).length → (eng (inK s.ents 2 s.ents.length) i).ps.length ≤ 1048576 := fun i hi => by
    obtain ⟨j, hj, e, _⟩ := inK_at hi
    rw [e]; exact hs3 j hj
  obtain ⟨W0, hW0⟩ : ∃ W0, W0 = w.alloc (.cells #[.int .i64 s.now, .slice na s.nodes.length nc, .slice ea s.ents.length ec, .int .i64 s.next, .int .i64 s.eps] 32) := ⟨_, rfl⟩
  have B0 : Below w.heap.size w W0 := by rw [hW0]; exact box_below0
  have x0 : W0.heap[w.heap.size]? = some (.cells #[.int .i64 s.now, .slice na s.nodes.length nc, .slice ea s.ents.length ec, .int .i64 s.next, .int .i64 s.eps] 32 (0, 0)) := by rw [hW0]; exact heap_alloc_new _ _
  have l0 := lt_of_block x0
  have hmk := run_makeM s.nodes.length hs1 W0
  obtain ⟨W1, hW1⟩ : ∃ W1, W1 = W0.alloc (.cells (madeCells #[.int .i64 0] s.nodes.length) 2) := ⟨_, rfl⟩
  have b01 : Below W0.heap.size W0 W1 := by rw [hW1]; exact box_below0
  have B1 : Below w.heap.size w W1 := B0.then b01 B0.size
  have L1 : LInt W1 w.heap.size (some ⟨W0.heap.size, 0, none⟩) s.nodes.length s.nodes.length (usK s.nodes.length (inK s.ents 2 s.ents.length) 0) := by
    rw [hW1]
    refine ⟨by simp [usK], Or.inr ⟨_, rfl, B0.size, ?_, Nat.le_refl _, by unfold maxLen; omega⟩⟩
    have := (LdB.made W0 s.nodes.length).toB
    simpa [usK] using this
  have x1 := (b01.block _ l0).trans x0
  obtain ⟨c0, c1, c2, c3, c4, _, _, _, _, _⟩ := box5 x0
  obtain ⟨e0, e1, e2, e3, e4, _, _, _, _, _⟩ := box5 x1
  have CI := implIn_any s 2 na nc ea ec W1 (h.below B1) hs2
  unfold stV at CI ⊢
  rw [← hW1] at hmk
  generalize iuK s s.ents.length = rr at HI0 ⊢
  go_enter Tryz.func65, Tryz.ntmps65
  go_upto_region 1 with fail
  rw [← hW0]
  clear hW0 x0 l0 h x1 hW1
  go_upto_region 2 with fail
  clear hmk c0 c1 c2 c3 c4
  go_wp2_with (go_at_call 22; refine CI.mono ?_; rintro e w2 ⟨g, c, rfl, hE, hb2⟩)
  clear CI e0 e1 e2 e3 e4
  have B2 := B1.then hb2 B1.size
  have L2 := L1.below hb2
  have HR : Hid (rr = usK s.nodes.length (inK s.ents 2 s.ents.length) (inK s.ents 2 s.ents.length).length) := HI0
  have HE : Hid (∀ W, Below w2.heap.size w2 W → EntS W (some ⟨g, 0, none⟩) (inK s.ents 2 s.ents.length).length c (inK s.ents 2 s.ents.length)) := fun W hW => hE.below hW
  have hn2 := inK_le (ls := s.ents) (p := 2) (Nat.le_refl s.ents.length)
  clear L1 HI0 hE hb2 B0 b01
  generalize inK s.ents 2 s.ents.length = L at hs4 L2 HR HE hn2 ⊢
  generalize s.nodes.length = nn at hs1 L2 HR ⊢
  have hil := usK_len nn L
  go_loopw [3, 13] (fun ov i wr => ∃ (k : Nat) (v : Option Addr) (n c : Nat), k ≤ L.length ∧ i = .int .i64 k ∧ ov = .slice v n c ∧ Hid (LInt wr w.heap.size v n c (usK nn L k)) ∧ Below w2.heap.size w2 wr) (fun _ i _ => L.length - (intOf i).toNat)
  case atStart => exact ⟨0, _, _, _, by omega, rfl, rfl, L2, Below.refl _ _⟩
  case round =>
    obtain ⟨k, v, n, c9, hk, rfl, rfl, HL, hw2⟩ := hrel
    rename World => wr
    clear L2
    have hw := B2.then hw2 B2.size
    by_cases hlt : k < L.length
    · obtain ⟨b, off, hbo, hbw, hat⟩ := (HE.out _ hw2).at_ (by omega)
      obtain ⟨rfl, rfl⟩ : g = b ∧ 0 = off := by injection hbo with hbo; injection hbo with h1 h2; exact ⟨h1, h2⟩
      obtain ⟨pv, pm, E⟩ := hat.row (i := k) hlt
      rw [Nat.zero_add] at E
      obtain ⟨d0, d1, d2, d3, d4, d5, d6, d7, d8, d9, d10, hps⟩ := E
      have hlt' : (k : Int) < (L.length : Int) := by omega
      have HI : Hid (usK nn L (k + 1) = (chF (usK nn L k) (eng L k).ps 1).getD []) := rfl
      have hnl := HL.out.1
      have hilk := hil k
      have hsk := hs4 k hlt
      have hnc : v = none → c9 = 0 := fun e => by
        rcases HL.out.2 with ⟨_, h2, _⟩ | ⟨g, h2, _⟩
        · exact h2
        · rw [h2] at e; cases e
      have hLS := HL.out.toS
      obtain ⟨u2, hu2⟩ : ∃ u2, u2 = usK nn L (k + 1) := ⟨_, rfl⟩
      have HU2 : Hid (usK nn L (k + 1) = u2) := hu2.symm
      have HI2 := HI.out
      rw [← hu2] at HI2
      obtain ⟨W3, hW3⟩ : ∃ W3, W3 = wr.alloc (.cells #[.int .i64 (eng L k).job.id, .int .i64 (eng L k).job.cores, .int .i64 (eng L k).job.long, .int .i64 (eng L k).job.due, .int .i64 (eng L k).job.wt, .int .i64 (eng L k).job.rank, .int .i64 (eng L k).job.at_, .int .i64 (eng L k).ph, .int .i64 (eng L k).st, .int .i64 (eng L k).ep, .slice pv (eng L k).ps.length pm] 64) := ⟨_, rfl⟩
      have b3 : Below wr.heap.size wr W3 := by rw [hW3]; exact box_below0
      have z3 : W3.cell? ⟨wr.heap.size, 10, none⟩ = some (.slice pv (eng L k).ps.length pm) := by rw [hW3]; simp
      have hb3 : w.heap.size ≤ W3.heap.size := Nat.le_trans hw.size b3.size
      have hw3 := hw2.then b3 hw2.size
      have hLS3 := hLS.below b3
      generalize usK nn L k = u at hnl hilk hLS3 HI2
      have CT := implTaken_any v pv n c9 (eng L k).ps.length pm u (eng L k).ps W3 hLS3 (hps.below b3) hnc (by omega) (by omega)
      rw [← HI2] at CT
      go_upto_region 5 with fail
      rw [← hW3]
      clear hW3 hps hu2 HI2 HI hLS hLS3 hnc hnl hilk HL d0 d1 d2 d3 d4 d5 d6 d7 d8 d9 d10 hat b3
      go_wp2_with (go_at_call 78; refine CT.mono ?_; rintro e w4 ⟨v2, c2', rfl, hL2, hb4⟩)
      go_roundw
      case rel => exact ⟨k + 1, v2, _, c2', by omega, by go_num, rfl, by rw [HU2.out]; exact hL2.low hb3, hw3.then hb4 hw3.size⟩
      case measure => simp [intOf]; omega
    · obtain rfl : k = L.length := by omega
      have hnn : ¬ (L.length : Int) < (L.length : Int) := by omega
      have hl9 := HL.out.1
      go_wp2
      go_ret
      exact ⟨v, c9, by rw [HR.out, ← hl9]; rfl, by rw [HR.out, ← hl9]; exact HL.out, hw⟩

end Go.Proofs.YtdgfkcobhhlfbaaGreat

/- The program's chapter 13, third part: is an Entry right by itself? is each? -/
namespace Go.Proofs.YtdgfkcobhhlfbaaGreat
open Go.RowKit Go.Sort

theorem eo_1 {s : St} {e : En} (h1 : ¬ s.now < e.job.at_) (h2 : e.job.wt = 0) (h3 : e.job.due = 1000000000) (h4 : ¬ s.next ≤ e.job.id) (h5 : inB e.st 0 s.now = true) (h6 : inB e.ep 0 s.eps = true)
    (hp : (e.ph = 1 ∧ e.st = 0 ∧ e.ep = 0 ∧ e.ps.length = 0) ∨ (e.ph = 2 ∧ 0 < e.ep) ∨ ((e.ph = 3 ∨ e.ph = 4 ∨ e.ph = 5) ∧ e.ps.length = 0)) : eoB s e = true :=
  eoB_mk ⟨by omega, h2, h3, by omega, nin_t h5, nin_t h6, hp⟩
/-- what is right of one that waits -/
theorem eo_q {s : St} {e : En} (h1 : ¬ s.now < e.job.at_) (h2 : e.job.wt = 0) (h3 : e.job.due = 1000000000) (h4 : ¬ s.next ≤ e.job.id) (h5 : inB e.st 0 s.now = true) (h6 : inB e.ep 0 s.eps = true)
    (p : e.ph = 1) (q7 : e.st = 0) (q8 : e.ep = 0) : eoB s e = ((e.ps.length : Int) == 0) := by
  by_cases q : e.ps.length = 0
  · rw [eo_1 h1 h2 h3 h4 h5 h6 (Or.inl ⟨p, q7, q8, q⟩), q]; rfl
  · rw [eoB_no fun g => by rcases g.ph with ⟨_, _, _, g⟩ | ⟨g, _⟩ | ⟨g | g | g, _⟩ <;> omega]
    exact (beq_eq_false_iff_ne.2 (by omega)).symm
theorem eo_o {s : St} {e : En} (h1 : ¬ s.now < e.job.at_) (h2 : e.job.wt = 0) (h3 : e.job.due = 1000000000) (h4 : ¬ s.next ≤ e.job.id) (h5 : inB e.st 0 s.now = true) (h6 : inB e.ep 0 s.eps = true)
    (p : e.ph = 3 ∨ e.ph = 4 ∨ e.ph = 5) : eoB s e = ((e.ps.length : Int) == 0) := by
  by_cases q : e.ps.length = 0
  · rw [eo_1 h1 h2 h3 h4 h5 h6 (Or.inr (Or.inr ⟨p, q⟩)), q]; rfl
  · rw [eoB_no fun g => by rcases g.ph with ⟨g, _⟩ | ⟨g, _⟩ | ⟨_, g⟩ <;> omega]
    exact (beq_eq_false_iff_ne.2 (by omega)).symm

set_option maxRecDepth 8000 in
set_option maxHeartbeats 4000000 in
theorem entryOk_any (s : St) (e : En) (na : Option Addr) (nc : Nat) (ea : Option Addr) (ec : Nat) (v : Option Addr) (m : Nat) (w : World) :
    Calls Tryz.prog 43 #[stV s na nc ea ec, enV e v m] w fun en w' => en = .returned (.bool (eoB s e)) ∧ Below w.heap.size w w' := by
  unfold stV enV
  obtain ⟨r, hr⟩ : ∃ r, r = eoB s e := ⟨_, rfl⟩
  have HR : Hid (r = eoB s e) := hr
  rw [← hr]
  clear hr
  obtain ⟨Wa, hWa⟩ : ∃ Wa, Wa = w.alloc (.cells #[.int .i64 s.now, .slice na s.nodes.length nc, .slice ea s.ents.length ec, .int .i64 s.next, .int .i64 s.eps] 32) := ⟨_, rfl⟩
  have ba : Below w.heap.size w Wa := by rw [hWa]; exact box_below0
  have xa : Wa.heap[w.heap.size]? = some (.cells #[.int .i64 s.now, .slice na s.nodes.length nc, .slice ea s.ents.length ec, .int .i64 s.next, .int .i64 s.eps] 32 (0, 0)) := by rw [hWa]; exact heap_alloc_new _ _
  obtain ⟨Wb, hWb⟩ : ∃ Wb, Wb = Wa.alloc (.cells #[.int .i64 e.job.id, .int .i64 e.job.cores, .int .i64 e.job.long, .int .i64 e.job.due, .int .i64 e.job.wt, .int .i64 e.job.rank, .int .i64 e.job.at_, .int .i64 e.ph, .int .i64 e.st, .int .i64 e.ep, .slice v e.ps.length m] 64) := ⟨_, rfl⟩
  have bb : Below Wa.heap.size Wa Wb := by rw [hWb]; exact box_below0
  have xb : Wb.heap[w.heap.size + 1]? = some (.cells #[.int .i64 e.job.id, .int .i64 e.job.cores, .int .i64 e.job.long, .int .i64 e.job.due, .int .i64 e.job.wt, .int .i64 e.job.rank, .int .i64 e.job.at_, .int .i64 e.ph, .int .i64 e.st, .int .i64 e.ep, .slice v e.ps.length m] 64 (0, 0)) := by rw [hWb]; exact new_box _ _ _ (by rw [hWa]; simp)
  obtain ⟨W2, hW2⟩ : ∃ W2, W2 = Wb.alloc (.cells #[.int .i64 e.job.id, .int .i64 e.job.cores, .int .i64 e.job.long, .int .i64 e.job.due, .int .i64 e.job.wt, .int .i64 e.job.rank, .int .i64 e.job.at_] 49) := ⟨_, rfl⟩
  have bc : Below Wb.heap.size Wb W2 := by rw [hW2]; exact box_below0
  have xc : W2.heap[w.heap.size + 1 + 1]? = some (.cells #[.int .i64 e.job.id, .int .i64 e.job.cores, .int .i64 e.job.long, .int .i64 e.job.due, .int .i64 e.job.wt, .int .i64 e.job.rank, .int .i64 e.job.at_] 49 (0, 0)) := by rw [hW2]; exact new_box _ _ _ (by rw [hWb, hWa]; simp)
  have la := lt_of_block xa
  have lb := lt_of_block xb
  have HB : Hid (Below w.heap.size w W2) := (ba.then bb ba.size).then bc (ba.then bb ba.size).size
  obtain ⟨c0, c1, c2, c3, c4, _, _, _, _, _⟩ := box5 ((bc.block _ (by have := bb.size; omega)).trans ((bb.block _ la).trans xa))
  obtain ⟨_, _, _, _, _, _, _, d7, d8, d9, d10, _, _, _, _, _, _, _, _, _, _, _⟩ := box11 ((bc.block _ lb).trans xb)
  have j0 : W2.cell? ⟨w.heap.size + 1 + 1, 0, none⟩ = some (.int .i64 e.job.id) := cell_of_blk 0 xc (by simp)
  have j3 : W2.cell? ⟨w.heap.size + 1 + 1, 3, none⟩ = some (.int .i64 e.job.due) := cell_of_blk 3 xc (by simp)
  have j4 : W2.cell? ⟨w.heap.size + 1 + 1, 4, none⟩ = some (.int .i64 e.job.wt) := cell_of_blk 4 xc (by simp)
  have j6 : W2.cell? ⟨w.heap.size + 1 + 1, 6, none⟩ = some (.int .i64 e.job.at_) := cell_of_blk 6 xc (by simp)
  rw [hWa] at hWb
  rw [hWb] at hW2
  clear hWa hWb xa xb xc la lb ba bb bc
  go_enter Tryz.func43, Tryz.ntmps43
  go_upto_region 2 with fail
  rw [← hW2]
  clear hW2
  by_cases q1 : s.now < e.job.at_
  · have E : Hid (r = false) := HR.out.trans (eoB_no fun g => by have := g.at_; omega)
    clear HR
    go_wp2
    go_ret
    exact ⟨by rw [E.out]; rfl, HB.out⟩
  · rcases q2 : (e.job.wt != 0) with _ | _
    · rcases q3 : (e.job.due != 1000000000) with _ | _
      · by_cases q4 : s.next ≤ e.job.id
        · have E : Hid (r = false) := HR.out.trans (eoB_no fun g => by have := g.nx; omega)
          clear HR
          go_wp2
          go_ret
          exact ⟨by rw [E.out]; rfl, HB.out⟩
        · rcases q5 : inB e.st 0 s.now with _ | _
          · have E : Hid (r = false) := HR.out.trans (eoB_no fun g => by have := g.st; have := nin_f q5; omega)
            clear HR
            go_wp2_with (go_at_call 39; refine (within_any _ _ _ _).mono ?_; rw [q5]; rintro e9 w9 ⟨rfl, rfl⟩)
            go_ret
            exact ⟨by rw [E.out]; rfl, HB.out⟩
          · rcases q6 : inB e.ep 0 s.eps with _ | _
            · have E : Hid (r = false) := HR.out.trans (eoB_no fun g => by have := g.ep; have := nin_f q6; omega)
              clear HR
              go_wp2_with (go_at_call 39; refine (within_any _ _ _ _).mono ?_; first | rw [q5] | rw [q6]; rintro e9 w9 ⟨rfl, rfl⟩)
              go_ret
              exact ⟨by rw [E.out]; rfl, HB.out⟩
            · have k2 : e.job.wt = 0 := by simpa using q2
              have k3 : e.job.due = 1000000000 := by simpa using q3
              by_cases p1 : e.ph = 1
              · have p1' : (e.ph == 1) = true := by simpa using p1
                rcases q7 : (e.st == 0) with _ | _
                · have E : Hid (r = false) := HR.out.trans (eoB_no fun g => by have := beq_eq_false_iff_ne.1 q7; rcases g.ph with ⟨_, g, _⟩ | ⟨g, _⟩ | ⟨g | g | g, _⟩ <;> omega)
                  clear p1
                  clear HR
                  go_wp2_with (go_at_call 39; refine (within_any _ _ _ _).mono ?_; first | rw [q5] | rw [q6]; rintro e9 w9 ⟨rfl, rfl⟩)
                  go_ret
                  exact ⟨by rw [E.out]; rfl, HB.out⟩
                · rcases q8 : (e.ep == 0) with _ | _
                  · have E : Hid (r = false) := HR.out.trans (eoB_no fun g => by have := beq_eq_false_iff_ne.1 q8; rcases g.ph with ⟨_, _, g, _⟩ | ⟨g, _⟩ | ⟨g | g | g, _⟩ <;> omega)
                    clear p1
                    clear HR
                    go_wp2_with (go_at_call 39; refine (within_any _ _ _ _).mono ?_; first | rw [q5] | rw [q6]; rintro e9 w9 ⟨rfl, rfl⟩)
                    go_ret
                    exact ⟨by rw [E.out]; rfl, HB.out⟩
                  · have E : Hid (r = ((e.ps.length : Int) == 0)) := HR.out.trans (eo_q q1 k2 k3 q4 q5 q6 p1 (by simpa using q7) (by simpa using q8))
                    clear p1
                    clear HR
                    go_wp2_with (go_at_call 39; refine (within_any _ _ _ _).mono ?_; first | rw [q5] | rw [q6]; rintro e9 w9 ⟨rfl, rfl⟩)
                    go_ret
                    exact ⟨by rw [E.out]; rfl, HB.out⟩
              · have p1' : (e.ph == 1) = false := by simpa using p1
                by_cases p2 : e.ph = 2
                · have p2' : (e.ph == 2) = true := by simpa using p2
                  by_cases q7 : 0 < e.ep
                  · have E : Hid (r = true) := HR.out.trans (eo_1 q1 k2 k3 q4 q5 q6 (Or.inr (Or.inl ⟨p2, q7⟩)))
                    clear p1 p2
                    clear HR
                    go_wp2_with (go_at_call 39; refine (within_any _ _ _ _).mono ?_; first | rw [q5] | rw [q6]; rintro e9 w9 ⟨rfl, rfl⟩)
                    go_ret
                    exact ⟨by rw [E.out]; rfl, HB.out⟩
                  · have E : Hid (r = false) := HR.out.trans (eoB_no fun g => by rcases g.ph with ⟨g, _⟩ | ⟨_, g⟩ | ⟨g | g | g, _⟩ <;> omega)
                    clear p1 p2
                    clear HR
                    go_wp2_with (go_at_call 39; refine (within_any _ _ _ _).mono ?_; first | rw [q5] | rw [q6]; rintro e9 w9 ⟨rfl, rfl⟩)
                    go_ret
                    exact ⟨by rw [E.out]; show Ending.returned (Value.bool (decide (0 < e.ep))) = _; rw [decide_eq_false (by omega)], HB.out⟩
                · have p2' : (e.ph == 2) = false := by simpa using p2
                  by_cases p3 : e.ph = 3
                  · have p3' : (e.ph == 3) = true := by simpa using p3
                    have E : Hid (r = ((e.ps.length : Int) == 0)) := HR.out.trans (eo_o q1 k2 k3 q4 q5 q6 (by omega))
                    clear p1 p2 p3
                    clear HR
                    go_wp2_with (go_at_call 39; refine (within_any _ _ _ _).mono ?_; first | rw [q5] | rw [q6]; rintro e9 w9 ⟨rfl, rfl⟩)
                    go_ret
                    exact ⟨by rw [E.out]; rfl, HB.out⟩
                  · have p3' : (e.ph == 3) = false := by simpa using p3
                    by_cases p4 : e.ph = 4
                    · have p4' : (e.ph == 4) = true := by simpa using p4
                      have E : Hid (r = ((e.ps.length : Int) == 0)) := HR.out.trans (eo_o q1 k2 k3 q4 q5 q6 (by omega))
                      clear p1 p2 p3 p4
                      clear HR
                      go_wp2_with (go_at_call 39; refine (within_any _ _ _ _).mono ?_; first | rw [q5] | rw [q6]; rintro e9 w9 ⟨rfl, rfl⟩)
                      go_ret
                      exact ⟨by rw [E.out]; rfl, HB.out⟩
                    · have p4' : (e.ph == 4) = false := by simpa using p4
                      by_cases p5 : e.ph = 5
                      · have p5' : (e.ph == 5) = true := by simpa using p5
                        have E : Hid (r = ((e.ps.length : Int) == 0)) := HR.out.trans (eo_o q1 k2 k3 q4 q5 q6 (by omega))
                        clear p1 p2 p3 p4 p5
                        clear HR
                        go_wp2_with (go_at_call 39; refine (within_any _ _ _ _).mono ?_; first | rw [q5] | rw [q6]; rintro e9 w9 ⟨rfl, rfl⟩)
                        go_ret
                        exact ⟨by rw [E.out]; rfl, HB.out⟩
                      · have p5' : (e.ph == 5) = false := by simpa using p5
                        have E : Hid (r = false) := HR.out.trans (eoB_no fun g => by rcases g.ph with ⟨g, _⟩ | ⟨g, _⟩ | ⟨g | g | g, _⟩ <;> omega)
                        clear p1 p2 p3 p4 p5
                        clear HR
                        go_wp2_with (go_at_call 39; refine (within_any _ _ _ _).mono ?_; first | rw [q5] | rw [q6]; rintro e9 w9 ⟨rfl, rfl⟩)
                        go_ret
                        exact ⟨by rw [E.out]; rfl, HB.out⟩
      · have E : Hid (r = false) := HR.out.trans (eoB_no fun g => by have := g.due; rw [this] at q3; cases q3)
        clear HR
        go_wp2
        go_ret
        exact ⟨by rw [E.out]; rfl, HB.out⟩
    · have E : Hid (r = false) := HR.out.trans (eoB_no fun g => by have := g.wt; rw [this] at q2; cases q2)
      clear HR
      go_wp2
      go_ret
      exact ⟨by rw [E.out]; rfl, HB.out⟩

set_option maxRecDepth 8000 in
set_option maxHeartbeats 2000000 in
theorem eachEntry_any (s : St) (na : Option Addr) (nc : Nat) (ea : Option Addr) (ec : Nat) (a : Option Addr) (n cap : Nat) (ls : List En) (w : World) (h : EntS w a n cap ls) :
    Calls Tryz.prog 42 #[.slice a n cap, .func (.func 43) #[stV s na nc ea ec] #[]] w fun e w' => e = .returned (.bool (eoTB s ls)) ∧ Below w.heap.size w w' := by
  have hlen := h.len
  have hmx := h.mx
  have hle := h.le
  unfold maxLen at hmx
  obtain ⟨r, hr⟩ : ∃ r, r = eoTB s ls := ⟨_, rfl⟩
  have HR : Hid (r = eoTB s ls) := hr
  rw [← hr]
  clear hr
  obtain ⟨V, hV⟩ : ∃ V, V = stV s na nc ea ec := ⟨_, rfl⟩
  rw [← hV]
  have CE : ∀ (e : En) (v : Option Addr) (m : Nat) (w : World), Calls Tryz.prog 43 #[V, enV e v m] w fun en w' => en = .returned (.bool (eoB s e)) ∧ Below w.heap.size w w' := fun e v m w => by rw [hV]; exact entryOk_any _ _ _ _ _ _ _ _ _
  unfold enV at CE
  clear hV
  have HE : Hid (∀ W, Below w.heap.size w W → EntS W a n cap ls) := fun W hW => h.below hW
  clear h
  go_enter Tryz.func42, Tryz.ntmps42
  go_wp2
  go_loopw [9] (fun i wr => ∃ k : Nat, k ≤ n ∧ i = .int .i64 k ∧ Hid (eoTo s ls k) ∧ Below w.heap.size w wr) (fun i _ => n - (intOf i).toNat)
  case atStart => exact ⟨0, by omega, rfl, fun j hj => by omega, Below.refl _ _⟩
  case round =>
    obtain ⟨k, hk, rfl, hok, hw⟩ := hrel
    rename World => wr
    by_cases hlt : k < n
    · obtain ⟨b, off, rfl, hbw, hat⟩ := (HE.out _ hw).at_ (by omega)
      obtain ⟨v, m, E⟩ := hat.row (i := k) (by omega)
      obtain ⟨d0, d1, d2, d3, d4, d5, d6, d7, d8, d9, d10, hps⟩ := E
      have hlt' : (k : Int) < (n : Int) := by omega
      clear hat hps
      obtain ⟨e, he⟩ : ∃ e, e = eng ls k := ⟨_, rfl⟩
      have HEk : Hid (e = eng ls k) := he
      rw [← he] at d0 d1 d2 d3 d4 d5 d6 d7 d8 d9 d10
      clear he
      have HB : Hid (∀ W : World, Below (wr.alloc (.cells #[.int .i64 e.job.id, .int .i64 e.job.cores, .int .i64 e.job.long, .int .i64 e.job.due, .int .i64 e.job.wt, .int .i64 e.job.rank, .int .i64 e.job.at_, .int .i64 e.ph, .int .i64 e.st, .int .i64 e.ep, .slice v e.ps.length m] 64)).heap.size (wr.alloc (.cells #[.int .i64 e.job.id, .int .i64 e.job.cores, .int .i64 e.job.long, .int .i64 e.job.due, .int .i64 e.job.wt, .int .i64 e.job.rank, .int .i64 e.job.at_, .int .i64 e.ph, .int .i64 e.st, .int .i64 e.ep, .slice v e.ps.length m] 64)) W → Below w.heap.size w W) := fun W he => (hw.then box_below0 hw.size).then he (hw.then box_below0 hw.size).size
      have CK := CE e v m
      rcases q : eoB s e with _ | _
      · have E : Hid (r = false) := HR.out.trans (eoTB_no fun q9 => by have := q9 k (by omega); rw [← HEk.out, q] at this; cases this)
        rw [q] at CK
        clear CE
        go_wp2_with (go_at_call 43; refine (CK _).mono ?_; rintro e w' ⟨rfl, hb⟩; have HB1 := HB.out _ hb)
        go_ret
        exact ⟨by rw [E.out]; rfl, HB1⟩
      · have N : Hid (eoTo s ls (k + 1)) := fun j hj => by
          by_cases e9 : j = k
          · subst e9; rw [← HEk.out]; exact q
          · exact hok.out j (by omega)
        rw [q] at CK
        clear CE
        go_wp2_with (go_at_call 43; refine (CK _).mono ?_; rintro e w' ⟨rfl, hb⟩; have HB1 := HB.out _ hb)
        go_roundw
        case rel => exact ⟨k + 1, by omega, by go_num, N, HB1⟩
        case measure => simp [intOf]; omega
    · obtain rfl : k = n := by omega
      have E : Hid (r = true) := HR.out.trans (eoTB_mk (by rw [hlen]; exact hok.out))
      have hnn : ¬ (k : Int) < (k : Int) := by omega
      clear CE
      go_wp2
      go_ret
      exact ⟨by rw [E.out]; rfl, hw⟩

end Go.Proofs.YtdgfkcobhhlfbaaGreat

/- The program's chapter 13, fourth part: the Parts of one that runs. -/
namespace Go.Proofs.YtdgfkcobhhlfbaaGreat
open Go.RowKit Go.Sort

/-- the node of the part ahead -/
def ltK (ps : List Pt) : Nat → Int
  | 0 => -1
  | k + 1 => (ptg ps k).node
theorem pp_no {ns : List Nd} {ps : List Pt} {k : Nat} (h : (ptg ps k).node < ltK ps k + 1) : ¬ Pp1 ns ps k := fun q => by
  cases k with
  | zero => simp only [ltK] at h; have := q.1.1; omega
  | succ k => simp only [ltK] at h; have := q.2.2.2 (by omega); rw [Nat.add_sub_cancel] at this; omega
theorem pp_mk {ns : List Nd} {ps : List Pt} {k : Nat} (hk : ∀ i, i < k → Pp1 ns ps i) (h1 : ltK ps k + 1 ≤ (ptg ps k).node ∧ (ptg ps k).node ≤ (ns.length : Int) - 1) (h2 : 1 ≤ (ptg ps k).cores ∧ (ptg ps k).cores ≤ (ndg ns (ptg ps k).node.toNat).cores) (h3 : (ndg ns (ptg ps k).node.toNat).state ≠ 3) : Pp1 ns ps k := by
  cases k with
  | zero => simp only [ltK] at h1; exact ⟨⟨by omega, h1.2⟩, h2, h3, fun h => by omega⟩
  | succ k =>
    simp only [ltK] at h1
    have := (hk k (by omega)).1.1
    exact ⟨⟨by omega, h1.2⟩, h2, h3, fun _ => by rw [Nat.add_sub_cancel]; omega⟩
theorem pp_bd {ns : List Nd} (hn : NsOk ns) {ps : List Pt} : ∀ k, (∀ i, i < k → Pp1 ns ps i) → (0 ≤ csK ps k ∧ csK ps k ≤ 100 * (k : Int)) ∧ -1 ≤ ltK ps k ∧ ltK ps k ≤ 8
  | 0, _ => ⟨⟨by simp [csK], by simp [csK]⟩, by simp [ltK], by simp [ltK]⟩
  | k + 1, h => by
    have ih := (pp_bd hn k (fun i hi => h i (by omega))).1
    obtain ⟨h1, ⟨h2, h3⟩, _, _⟩ := h k (by omega)
    have := (nOk_t (hn.ok (ptg ps k).node.toNat (by omega))).1
    have := hn.n2
    simp only [csK, ltK]
    omega

set_option maxRecDepth 8000 in
set_option maxHeartbeats 4000000 in
theorem partsOk_any (s : St) (e : En) (na : Option Addr) (nc : Nat) (ea : Option Addr) (ec : Nat) (v : Option Addr) (m : Nat) (w : World) (hN : NodeS w na s.nodes.length nc s.nodes) (hP : PartS w v e.ps.length m e.ps) (hns : NsOk s.nodes) (hp : e.ps.length ≤ 1048576) :
    Calls Tryz.prog 62 #[stV s na nc ea ec, enV e v m] w fun en w' => en = .returned (.bool (ppB s.nodes e.job.cores e.ps)) ∧ Below w.heap.size w w' := by
  have hn8 := hns.n2
  have hmx := hP.mx
  have hle := hP.le
  unfold maxLen at hmx
  unfold stV enV
  obtain ⟨r, hr⟩ : ∃ r, r = ppB s.nodes e.job.cores e.ps := ⟨_, rfl⟩
  have HR : Hid (r = ppB s.nodes e.job.cores e.ps) := hr
  rw [← hr]
  clear hr
  obtain ⟨Wa, hWa⟩ : ∃ Wa, Wa = w.alloc (.cells #[.int .i64 s.now, .slice na s.nodes.length nc, .slice ea s.ents.length ec, .int .i64 s.next, .int .i64 s.eps] 32) := ⟨_, rfl⟩
  have ba : Below w.heap.size w Wa := by rw [hWa]; exact box_below0
  have xa : Wa.heap[w.heap.size]? = some (.cells #[.int .i64 s.now, .slice na s.nodes.length nc, .slice ea s.ents.length ec, .int .i64 s.next, .int .i64 s.eps] 32 (0, 0)) := by rw [hWa]; exact heap_alloc_new _ _
  obtain ⟨W0, hW0⟩ : ∃ W0, W0 = Wa.alloc (.cells #[.int .i64 e.job.id, .int .i64 e.job.cores, .int .i64 e.job.long, .int .i64 e.job.due, .int .i64 e.job.wt, .int .i64 e.job.rank, .int .i64 e.job.at_, .int .i64 e.ph, .int .i64 e.st, .int .i64 e.ep, .slice v e.ps.length m] 64) := ⟨_, rfl⟩
  have bb : Below Wa.heap.size Wa W0 := by rw [hW0]; exact box_below0
  have xb : W0.heap[w.heap.size + 1]? = some (.cells #[.int .i64 e.job.id, .int .i64 e.job.cores, .int .i64 e.job.long, .int .i64 e.job.due, .int .i64 e.job.wt, .int .i64 e.job.rank, .int .i64 e.job.at_, .int .i64 e.ph, .int .i64 e.st, .int .i64 e.ep, .slice v e.ps.length m] 64 (0, 0)) := by rw [hW0]; exact new_box _ _ _ (by rw [hWa]; simp)
  have la := lt_of_block xa
  have lb := lt_of_block xb
  have xa0 := (bb.block _ la).trans xa
  have l0 := lt_of_block xa0
  have B0 : Below w.heap.size w W0 := ba.then bb ba.size
  have HX : Hid (∀ W, Below W0.heap.size W0 W → W.cell? ⟨w.heap.size, 1, none⟩ = some (.slice na s.nodes.length nc) ∧ W.cell? ⟨w.heap.size + 1, 1, none⟩ = some (.int .i64 e.job.cores)) := fun W hW =>
    ⟨(box5 ((hW.block _ l0).trans xa0)).c1, (box11 ((hW.block _ lb).trans xb)).c1⟩
  have z10 : W0.cell? ⟨w.heap.size + 1, 10, none⟩ = some (.slice v e.ps.length m) := (box11 xb).c10
  have HPS : Hid (∀ W, Below w.heap.size w W → PartS W v e.ps.length m e.ps) := fun W hW => hP.below hW
  have HNS : Hid (∀ W, Below w.heap.size w W → NodeS W na s.nodes.length nc s.nodes) := fun W hW => hN.below hW
  have HNO : Hid (NsOk s.nodes) := hns
  rw [hWa] at hW0
  clear hWa xa xb la lb xa0 l0 ba bb hN hP hns
  go_enter Tryz.func62, Tryz.ntmps62
  go_upto_region 1 with fail
  rw [← hW0]
  clear hW0
  go_wp2
  clear z10
  generalize hnn9 : s.nodes.length = nn at HX HNS hn8
  have HNN : Hid (s.nodes.length = nn) := hnn9
  clear hnn9
  go_loopw [5, 6, 13] (fun sv lv i wr => ∃ k : Nat, k ≤ e.ps.length ∧ i = .int .i64 k ∧ sv = .int .i64 (csK e.ps k) ∧ lv = .int .i64 (ltK e.ps k) ∧ Hid (∀ i, i < k → Pp1 s.nodes e.ps i) ∧ Below W0.heap.size W0 wr) (fun _ _ i _ => e.ps.length - (intOf i).toNat)
  case atStart => exact ⟨0, by omega, rfl, rfl, rfl, fun i hi => by omega, Below.refl _ _⟩
  case round =>
    obtain ⟨k, hk, rfl, rfl, rfl, hok, hw1⟩ := hrel
    rename World => wr
    have hw := B0.then hw1 B0.size
    have bd := pp_bd HNO.out k hok.out
    by_cases hlt : k < e.ps.length
    · obtain ⟨b, off, rfl, hbw, hat⟩ := (HPS.out _ hw).at_ (by omega)
      obtain ⟨p0, p1⟩ := hat.row (i := k) (by omega)
      have hlt' : (k : Int) < (e.ps.length : Int) := by omega
      obtain ⟨pn, hpn⟩ : ∃ pn, pn = (ptg e.ps k).node := ⟨_, rfl⟩
      obtain ⟨pc, hpc⟩ : ∃ pc, pc = (ptg e.ps k).cores := ⟨_, rfl⟩
      have HPN : Hid (pn = (ptg e.ps k).node) := hpn
      have HPC : Hid (pc = (ptg e.ps k).cores) := hpc
      rw [← hpn] at p0
      rw [← hpc] at p1
      clear hpn hpc
      obtain ⟨W1, hW1⟩ : ∃ W1, W1 = wr.alloc (.cells #[.int .i64 pn, .int .i64 pc] 85) := ⟨_, rfl⟩
      have b1 : Below wr.heap.size wr W1 := by rw [hW1]; exact box_below0
      have B1 := hw.then b1 hw.size
      have hw3 := hw1.then b1 hw1.size
      have y0 : W1.cell? ⟨wr.heap.size, 0, none⟩ = some (.int .i64 pn) := by rw [hW1]; simp
      have y1 : W1.cell? ⟨wr.heap.size, 1, none⟩ = some (.int .i64 pc) := by rw [hW1]; simp
      have l1 : wr.heap.size < W1.heap.size := by rw [hW1]; simp
      obtain ⟨z1, _⟩ := HX.out W1 hw3
      have wl : IntKind.i64.wrap (ltK e.ps k + 1) = ltK e.ps k + 1 := by rw [IntKind.wrap_i64]; omega
      have wn : IntKind.i64.wrap ((nn : Int) - 1) = (nn : Int) - 1 := by rw [IntKind.wrap_i64]; omega
      have ws : pc ≤ 100 → 1 ≤ pc → IntKind.i64.wrap (csK e.ps k + pc) = csK e.ps k + pc := fun h1 h2 => by rw [IntKind.wrap_i64]; omega
      generalize hlv : ltK e.ps k = lv at wl bd ⊢
      have HLV : Hid (lv = ltK e.ps k) := hlv.symm
      clear hlv
      go_upto_region 5 with fail
      rw [← hW1]
      clear hW1 p0 p1 hat
      rcases q1 : inB pn (lv + 1) ((nn : Int) - 1) with _ | _
      · have E : Hid (r = false) := HR.out.trans (ppB_bad hlt fun q => by
          have h9 := q.1
          have := nin_f q1
          have := HPN.out
          have := HNN.out
          have := HLV.out
          rcases Int.lt_or_le (ptg e.ps k).node (ltK e.ps k + 1) with g | g
          · exact pp_no g q
          · omega)
        clear HX HPS HNS HR hok
        go_wp2_with (go_at_call 39; refine (within_any _ _ _ _).mono ?_; rw [q1]; rintro e9 w9 ⟨rfl, rfl⟩)
        go_ret
        exact ⟨by rw [E.out]; rfl, B1⟩
      · have n1 := nin_t q1
        have n0 : 0 ≤ pn := by have := HLV.out; omega
        obtain ⟨bn, offn, rfl, hbn, hatn⟩ := (HNS.out W1 B1).at_ (by omega)
        obtain ⟨x0, x1⟩ := hatn.row (i := pn.toNat) (by have := HNN.out; omega)
        have n2 : pn < (nn : Int) := by omega
        obtain ⟨gc, hgc⟩ : ∃ g, g = (ndg s.nodes pn.toNat).cores := ⟨_, rfl⟩
        obtain ⟨gs, hgs⟩ : ∃ g, g = (ndg s.nodes pn.toNat).state := ⟨_, rfl⟩
        have HGC : Hid (gc = (ndg s.nodes pn.toNat).cores) := hgc
        have HGS : Hid (gs = (ndg s.nodes pn.toNat).state) := hgs
        rw [← hgc] at x0
        rw [← hgs] at x1
        have hg100 : gc ≤ 100 := by
          have := (nOk_t (HNO.out.ok pn.toNat (by have := HNN.out; omega))).1
          omega
        clear hgc hgs hatn
        obtain ⟨W2, hW2⟩ : ∃ W2, W2 = W1.alloc (.cells #[.int .i64 gc, .int .i64 gs] 70) := ⟨_, rfl⟩
        have b2 : Below W1.heap.size W1 W2 := by rw [hW2]; exact box_below0
        have B2 := B1.then b2 B1.size
        have hw4 := hw3.then b2 hw3.size
        have g0 : W2.cell? ⟨W1.heap.size, 0, none⟩ = some (.int .i64 gc) := by rw [hW2]; simp
        have g1 : W2.cell? ⟨W1.heap.size, 1, none⟩ = some (.int .i64 gs) := by rw [hW2]; simp
        have y0' : W2.cell? ⟨wr.heap.size, 0, none⟩ = some (.int .i64 pn) := (b2.cell (p := ⟨wr.heap.size, 0, none⟩) l1).trans y0
        have y1' : W2.cell? ⟨wr.heap.size, 1, none⟩ = some (.int .i64 pc) := (b2.cell (p := ⟨wr.heap.size, 1, none⟩) l1).trans y1
        clear l1
        go_upto_region 8 with (go_at_call 39; refine (within_any _ _ _ _).mono ?_; rw [q1]; rintro e9 w9 ⟨rfl, hq⟩; have hq' := hq.symm; clear hq; subst hq')
        rw [← hW2]
        clear hW2 x0 x1 y0 y1 z1
        rcases q3 : (gs == 3) with _ | _
        · rcases q2 : inB pc 1 gc with _ | _
          · have E : Hid (r = false) := HR.out.trans (ppB_bad hlt fun q => by have := q.2.1; rw [← HPN.out, ← HPC.out, ← HGC.out] at this; have := nin_f q2; omega)
            clear HX HPS HNS HR hok
            go_wp2_with (go_at_call 39; refine (within_any _ _ _ _).mono ?_; rw [q2]; rintro e9 w9 ⟨rfl, rfl⟩)
            go_ret
            exact ⟨by rw [E.out]; rfl, B2⟩
          · have n3 := nin_t q2
            have ws' := ws (by omega) (by omega)
            have HP1 : Hid (Pp1 s.nodes e.ps k) := pp_mk hok.out (by rw [← HPN.out, ← HLV.out, HNN.out]; exact n1) (by rw [← HPN.out, ← HPC.out, ← HGC.out]; exact n3) (by rw [← HPN.out, ← HGS.out]; simpa using q3)
            have N : Hid (∀ i, i < k + 1 → Pp1 s.nodes e.ps i) := fun i hi => by
              by_cases e' : i = k
              · subst e'; exact HP1.out
              · exact hok.out i (by omega)
            have E1 : Hid (csK e.ps (k + 1) = csK e.ps k + pc) := by unfold Hid; simp only [csK]; rw [HPC.out]
            have E2 : Hid (ltK e.ps (k + 1) = pn) := by unfold Hid; simp only [ltK]; rw [HPN.out]
            clear HX HPS HNS HR hok ws
            go_wp2_with (go_at_call 39; refine (within_any _ _ _ _).mono ?_; rw [q2]; rintro e9 w9 ⟨rfl, rfl⟩)
            go_roundw
            case rel => exact ⟨k + 1, by omega, by go_num, by rw [E1.out], by rw [E2.out], N, hw4⟩
            case measure => simp [intOf]; omega
        · have E : Hid (r = false) := HR.out.trans (ppB_bad hlt fun q => q.2.2.1 (by rw [← HPN.out, ← HGS.out]; simpa using q3))
          clear HX HPS HNS HR hok
          go_wp2
          go_ret
          exact ⟨by rw [E.out]; rfl, B2⟩
    · obtain rfl : k = e.ps.length := by omega
      have hnn : ¬ (e.ps.length : Int) < (e.ps.length : Int) := by omega
      obtain ⟨_, z1⟩ := HX.out wr hw1
      have E : Hid (r = (csK e.ps e.ps.length == e.job.cores)) := HR.out.trans (by
        by_cases q : csK e.ps e.ps.length = e.job.cores
        · rw [ppB_mk ⟨hok.out, q⟩, q]; simp
        · rw [ppB_no fun h => q h.2]; simpa using q)
      clear HX HPS HNS HR hok
      go_wp2
      go_ret
      exact ⟨by rw [E.out]; rfl, hw⟩

end Go.Proofs.YtdgfkcobhhlfbaaGreat

/- The program's chapter 13, fifth part: those that run, at most forty, each right, no two with one Epoch. -/
namespace Go.Proofs.YtdgfkcobhhlfbaaGreat
open Go.RowKit Go.Sort

/-- is there one with this epoch among the first n? -/
def ehas (ls : List En) (n : Nat) (ep : Int) : Bool := (List.range n).any fun i => cmpI ep (eng ls i).ep == 0
theorem ehas_t {ls : List En} {n : Nat} {ep : Int} (h : ehas ls n ep = true) : ∃ i, i < n ∧ (eng ls i).ep = ep := by
  obtain ⟨i, hi, h1⟩ := List.any_eq_true.1 h
  exact ⟨i, by simpa using hi, (cmpI_zero.1 (by simpa using h1)).symm⟩
theorem ehas_f {ls : List En} {n : Nat} {ep : Int} (h : ehas ls n ep = false) : ∀ i, i < n → (eng ls i).ep ≠ ep := by
  intro i hi e
  have := List.any_eq_false.1 h i (by simpa using hi)
  exact this (by simpa using cmpI_zero.2 e.symm)
theorem ehas_mk {ls : List En} {n i : Nat} {ep : Int} (hi : i < n) (e : (eng ls i).ep = ep) : ehas ls n ep = true :=
  List.any_eq_true.2 ⟨i, by simpa using hi, by simpa using cmpI_zero.2 e.symm⟩
theorem ehas_no {ls : List En} {n : Nat} {ep : Int} (h : ∀ i, i < n → (eng ls i).ep ≠ ep) : ehas ls n ep = false := by
  rw [Bool.eq_false_iff]; intro h1
  obtain ⟨i, hi, h2⟩ := ehas_t h1
  exact h i hi h2
theorem eng_take {ls : List En} {k i : Nat} (hi : i < k) : eng (ls.take k) i = eng ls i := by simp [eng, hi]
theorem ehas_pre {ls : List En} {k : Nat} {ep : Int} : ehas (ls.take k) k ep = ehas ls k ep := by
  rcases h : ehas ls k ep with _ | _
  · exact ehas_no fun i hi => by rw [eng_take hi]; exact ehas_f h i hi
  · obtain ⟨i, hi, h2⟩ := ehas_t h
    exact ehas_mk hi (by rw [eng_take hi]; exact h2)
theorem EntS.pre {w : World} {a : Option Addr} {n cap : Nat} {ls : List En} (h : EntS w a n cap ls) {k : Nat} (hk : k ≤ n) : EntS w a k cap (ls.take k) := by
  have hl := h.len
  refine ⟨by rw [List.length_take]; omega, by have := h.le; omega, h.mx, h.nil, fun i hi => by rw [eng_take hi]; exact h.wf i (by omega), fun h0 => ?_⟩
  obtain ⟨b, off, e, hb, hat⟩ := h.at_ (by omega)
  refine ⟨b, off, e, hb, fun i hi => ?_⟩
  rw [List.length_take] at hi
  rw [eng_take (by omega)]
  exact hat i (by omega)

theorem byEpoch_any (x y : En) (v1 v2 : Option Addr) (m1 m2 : Nat) (w : World) :
    Calls Tryz.prog 63 #[enV x v1 m1, enV y v2 m2] w fun e w' => e = .returned (.int .i64 (cmpI x.ep y.ep)) ∧ GrS w w' := by
  unfold enV
  have hw : ∀ A B, GrS w ((w.alloc A).alloc B) := fun A B => ((GrS.refl w).alloc A).alloc B
  go_enter Tryz.func63, Tryz.ntmps63
  go_wp2_with (go_at_call 69; refine (compare_any _ _ _).mono ?_; rintro e w' ⟨rfl, rfl⟩)
  go_ret
  exact ⟨rfl, hw _ _⟩

set_option maxHeartbeats 1000000 in
theorem same_ent (one oth : En) (vo v : Option Addr) (mo m : Nat) (B1 B2 : Nat) (w : World) (h1 : w.cell? ⟨B1, 0, none⟩ = some (.func (.func 63) #[] #[]))
    (h2 : w.heap[B2]? = some (.cells #[.int .i64 one.job.id, .int .i64 one.job.cores, .int .i64 one.job.long, .int .i64 one.job.due, .int .i64 one.job.wt, .int .i64 one.job.rank, .int .i64 one.job.at_, .int .i64 one.ph, .int .i64 one.st, .int .i64 one.ep, .slice vo one.ps.length mo] 64 (0, 0))) :
    Calls Tryz.prog 76 #[enV oth v m, .pointer (some ⟨B1, 0, none⟩), .pointer (some ⟨B2, 0, none⟩)] w fun e w' => e = .returned (.bool (cmpI one.ep oth.ep == 0)) ∧ GrS w w' := by
  have CB := byEpoch_any one oth vo v mo m
  unfold enV at CB ⊢
  obtain ⟨W0, hW0⟩ : ∃ W0, W0 = w.alloc (.cells #[.int .i64 oth.job.id, .int .i64 oth.job.cores, .int .i64 oth.job.long, .int .i64 oth.job.due, .int .i64 oth.job.wt, .int .i64 oth.job.rank, .int .i64 oth.job.at_, .int .i64 oth.ph, .int .i64 oth.st, .int .i64 oth.ep, .slice v oth.ps.length m] 64) := ⟨_, rfl⟩
  have HG : Hid (GrS w W0) := by unfold Hid; rw [hW0]; exact (GrS.refl w).alloc _
  have bl : Below w.heap.size w W0 := by rw [hW0]; exact box_below0
  have l1 : B1 < w.heap.size := World.block_lt_of_cell? w _ h1
  have l2 := lt_of_block h2
  have R0 : W0.cell? ⟨B1, 0, none⟩ = some (.func (.func 63) #[] #[]) := (bl.cell (p := ⟨B1, 0, none⟩) l1).trans h1
  obtain ⟨P0, P1, P2, P3, P4, P5, P6, P7, P8, P9, P10, _, _, _, _, _, _, _, _, _, _, _⟩ := box11 ((bl.block _ l2).trans h2)
  have x0 : W0.heap[w.heap.size]? = some (.cells #[.int .i64 oth.job.id, .int .i64 oth.job.cores, .int .i64 oth.job.long, .int .i64 oth.job.due, .int .i64 oth.job.wt, .int .i64 oth.job.rank, .int .i64 oth.job.at_, .int .i64 oth.ph, .int .i64 oth.st, .int .i64 oth.ep, .slice v oth.ps.length m] 64 (0, 0)) := by rw [hW0]; exact heap_alloc_new _ _
  obtain ⟨Q0, Q1, Q2, Q3, Q4, Q5, Q6, Q7, Q8, Q9, Q10, _, _, _, _, _, _, _, _, _, _, _⟩ := box11 x0
  clear h1 h2 x0 bl l1 l2
  go_enter Tryz.func76, Tryz.ntmps76
  go_upto_region 1 with fail
  rw [← hW0]
  clear hW0
  go_wp2_with (go_at_call 63; refine (CB _).mono ?_; rintro e w' ⟨rfl, hg'⟩)
  go_ret
  exact ⟨rfl, HG.out.trans hg'⟩

set_option maxHeartbeats 2000000 in
theorem index_ent (a : Option Addr) (n cap : Nat) (ls : List En) (one : En) (vo : Option Addr) (mo : Nat) (B1 B2 : Nat) (w : World) (h : EntS w a n cap ls) (h1 : w.cell? ⟨B1, 0, none⟩ = some (.func (.func 63) #[] #[]))
    (h2 : w.heap[B2]? = some (.cells #[.int .i64 one.job.id, .int .i64 one.job.cores, .int .i64 one.job.long, .int .i64 one.job.due, .int .i64 one.job.wt, .int .i64 one.job.rank, .int .i64 one.job.at_, .int .i64 one.ph, .int .i64 one.st, .int .i64 one.ep, .slice vo one.ps.length mo] 64 (0, 0))) :
    Calls Tryz.prog 86 #[.slice a n cap, .func (.func 76) #[] #[.pointer (some ⟨B1, 0, none⟩), .pointer (some ⟨B2, 0, none⟩)]] w
      fun e w' => ∃ r : Int, e = .returned (.int .i64 r) ∧ -1 ≤ r ∧ (0 ≤ r ↔ ehas ls n one.ep = true) ∧ GrS w w' := by
  have hm := h.mx
  have hle := h.le
  have hlen := h.len
  unfold maxLen at hm
  have l1 : B1 < w.heap.size := World.block_lt_of_cell? w _ h1
  have l2 := lt_of_block h2
  have HE : Hid (EntS w a n cap ls) := h
  have H1 : Hid (w.cell? ⟨B1, 0, none⟩ = some (.func (.func 63) #[] #[])) := h1
  have H2 : Hid (w.heap[B2]? = some (.cells #[.int .i64 one.job.id, .int .i64 one.job.cores, .int .i64 one.job.long, .int .i64 one.job.due, .int .i64 one.job.wt, .int .i64 one.job.rank, .int .i64 one.job.at_, .int .i64 one.ph, .int .i64 one.st, .int .i64 one.ep, .slice vo one.ps.length mo] 64 (0, 0))) := h2
  clear h h1 h2
  go_enter Tryz.func86, Tryz.ntmps86
  go_wp2
  go_loopw [8] (fun i wr => ∃ k : Nat, k ≤ n ∧ i = .int .i64 k ∧ Hid (∀ m, m < k → (eng ls m).ep ≠ one.ep) ∧ GrS w wr) (fun i _ => n - (intOf i).toNat)
  case atStart => exact ⟨0, by omega, rfl, fun m hm => by omega, GrS.refl _⟩
  case round =>
    obtain ⟨k, hk, rfl, hno, hwr⟩ := hrel
    rename World => wr
    have hbel : Below w.heap.size w wr := hwr.below
    have h1r : wr.cell? ⟨B1, 0, none⟩ = some (.func (.func 63) #[] #[]) := (hbel.cell (p := ⟨B1, 0, none⟩) l1).trans H1.out
    have h2r := (hbel.block _ l2).trans H2.out
    by_cases hlt : k < n
    · obtain ⟨b, off, rfl, hbw, hat⟩ := (HE.out.below hbel).at_ (by omega)
      obtain ⟨v, m, E⟩ := hat.row (i := k) (by omega)
      obtain ⟨d0, d1, d2, d3, d4, d5, d6, d7, d8, d9, d10, hps⟩ := E
      have hlt' : (k : Int) < (n : Int) := by omega
      have CS := same_ent one (eng ls k) vo v mo m B1 B2 wr h1r h2r
      unfold enV at CS
      clear hbel hat hps h1r h2r
      obtain ⟨e, he⟩ : ∃ e, e = eng ls k := ⟨_, rfl⟩
      have HEk : Hid (e = eng ls k) := he
      rw [← he] at d0 d1 d2 d3 d4 d5 d6 d7 d8 d9 d10 CS
      clear he
      by_cases hc : e.ep = one.ep
      · have hc' : (cmpI one.ep e.ep == 0) = true := by simpa using cmpI_zero.2 hc.symm
        have HC : Hid ((eng ls k).ep = one.ep) := by rw [← HEk.out]; exact hc
        rw [hc'] at CS
        clear hc hc'
        go_wp2_with (go_at_call 76; refine CS.mono ?_; rintro e9 w9 ⟨rfl, hg'⟩)
        go_ret
        exact ⟨k, rfl, by omega, ⟨fun _ => ehas_mk (by omega) HC.out, fun _ => by omega⟩, hwr.trans hg'⟩
      · have hc' : (cmpI one.ep e.ep == 0) = false := by
          rw [Bool.eq_false_iff]; intro q; exact hc (cmpI_zero.1 (by simpa using q)).symm
        have N : Hid (∀ m, m < k + 1 → (eng ls m).ep ≠ one.ep) := fun m hm => by
          by_cases e9 : m = k
          · subst e9; rw [← HEk.out]; exact hc
          · exact hno.out m (by omega)
        rw [hc'] at CS
        clear hc hc'
        go_wp2_with (go_at_call 76; refine CS.mono ?_; rintro e9 w9 ⟨rfl, hg'⟩)
        go_roundw
        case rel => exact ⟨k + 1, by omega, by go_num, N, hwr.trans hg'⟩
        case measure => simp [intOf]; omega
    · obtain rfl : k = n := by omega
      have hnn : ¬ (k : Int) < (k : Int) := by omega
      clear h1r h2r hbel
      go_wp2
      go_ret
      exact ⟨-1, rfl, by omega, ⟨fun q => by omega, fun q => by rw [ehas_no hno.out] at q; cases q⟩, hwr⟩

set_option maxHeartbeats 1000000 in
theorem contains_ent (a : Option Addr) (n cap : Nat) (ls : List En) (one : En) (vo : Option Addr) (mo : Nat) (B1 B2 : Nat) (w : World) (h : EntS w a n cap ls) (h1 : w.cell? ⟨B1, 0, none⟩ = some (.func (.func 63) #[] #[]))
    (h2 : w.heap[B2]? = some (.cells #[.int .i64 one.job.id, .int .i64 one.job.cores, .int .i64 one.job.long, .int .i64 one.job.due, .int .i64 one.job.wt, .int .i64 one.job.rank, .int .i64 one.job.at_, .int .i64 one.ph, .int .i64 one.st, .int .i64 one.ep, .slice vo one.ps.length mo] 64 (0, 0))) :
    Calls Tryz.prog 77 #[.slice a n cap, .func (.func 76) #[] #[.pointer (some ⟨B1, 0, none⟩), .pointer (some ⟨B2, 0, none⟩)]] w
      fun e w' => e = .returned (.bool (ehas ls n one.ep)) ∧ GrS w w' := by
  have HI := index_ent a n cap ls one vo mo B1 B2 w h h1 h2
  clear h h1 h2
  rcases hh : ehas ls n one.ep with _ | _
  · rw [hh] at HI
    go_enter Tryz.func77, Tryz.ntmps77
    go_wp2_with (go_at_call 86; refine HI.mono ?_; rintro e w' ⟨r, rfl, hr, hi, hg⟩; have hr0 : ¬ 0 ≤ r := fun h => by cases hi.1 h)
    go_ret
    exact ⟨by first | rfl | (congr 2; simpa using hr0), hg⟩
  · rw [hh] at HI
    go_enter Tryz.func77, Tryz.ntmps77
    go_wp2_with (go_at_call 86; refine HI.mono ?_; rintro e w' ⟨r, rfl, hr, hi, hg⟩; have hr0 : 0 ≤ r := hi.2 rfl)
    go_ret
    exact ⟨by first | rfl | (congr 2; simpa using hr0), hg⟩

end Go.Proofs.YtdgfkcobhhlfbaaGreat
