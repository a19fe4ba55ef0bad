/- Chapter 10's laws, their mathematics. -/
import Derived.Test.YtfepkchopndpeaaPlanQ
import Derived.Test.YtfepkchopndpeaaAreaMath
namespace Go.Proofs.Ytfepkchopndpeaa
open Go.RowKit Go.Sort

theorem area_alike {T : Int} {l l' : List Lev} (p : PO T l) (p' : PO T l') {a : Int} (ha : 0 ≤ a) : ∀ k : Nat, a + (k : Int) ≤ 1000000000 → (∀ τ, a ≤ τ → τ < a + (k : Int) → atI l' τ = atI l τ) →
    areaIn l' a (a + k) l'.length = areaIn l a (a + k) l.length
  | 0, _, _ => by
    simp only [Int.ofNat_zero, Int.add_zero]
    rw [area_none p, area_none p']
  | k + 1, h, hv => by
    have ih := area_alike p p' ha k (by omega) fun τ h1 h2 => hv τ h1 (by omega)
    have q1 := area_part p (x := a) (m := a + (k : Int)) (y := a + (k : Int) + 1) (by omega) (by omega) _ (Nat.le_refl _)
    have q2 := area_part p' (x := a) (m := a + (k : Int)) (y := a + (k : Int) + 1) (by omega) (by omega) _ (Nat.le_refl _)
    rw [area_unit p (by omega) (by omega) _ (Nat.le_refl _), if_pos (p.lvl_spec (by omega)).1] at q1
    rw [area_unit p' (by omega) (by omega) _ (Nat.le_refl _), if_pos (p'.lvl_spec (by omega)).1, hv _ (by omega) (by omega)] at q2
    have e : a + ((k + 1 : Nat) : Int) = a + (k : Int) + 1 := by omega
    rw [e]; omega
theorem area_same_at {T : Int} {l l' : List Lev} (p : PO T l) (p' : PO T l') {a b : Int} (ha : 0 ≤ a) (hab : a ≤ b) (hb : b ≤ 1000000000) (hv : ∀ τ, a ≤ τ → τ < b → atI l' τ = atI l τ) :
    areaIn l' a b l'.length = areaIn l a b l.length := by
  have := area_alike p p' ha (b - a).toNat (by omega) fun τ h1 h2 => hv τ h1 (by omega)
  rwa [show a + ((b - a).toNat : Int) = b by omega] at this
theorem PO.at_in {T : Int} {l : List Lev} (p : PO T l) {τ : Int} (h : 0 ≤ τ) : 0 ≤ atI l τ ∧ atI l τ ≤ T := by
  have h1 := (p.lvl_spec h).1
  have h2 := p.el _ h1
  exact ⟨h2.2.1, h2.2.2⟩
theorem area_most {T : Int} {l : List Lev} (p : PO T l) {a : Int} (ha : 0 ≤ a) : ∀ k : Nat, a + (k : Int) ≤ 1000000000 → 0 ≤ areaIn l a (a + k) l.length ∧ areaIn l a (a + k) l.length ≤ T * k
  | 0, _ => by
    simp only [Int.ofNat_zero, Int.add_zero, Int.mul_zero]
    rw [area_none p]; omega
  | k + 1, h => by
    have ih := area_most p ha k (by omega)
    have q1 := area_part p (x := a) (m := a + (k : Int)) (y := a + (k : Int) + 1) (by omega) (by omega) _ (Nat.le_refl _)
    rw [area_unit p (by omega) (by omega) _ (Nat.le_refl _), if_pos (p.lvl_spec (by omega)).1] at q1
    have hb := p.at_in (τ := a + (k : Int)) (by omega)
    have e : a + ((k + 1 : Nat) : Int) = a + (k : Int) + 1 := by omega
    have e2 : T * ((k + 1 : Nat) : Int) = T * (k : Int) + T := by rw [Int.natCast_add, Int.mul_add]; simp
    rw [e, e2]; omega
theorem area_range {T : Int} {l : List Lev} (p : PO T l) {a b : Int} (ha : 0 ≤ a) (hab : a ≤ b) (hb : b ≤ 1000000000) : 0 ≤ areaIn l a b l.length ∧ areaIn l a b l.length ≤ T * (b - a) := by
  have := area_most p ha (b - a).toNat (by omega)
  rwa [show a + ((b - a).toNat : Int) = b by omega, show ((b - a).toNat : Int) = b - a by omega] at this

/-- what is free behind a reservation -/
theorem chg_at {T : Int} {l : List Lev} (p : PO T l) {x y n : Int} (hxy : x < y) (pc : PO T (chgL l x y (-n))) {τ : Int} (h0 : 0 ≤ τ) (h1 : τ < 1000000000) : atI (chgL l x y (-n)) τ = if x ≤ τ ∧ τ < y then atI l τ - n else atI l τ := by
  have e : chgL l x y (-n) = cutL l x y (-n) := if_neg (by omega)
  rw [e] at pc ⊢
  rw [cut_at p pc h0 h1]
  unfold freeC
  by_cases c : x ≤ τ ∧ τ < y
  · rw [if_pos (by omega), if_pos c]; omega
  · rw [if_neg (by omega), if_neg c]
theorem chg_area {T : Int} {l : List Lev} (p : PO T l) {x y n : Int} (hx : 0 ≤ x) (hxy : x < y) (hy : y ≤ 1000000000) (pc : PO T (chgL l x y (-n))) :
    areaIn l 0 1000000000 l.length - areaIn (chgL l x y (-n)) 0 1000000000 (chgL l x y (-n)).length = n * (y - x) := by
  have e : chgL l x y (-n) = cutL l x y (-n) := if_neg (by omega)
  have hv := fun τ h0 h1 => chg_at p hxy pc (τ := τ) h0 h1
  have a1 := area_same_at p pc (a := 0) (b := x) (by omega) hx (by omega) fun τ h1 h2 => by rw [hv τ h1 (by omega), if_neg (by omega)]
  have a2 := area_same_at p pc (a := y) (b := 1000000000) (by omega) hy (by omega) fun τ h1 h2 => by rw [hv τ (by omega) h2, if_neg (by omega)]
  have b1 := area_part p (x := 0) (m := x) (y := 1000000000) hx (by omega) _ (Nat.le_refl _)
  have b2 := area_part p (x := x) (m := y) (y := 1000000000) (by omega) hy _ (Nat.le_refl _)
  have c1 := area_part pc (x := 0) (m := x) (y := 1000000000) hx (by omega) _ (Nat.le_refl _)
  have c2 := area_part pc (x := x) (m := y) (y := 1000000000) (by omega) hy _ (Nat.le_refl _)
  have t : areaIn l x y l.length - areaIn (chgL l x y (-n)) x y (chgL l x y (-n)).length = n * (y - x) := by
    rw [e] at pc ⊢
    exact area_took p pc hx hxy hy
  omega

variable {T : Int} {st : Bool} {ls : List Lev} {now : Int} {js : List Jb}
/-- what Left tells of planned starts is what planning left -/
theorem lf_plan (h : PlOk T ls now) (hj : JsOk js) (st : Bool) {ss : List Int} (hs : ∀ i, i < js.length → zg ss i = at10 T st ls now js i) : ∀ k, k ≤ js.length → lfK T ls js ss k = some (lefK T st ls now js k)
  | 0, _ => rfl
  | k + 1, hk => by
    have ih := lf_plan h hj st hs k (by omega)
    have P := h.all (st := st) (js := js) k
    have hb := plT_bd P (jg js k)
    have hc := jok_cl (hj.ok k (by omega)).1
    have e : zg ss k = plT T (lefK T st ls now js k) (nowK T st ls now js k) (jg js k) := hs k (by omega)
    rw [lfK, ih]
    simp only
    rw [e, if_neg (by omega), lefK_s]
    unfold at10
    rcases plT_cases P (jg js k) with ⟨h1, e1⟩ | ⟨h1, e1, h2, h3⟩ | ⟨h1, e1, _⟩
    · rw [e1, if_pos (Or.inl rfl)]
      unfold plL
      rw [if_neg (by omega)]
    · have hf := P.po.fit_bd (long := (jg js k).long) (n := (jg js k).cores) P.n0 P.n1
      have := P.n0
      obtain ⟨g1, g2⟩ := later_gt h2 hc.2.2.1
      have hr : resB T (lefK T st ls now js k) (fitI (lefK T st ls now js k) (nowK T st ls now js k) (jg js k).long (jg js k).cores) (laterI (fitI (lefK T st ls now js k) (nowK T st ls now js k) (jg js k).long (jg js k).cores) (jg js k).long) (jg js k).cores = true := by
        unfold resB okB inB
        rw [poB_mk P.po, h3]
        simp only [Bool.true_and, Bool.and_true, Bool.and_eq_true, decide_eq_true_eq]
        omega
      rw [e1, if_neg (by omega), if_pos hr]
      unfold plL
      rw [if_pos (by omega)]
    · rw [e1, if_pos (Or.inr rfl)]
      unfold plL
      rw [if_neg (by omega)]

/-- who comes behind changes no start ahead -/
theorem plS_same {ks : List Jb} : ∀ k, (∀ i, i < k → jg js i = jg ks i) → plS T st ls now js k = plS T st ls now ks k
  | 0, _ => rfl
  | k + 1, h => by
    have ih := plS_same (ks := ks) k fun i hi => h i (by omega)
    unfold plS
    rw [ih, h k (by omega)]

/-- what is taken by the first k -/
def sumC (js : List Jb) (ss : List Int) : Nat → Int
  | 0 => 0
  | k + 1 => if 0 ≤ zg ss k ∧ zg ss k < 1000000000 then sumC js ss k + (jg js k).cores * (laterI (zg ss k) (jg js k).long - zg ss k) else sumC js ss k
theorem mkK_mono (js : List Jb) (ss : List Int) (k : Nat) : mkK js ss k ≤ mkK js ss (k + 1) := by
  simp only [mkK]; split <;> omega
theorem mkK_bd (js : List Jb) (ss : List Int) : ∀ k, 0 ≤ mkK js ss k ∧ mkK js ss k ≤ 1000000000
  | 0 => by simp [mkK]
  | k + 1 => by
    have ih := mkK_bd js ss k
    have h : laterI (zg ss k) (jg js k).long ≤ 1000000000 := later_1e9 _ _
    simp only [mkK]; split <;> omega
theorem full_area (h : PlOk T ls now) (hj : JsOk js) (st : Bool) {ss : List Int} (hs : ∀ i, i < js.length → zg ss i = at10 T st ls now js i) : ∀ k, k ≤ js.length →
    areaIn ls 0 1000000000 ls.length - areaIn (lefK T st ls now js k) 0 1000000000 (lefK T st ls now js k).length = sumC js ss k ∧
    ∀ τ, mkK js ss k ≤ τ → τ < 1000000000 → atI (lefK T st ls now js k) τ = atI ls τ
  | 0, _ => ⟨by rw [lefK_0]; simp [sumC], fun _ _ _ => rfl⟩
  | k + 1, hk => by
    obtain ⟨i1, i2⟩ := full_area h hj st hs k (by omega)
    have P := h.all (st := st) (js := js) k
    have P1 := h.all (st := st) (js := js) (k + 1)
    have hc := jok_cl (hj.ok k (by omega)).1
    have e : zg ss k = plT T (lefK T st ls now js k) (nowK T st ls now js k) (jg js k) := hs k (by omega)
    have el : lefK T st ls now js (k + 1) = plL (lefK T st ls now js k) (jg js k) (zg ss k) := by rw [lefK_s, e]; rfl
    have hb := plT_bd P (jg js k)
    rw [← e] at hb
    have hm := mkK_mono js ss k
    have h0 := (mkK_bd js ss k).1
    by_cases c : 0 ≤ zg ss k ∧ zg ss k < 1000000000
    · have el2 : lefK T st ls now js (k + 1) = chgL (lefK T st ls now js k) (zg ss k) (laterI (zg ss k) (jg js k).long) (-(jg js k).cores) := by rw [el]; unfold plL; rw [if_pos c]
      obtain ⟨g1, g2⟩ := later_gt c.2 hc.2.2.1
      have po1 := P1.po
      rw [el2] at po1
      have ha := chg_area P.po c.1 g1 g2 po1
      have em : mkK js ss (k + 1) = max (mkK js ss k) (laterI (zg ss k) (jg js k).long) := by simp only [mkK]; rw [if_pos c]
      refine ⟨?_, fun τ h1 h2 => ?_⟩
      · rw [el2]
        simp only [sumC]
        rw [if_pos c]; omega
      · rw [el2, chg_at P.po g1 po1 (by omega) h2, if_neg (by omega)]
        exact i2 τ (by omega) h2
    · have el2 : lefK T st ls now js (k + 1) = lefK T st ls now js k := by rw [el]; unfold plL; rw [if_neg c]
      refine ⟨?_, fun τ h1 h2 => ?_⟩
      · rw [el2]
        simp only [sumC]
        rw [if_neg c]; exact i1
      · rw [el2]; exact i2 τ (by omega) h2
/-- a plan takes no more than all cores till its end -/
theorem full_most (h : PlOk T ls now) (hj : JsOk js) (st : Bool) {ss : List Int} (hs : ∀ i, i < js.length → zg ss i = at10 T st ls now js i) : sumC js ss js.length ≤ T * mkK js ss js.length := by
  obtain ⟨h1, h2⟩ := full_area h hj st hs js.length (Nat.le_refl _)
  have P := (h.all (st := st) (js := js) js.length).po
  obtain ⟨m0, m1⟩ := mkK_bd js ss js.length
  have a1 := area_part h.po (x := 0) (m := mkK js ss js.length) (y := 1000000000) m0 m1 _ (Nat.le_refl _)
  have a2 := area_part P (x := 0) (m := mkK js ss js.length) (y := 1000000000) m0 m1 _ (Nat.le_refl _)
  have a3 := area_same_at h.po P (a := mkK js ss js.length) (b := 1000000000) m0 m1 (Int.le_refl _) fun τ q1 q2 => h2 τ q1 q2
  have b1 := area_range h.po (a := 0) (b := mkK js ss js.length) (Int.le_refl _) m0 m1
  have b2 := area_range P (a := 0) (b := mkK js ss js.length) (Int.le_refl _) m0 m1
  rw [Int.sub_zero] at b1
  omega

/-- of strict plans the starts do not fall -/
theorem strict_now (h : PlOk T ls now) (k : Nat) (h0 : 0 ≤ at10 T true ls now js k) (h1 : at10 T true ls now js k < 1000000000) : nowK T true ls now js k ≤ at10 T true ls now js k ∧ nowK T true ls now js (k + 1) = at10 T true ls now js k := by
  refine ⟨plT_ge (h.all (st := true) (js := js) k) _ h0, ?_⟩
  rw [nowK_s]; unfold plN; rw [if_pos ⟨rfl, h0, h1⟩]
theorem strict_stay (k : Nat) (h : ¬ (0 ≤ at10 T st ls now js k ∧ at10 T st ls now js k < 1000000000)) : nowK T st ls now js (k + 1) = nowK T st ls now js k := by
  rw [nowK_s]; unfold plN; rw [if_neg fun q => h q.2]
theorem plain_now : ∀ k, nowK T false ls now js k = now
  | 0 => rfl
  | k + 1 => by rw [nowK_s]; unfold plN; rw [if_neg (by simp)]; exact plain_now k

end Go.Proofs.Ytfepkchopndpeaa
