/- The program's scanned: a word, numbers, blanks between, by labels. -/
import Derived.Test.YtppnnnijdfbgpaaDoorCmdScan
import Derived.Test.YtppnnnijdfbgpaaDoorScJ
import Derived.Test.YtppnnnijdfbgpaaDoorInts
import Derived.WalkMore
import Derived.Maps.AppendAt
namespace Go.Proofs.YtppnnnijdfbgpaaDoor
open Go.RowKit Go.PlainAid

def ScFr (bs : ByteArray) (wv nv : Value) (i q : Nat) (a : Act) : Prop :=
  ∃ u1 u6 u7 u8 u9 u10 u11 u12 u13 u14 u15 u16 u17 u18 u19 u20 u21 u22 u23 u24 u25 u26 u27 u28 u29 u30 u31 u32 u33 u34 u35 u36 u37 u38 u39 u40 u41 u42 u43 u44 u45 u46 u47 u48 u49 u50 u51 u52 u53 u54 u55 u56 u57 u58 u59 u60 u61 u62 u63 u64 : Value, a = { tmps := #[.string bs, u1, wv, nv, .int .i64 i, .int .i64 q, u6, u7, u8, u9, u10, u11, u12, u13, u14, u15, u16, u17, u18, u19, u20, u21, u22, u23, u24, u25, u26, u27, u28, u29, u30, u31, u32, u33, u34, u35, u36, u37, u38, u39, u40, u41, u42, u43, u44, u45, u46, u47, u48, u49, u50, u51, u52, u53, u54, u55, u56, u57, u58, u59, u60, u61, u62, u63, u64], defers := [] }
def Sc (l : List UInt8) (lab i : Nat) (wd : List UInt8) (ns : List Int) (q : Nat) : Prop :=
  (lab = 0 ∧ wd = [] ∧ ns = [] ∧ q = 0 ∧ i ≤ l.length ∧ ∀ j, j < i → btL l j ≠ 32) ∨ (lab = 1 ∧ S1 l i wd ns) ∨ (lab = 2 ∧ S2 l i wd ns)
    ∨ (lab = 3 ∧ S3 l i wd ns q ∧ q ≤ 10000000009 ∧ (dgL l i = -1 ∨ q = 0 ∨ 1000000000 < q)) ∨ (lab = 4 ∧ S3 l i wd ns q ∧ 1 ≤ q ∧ q ≤ 10000000009)
def ScJ (w : World) (l : List UInt8) (bs : ByteArray) (lab : Nat) (a : Act) (W : World) : Prop :=
  ∃ (i q : Nat) (wd : List UInt8) (ns : List Int) (v : Value), ScFr bs (.string ⟨wd.toArray⟩) v i q a ∧ Hid (W.ownsRow w.heap.size 2 1 v ns.length (ns.map (Value.int .i64))) ∧ Hid (Below w.heap.size w W) ∧ Hid (Sc l lab i wd ns q)
def ScM (l : List UInt8) (lab : Nat) (a : Act) (_ : World) : Nat := 2 * (l.length - (intOf (a.tmps.getD 4 undef)).toNat) + (if lab = 0 then 1 else 0)

theorem own_baseC {w : World} {base : Nat} {e : TypeId} {size : Nat} {v : Value} {n : Nat} {xs : List Value} (h : w.ownsRow base e size v n xs) : ∀ k, v.ownBlock = some k → base ≤ k := by
  intro k hk
  rcases h.2 with ⟨rfl, _⟩ | ⟨g, cap, cur, rfl, hb, _⟩
  · cases hk
  · have : g = k := Option.some.inj hk
    omega
theorem ScM_fr {l : List UInt8} {bs : ByteArray} {wv nv : Value} {i q lab : Nat} {a : Act} (h : ScFr bs wv nv i q a) (W : World) : ScM l lab a W = 2 * (l.length - i) + (if lab = 0 then 1 else 0) := by
  obtain ⟨u1, u6, u7, u8, u9, u10, u11, u12, u13, u14, u15, u16, u17, u18, u19, u20, u21, u22, u23, u24, u25, u26, u27, u28, u29, u30, u31, u32, u33, u34, u35, u36, u37, u38, u39, u40, u41, u42, u43, u44, u45, u46, u47, u48, u49, u50, u51, u52, u53, u54, u55, u56, u57, u58, u59, u60, u61, u62, u63, u64, rfl⟩ := h
  simp [ScM, intOf]
/-- what is told of a text -/
def ScD (l wd : List UInt8) (ns : List Int) : Prop := ((∀ c ∈ wd, c ≠ 32) ∧ (∀ n ∈ ns, 0 ≤ n) ∧ l = wd ++ tailB ns) ∨ (wd = [] ∧ ns = [] ∧ NoRep l)


set_option maxRecDepth 8000 in
set_option maxHeartbeats 4000000 in
theorem scanned_any (l : List UInt8) (hl : l.length ≤ 2000000) (w : World) :
    Calls Tryd.prog 26 #[.string ⟨l.toArray⟩] w fun e w' => ∃ (wd : List UInt8) (ns : List Int) (v : Value), e = .returned (.tuple #[.string ⟨wd.toArray⟩, v]) ∧ w'.ownsRow w.heap.size 2 1 v ns.length (ns.map (Value.int .i64)) ∧ ScD l wd ns ∧ Below w.heap.size w w' := by
  obtain ⟨i1, hj, hj0, hj1, hj2⟩ := info_parts infoI
  have CD := fun i hi W => digitAt_any l i hi W
  have hbt := bt_list l
  have hsz := size_list l
  have HT : Hid (∀ i, i < l.length → bt ⟨l.toArray⟩ i = btL l i) := hbt
  have HX : Hid (∀ i, i ≤ l.length → (⟨l.toArray⟩ : ByteArray).extract 0 i = ⟨(l.take i).toArray⟩) := fun i hi => by apply ByteArray.ext; simp
  have own0 : Hid (∀ W : World, W.ownsRow w.heap.size 2 1 (.slice none 0 0) ([] : List Int).length (([] : List Int).map (Value.int .i64))) := fun _ => ⟨rfl, .inl ⟨rfl, rfl⟩⟩
  clear hbt
  generalize (⟨l.toArray⟩ : ByteArray) = bs at CD hsz HT HX ⊢
  have HB := get_bt bs
  go_enter Tryd.func26, Tryd.ntmps26
  go_wp2
  refine wp_scope_named (fun c Q hc hQ => ?_)
  have HC : Hid (c = _) := hc
  have HQ : Hid (Q = _) := hQ
  clear hc hQ
  have T1 : ∀ r M, findLabel c 1 = some (Code.skip.seq r) → ∀ a W i q wd ns v, ScFr bs (.string ⟨wd.toArray⟩) v i q a → Hid (W.ownsRow w.heap.size 2 1 v ns.length (ns.map (Value.int .i64))) → Hid (Below w.heap.size w W) → Hid (S1 l i wd ns) → 2 * (l.length - i) ≤ M →
      r.wp Tryd.prog (jumps (fun l' a' w' => ScJ w l bs l' a' w' ∧ ScM l l' a' w' < M) Q) a W := by
    intro r M hr a W i q wd ns v hfr hO hb hs hM
    rw [HC.out] at hr
    obtain ⟨_, rfl⟩ := Code.seq.inj (Option.some.inj hr)
    obtain ⟨u1, u6, u7, u8, u9, u10, u11, u12, u13, u14, u15, u16, u17, u18, u19, u20, u21, u22, u23, u24, u25, u26, u27, u28, u29, u30, u31, u32, u33, u34, u35, u36, u37, u38, u39, u40, u41, u42, u43, u44, u45, u46, u47, u48, u49, u50, u51, u52, u53, u54, u55, u56, u57, u58, u59, u60, u61, u62, u63, u64, rfl⟩ := hfr
    have hi := hs.out.1
    by_cases h1 : i = l.length
    · subst h1
      go_wp2
      show Q Exit.ret _ _
      rw [HQ.out]
      go_ret2
      exact ⟨wd, ns, v, rfl, hO.out, Or.inl ⟨hs.out.2.1, hs.out.2.2.1, hs.out.all⟩, hb.out⟩
    · have hlt : i < l.length := by omega
      have hlt' : (i : Int) < (l.length : Int) := by omega
      have hne : ((i : Int) == (l.length : Int)) = false := by simp; omega
      have ei := HT.out i hlt
      by_cases h2 : btL l i = 32
      · have bb : (btL l i == 32) = true := by simpa using h2
        have HS : Hid (S2 l (i + 1) wd ns) := hs.out.next hlt h2
        clear h2
        go_wp2
        go_step3
        refine ⟨⟨i + 1, q, wd, ns, v, ⟨_, _, _, _, _, _, _, _, _, _, _, _, _, _, _, _, _, _, _, _, _, _, _, _, _, _, _, _, _, _, _, _, _, _, _, _, _, _, _, _, _, _, _, _, _, _, _, _, _, _, _, _, _, _, _, _, _, _, _, _, rfl⟩, hO, hb, Or.inr (Or.inr (Or.inl ⟨rfl, HS.out⟩))⟩, ?_⟩
        simp [ScM, intOf]; omega
      · have bb : (btL l i == 32) = false := by simpa using h2
        have HN : Hid (NoRep l) := hs.out.none_ hlt h2
        clear h2
        go_wp2
        show Q Exit.ret _ _
        rw [HQ.out]
        go_ret2
        exact ⟨[], [], .slice none 0 0, rfl, own0.out _, Or.inr ⟨rfl, rfl, HN.out⟩, hb.out⟩
  have T3 : ∀ r M, findLabel c 3 = some (Code.skip.seq r) → ∀ a W i q wd ns v, ScFr bs (.string ⟨wd.toArray⟩) v i q a → Hid (W.ownsRow w.heap.size 2 1 v ns.length (ns.map (Value.int .i64))) → Hid (Below w.heap.size w W) → Hid (S3 l i wd ns q ∧ q ≤ 10000000009 ∧ (dgL l i = -1 ∨ q = 0 ∨ 1000000000 < q)) → 2 * (l.length - i) ≤ M →
      r.wp Tryd.prog (jumps (fun l' a' w' => ScJ w l bs l' a' w' ∧ ScM l l' a' w' < M) Q) a W := by
    intro r M hr a W i q wd ns v hfr hO hb hs hM
    rw [HC.out] at hr
    obtain ⟨_, rfl⟩ := Code.seq.inj (Option.some.inj hr)
    obtain ⟨u1, u6, u7, u8, u9, u10, u11, u12, u13, u14, u15, u16, u17, u18, u19, u20, u21, u22, u23, u24, u25, u26, u27, u28, u29, u30, u31, u32, u33, u34, u35, u36, u37, u38, u39, u40, u41, u42, u43, u44, u45, u46, u47, u48, u49, u50, u51, u52, u53, u54, u55, u56, u57, u58, u59, u60, u61, u62, u63, u64, rfl⟩ := hfr
    have hq9 := hs.out.2.1
    have HS1 : Hid (S1 l i wd (ns ++ [(q : Int)])) := hs.out.1.whole hs.out.2.2
    have hnl := take_ns (p := wd) (r := [32] ++ Lib.decDigits q) (by rw [hs.out.1.2.2.2.1, List.append_assoc])
    have TT := fun r h => T1 r M h
    clear T1
    have OA : (W.alloc (.cells #[.int .i64 (q : Int)] 2)).ownsRow w.heap.size 2 1 v ns.length (ns.map (Value.int .i64)) := ownI_below hO.out ((Below.refl _ _).alloc (Nat.le_refl _) _)
    have hz := hb.out.size
    go_wp2_with (at_builtin; refine wpList_append_own_at _ rfl (.tmp 47) (.tmp 49) 45 rfl w.heap.size 2 i1 (.int .i64 0) 1 8 Tryd.underlying45 hj hj0 hj1 hj2 rfl (by decide) _ _ _ rfl OA ⟨W.heap.size, 0, none⟩ 1 1 [.int .i64 (q : Int)] rfl rfl (own_one W _ _) (by intro y hy; rw [List.mem_singleton.1 hy]; rfl) (by unfold maxLen; omega) (by omega) (by simp; omega) ?_)
    intro v3 w3 own3 grow3 nil3 at3
    have HO4 : Hid (w3.ownsRow w.heap.size 2 1 v3 (ns ++ [(q : Int)]).length ((ns ++ [(q : Int)]).map (Value.int .i64))) := by unfold Hid; rw [List.map_append, List.length_append]; exact own3
    have hb3 : Hid (Below w.heap.size w w3) := (hb.out.alloc hz _).grown grow3 (by simp; omega) (own_baseC hO.out)
    clear own3 grow3 nil3 at3 OA
    go_wp2
    go_step3
    rename_i Kx hK
    show Kx _ _
    refine hK _ _ ?_
    exact TT _ (by rw [HC.out]; exact rfl) _ w3 i q wd (ns ++ [(q : Int)]) v3 ⟨_, _, _, _, _, _, _, _, _, _, _, _, _, _, _, _, _, _, _, _, _, _, _, _, _, _, _, _, _, _, _, _, _, _, _, _, _, _, _, _, _, _, _, _, _, _, _, _, _, _, _, _, _, _, _, _, _, _, _, _, rfl⟩ HO4 hb3 HS1 hM
  have T4 : ∀ r M, findLabel c 4 = some (Code.skip.seq r) → ∀ a W i q wd ns v, ScFr bs (.string ⟨wd.toArray⟩) v i q a → Hid (W.ownsRow w.heap.size 2 1 v ns.length (ns.map (Value.int .i64))) → Hid (Below w.heap.size w W) → Hid (S3 l i wd ns q ∧ 1 ≤ q ∧ q ≤ 10000000009) → 2 * (l.length - i) ≤ M →
      r.wp Tryd.prog (jumps (fun l' a' w' => ScJ w l bs l' a' w' ∧ ScM l l' a' w' < M) Q) a W := by
    intro r M hr a W i q wd ns v hfr hO hb hs hM
    rw [HC.out] at hr
    obtain ⟨_, rfl⟩ := Code.seq.inj (Option.some.inj hr)
    obtain ⟨u1, u6, u7, u8, u9, u10, u11, u12, u13, u14, u15, u16, u17, u18, u19, u20, u21, u22, u23, u24, u25, u26, u27, u28, u29, u30, u31, u32, u33, u34, u35, u36, u37, u38, u39, u40, u41, u42, u43, u44, u45, u46, u47, u48, u49, u50, u51, u52, u53, u54, u55, u56, u57, u58, u59, u60, u61, u62, u63, u64, rfl⟩ := hfr
    obtain ⟨hs3, hq1, hq9⟩ := hs.out
    have HS3 : Hid (S3 l i wd ns q) := hs3
    have hi := hs3.1
    clear hs hs3
    have TT := fun r h => T3 r M h
    clear T1 T3
    rcases dgL_cases l i with hd | ⟨d, hd, hd9⟩
    · have HE : Hid (dgL l i = -1) := hd
      go_wp2_with (go_at_call 38; refine (CD i hi _).mono ?_; rw [hd]; rintro e w' ⟨rfl, hq⟩; have hq' := hq.symm; clear hq; subst hq')
      clear hd
      go_step3
      rename_i Kx hK
      show Kx _ _
      refine hK _ _ ?_
      exact TT _ (by rw [HC.out]; exact rfl) _ W i q wd ns v ⟨_, _, _, _, _, _, _, _, _, _, _, _, _, _, _, _, _, _, _, _, _, _, _, _, _, _, _, _, _, _, _, _, _, _, _, _, _, _, _, _, _, _, _, _, _, _, _, _, _, _, _, _, _, _, _, _, _, _, _, _, rfl⟩ hO hb ⟨HS3.out, hq9, Or.inl HE.out⟩ hM
    · have hdn : ((d : Int) == -1) = false := by first | (simp; done) | (simp; omega)
      by_cases hq : q ≤ 1000000000
      · have hle : (q : Int) ≤ 1000000000 := by omega
        have HS4 : Hid (S3 l (i + 1) wd ns (10 * q + d)) := HS3.out.dig hq1 hd
        have hilt := (dgL_is hd).1
        have v1 : IntKind.i64.wrap (10 * (q : Int)) = 10 * q := by rw [IntKind.wrap_i64]; omega
        have v2 : IntKind.i64.wrap (10 * (q : Int) + d) = 10 * q + d := by rw [IntKind.wrap_i64]; omega
        go_wp2_with (go_at_call 38; refine (CD i hi _).mono ?_; rw [hd]; rintro e w' ⟨rfl, hq⟩; have hq' := hq.symm; clear hq; subst hq')
        go_step3
        refine ⟨⟨i + 1, 10 * q + d, wd, ns, v, ⟨_, _, _, _, _, _, _, _, _, _, _, _, _, _, _, _, _, _, _, _, _, _, _, _, _, _, _, _, _, _, _, _, _, _, _, _, _, _, _, _, _, _, _, _, _, _, _, _, _, _, _, _, _, _, _, _, _, _, _, _, rfl⟩, hO, hb, Or.inr (Or.inr (Or.inr (Or.inr ⟨rfl, HS4.out, by omega, by omega⟩)))⟩, ?_⟩
        simp [ScM, intOf]; omega
      · have hle : ¬ (q : Int) ≤ 1000000000 := by omega
        go_wp2_with (go_at_call 38; refine (CD i hi _).mono ?_; rw [hd]; rintro e w' ⟨rfl, hq⟩; have hq' := hq.symm; clear hq; subst hq')
        go_step3
        rename_i Kx hK
        show Kx _ _
        refine hK _ _ ?_
        exact TT _ (by rw [HC.out]; exact rfl) _ W i q wd ns v ⟨_, _, _, _, _, _, _, _, _, _, _, _, _, _, _, _, _, _, _, _, _, _, _, _, _, _, _, _, _, _, _, _, _, _, _, _, _, _, _, _, _, _, _, _, _, _, _, _, _, _, _, _, _, _, _, _, _, _, _, _, rfl⟩ hO hb ⟨HS3.out, hq9, Or.inr (Or.inr (by omega))⟩ hM
  have T2 : ∀ r M, findLabel c 2 = some (Code.skip.seq r) → ∀ a W i q wd ns v, ScFr bs (.string ⟨wd.toArray⟩) v i q a → Hid (W.ownsRow w.heap.size 2 1 v ns.length (ns.map (Value.int .i64))) → Hid (Below w.heap.size w W) → Hid (S2 l i wd ns) → 2 * (l.length - i) ≤ M →
      r.wp Tryd.prog (jumps (fun l' a' w' => ScJ w l bs l' a' w' ∧ ScM l l' a' w' < M) Q) a W := by
    intro r M hr a W i q wd ns v hfr hO hb hs hM
    rw [HC.out] at hr
    obtain ⟨_, rfl⟩ := Code.seq.inj (Option.some.inj hr)
    obtain ⟨u1, u6, u7, u8, u9, u10, u11, u12, u13, u14, u15, u16, u17, u18, u19, u20, u21, u22, u23, u24, u25, u26, u27, u28, u29, u30, u31, u32, u33, u34, u35, u36, u37, u38, u39, u40, u41, u42, u43, u44, u45, u46, u47, u48, u49, u50, u51, u52, u53, u54, u55, u56, u57, u58, u59, u60, u61, u62, u63, u64, rfl⟩ := hfr
    have hi := hs.out.1
    have TT := fun r h => T4 r M h
    clear T1 T3 T4
    rcases dgL_cases l i with hd | ⟨d, hd, hd9⟩
    · have HN : Hid (NoRep l) := hs.out.none_ hd
      go_wp2_with (go_at_call 38; refine (CD i hi _).mono ?_; rw [hd]; rintro e w' ⟨rfl, hq⟩; have hq' := hq.symm; clear hq; subst hq')
      show Q Exit.ret _ _
      rw [HQ.out]
      go_ret2
      exact ⟨[], [], .slice none 0 0, rfl, own0.out _, Or.inr ⟨rfl, rfl, HN.out⟩, hb.out⟩
    · have HS3 : Hid (S3 l (i + 1) wd ns d) := hs.out.dig hd
      have hilt := (dgL_is hd).1
      by_cases h0 : d = 0
      · subst h0
        go_wp2_with (go_at_call 38; refine (CD i hi _).mono ?_; rw [hd]; rintro e w' ⟨rfl, hq⟩; have hq' := hq.symm; clear hq; subst hq')
        go_step3
        refine ⟨⟨i + 1, 0, wd, ns, v, ⟨_, _, _, _, _, _, _, _, _, _, _, _, _, _, _, _, _, _, _, _, _, _, _, _, _, _, _, _, _, _, _, _, _, _, _, _, _, _, _, _, _, _, _, _, _, _, _, _, _, _, _, _, _, _, _, _, _, _, _, _, rfl⟩, hO, hb, Or.inr (Or.inr (Or.inr (Or.inl ⟨rfl, HS3.out, by omega, Or.inr (Or.inl rfl)⟩)))⟩, ?_⟩
        simp [ScM, intOf]; omega
      · have hd1 : ((d : Int) == -1) = false := by first | (simp; done) | (simp; omega)
        have hd0 : ((d : Int) == 0) = false := by simp; omega
        go_wp2_with (go_at_call 38; refine (CD i hi _).mono ?_; rw [hd]; rintro e w' ⟨rfl, hq⟩; have hq' := hq.symm; clear hq; subst hq')
        go_step3
        rename_i Kx hK
        show Kx _ _
        refine hK _ _ ?_
        exact TT _ (by rw [HC.out]; exact rfl) _ W (i + 1) d wd ns v ⟨_, _, _, _, _, _, _, _, _, _, _, _, _, _, _, _, _, _, _, _, _, _, _, _, _, _, _, _, _, _, _, _, _, _, _, _, _, _, _, _, _, _, _, _, _, _, _, _, _, _, _, _, _, _, _, _, _, _, _, _, rfl⟩ hO hb ⟨HS3.out, by omega, by omega⟩ (by omega)
  have T0 : ∀ r M (J' : Nat → Act → World → Prop), (∀ l' a' w', ScJ w l bs l' a' w' → ScM l l' a' w' < M → J' l' a' w') → findLabel c 0 = some (Code.skip.seq r) → ∀ a W i q wd ns v, ScFr bs (.string ⟨wd.toArray⟩) v i q a → Hid (W.ownsRow w.heap.size 2 1 v ns.length (ns.map (Value.int .i64))) → Hid (Below w.heap.size w W) → Hid (Sc l 0 i wd ns q) → 2 * (l.length - i) + 1 ≤ M →
      r.wp Tryd.prog (jumps J' Q) a W := by
    intro r M J' hJ'
    intro hr a W i q wd ns v hfr hO hb hs hM
    rw [HC.out] at hr
    obtain ⟨_, rfl⟩ := Code.seq.inj (Option.some.inj hr)
    obtain ⟨u1, u6, u7, u8, u9, u10, u11, u12, u13, u14, u15, u16, u17, u18, u19, u20, u21, u22, u23, u24, u25, u26, u27, u28, u29, u30, u31, u32, u33, u34, u35, u36, u37, u38, u39, u40, u41, u42, u43, u44, u45, u46, u47, u48, u49, u50, u51, u52, u53, u54, u55, u56, u57, u58, u59, u60, u61, u62, u63, u64, rfl⟩ := hfr
    have HJ' : Hid (∀ l' a' w', ScJ w l bs l' a' w' → ScM l l' a' w' < M → J' l' a' w') := hJ'
    clear hJ' T1 T2 T3 T4 CD
    obtain ⟨_, rfl, rfl, rfl, hi, hno⟩ | ⟨h, _⟩ | ⟨h, _⟩ | ⟨h, _⟩ | ⟨h, _⟩ := hs.out
    case inr.inl => cases h
    case inr.inr.inl => cases h
    case inr.inr.inr.inl => cases h
    case inr.inr.inr.inr => cases h
    clear hs
    have HN : Hid (∀ j, j < i → btL l j ≠ 32) := hno
    clear hno
    have hx := HX.out i hi
    by_cases h1 : i < l.length
    · have h1' : (i : Int) < (l.length : Int) := by omega
      have ei := HT.out i h1
      by_cases h2 : btL l i = 32
      · have bb : (btL l i == 32) = true := by simpa using h2
        have HS : Hid (S1 l i (l.take i) []) := S1.start hi HN.out (Or.inr h2)
        clear h2
        go_wp2
        go_step3
        refine HJ'.out _ _ _ ⟨i, 0, l.take i, [], v, ⟨_, _, _, _, _, _, _, _, _, _, _, _, _, _, _, _, _, _, _, _, _, _, _, _, _, _, _, _, _, _, _, _, _, _, _, _, _, _, _, _, _, _, _, _, _, _, _, _, _, _, _, _, _, _, _, _, _, _, _, _, rfl⟩, hO, hb, Or.inr (Or.inl ⟨rfl, HS.out⟩)⟩ ?_
        simp [ScM, intOf]; omega
      · have bb : (btL l i == 32) = false := by simpa using h2
        have HS : Hid (∀ j, j < i + 1 → btL l j ≠ 32) := fun j hj => by
          by_cases e : j = i
          · subst e; exact h2
          · exact HN.out j (by omega)
        clear h2
        go_wp2
        go_step3
        refine HJ'.out _ _ _ ⟨i + 1, 0, [], [], v, ⟨_, _, _, _, _, _, _, _, _, _, _, _, _, _, _, _, _, _, _, _, _, _, _, _, _, _, _, _, _, _, _, _, _, _, _, _, _, _, _, _, _, _, _, _, _, _, _, _, _, _, _, _, _, _, _, _, _, _, _, _, rfl⟩, hO, hb, Or.inl ⟨rfl, rfl, rfl, rfl, by omega, HS.out⟩⟩ ?_
        simp [ScM, intOf]; omega
    · have hnn : ¬ (i : Int) < (l.length : Int) := by omega
      have HS : Hid (S1 l i (l.take i) []) := S1.start hi HN.out (Or.inl (by omega))
      go_wp2
      go_step3
      refine HJ'.out _ _ _ ⟨i, 0, l.take i, [], v, ⟨_, _, _, _, _, _, _, _, _, _, _, _, _, _, _, _, _, _, _, _, _, _, _, _, _, _, _, _, _, _, _, _, _, _, _, _, _, _, _, _, _, _, _, _, _, _, _, _, _, _, _, _, _, _, _, _, _, _, _, _, rfl⟩, hO, hb, Or.inr (Or.inl ⟨rfl, HS.out⟩)⟩ ?_
      simp [ScM, intOf]; omega
  refine wp_scope_labels (ScJ w l bs) (ScM l) ?_ ?_ ?_
  · intro lab a W hJ
    obtain ⟨i, q, wd, ns, v, hfr, hO, hb, hs⟩ := hJ
    rcases hs.out with ⟨rfl, _⟩ | ⟨rfl, _⟩ | ⟨rfl, _⟩ | ⟨rfl, _⟩ | ⟨rfl, _⟩
    all_goals exact ⟨_, by rw [HC.out]; exact rfl⟩
  · have TT := T0
    clear T0 T1 T2 T3 T4
    have HCC : Hid (c = _) := HC.out
    rw [HC.out]
    go_wp2
    go_step3
    rename_i Kx hK
    show Kx _ _
    refine hK _ _ ?_
    exact TT _ (2 * l.length + 1) _ (fun _ _ _ h _ => h) (by rw [HCC.out]; exact rfl) _ w 0 0 [] [] (.slice none 0 0) ⟨_, _, _, _, _, _, _, _, _, _, _, _, _, _, _, _, _, _, _, _, _, _, _, _, _, _, _, _, _, _, _, _, _, _, _, _, _, _, _, _, _, _, _, _, _, _, _, _, _, _, _, _, _, _, _, _, _, _, _, _, rfl⟩ (own0.out w) (Below.refl _ _) (Or.inl ⟨rfl, rfl, rfl, rfl, by omega, fun j hj => by omega⟩) (by omega)
  · intro lab r a W hr hJ
    obtain ⟨i, q, wd, ns, v, hfr, hO, hb, hs⟩ := hJ
    rw [ScM_fr hfr W]
    rcases hs.out with ⟨rfl, h⟩ | ⟨rfl, h⟩ | ⟨rfl, h⟩ | ⟨rfl, h⟩ | ⟨rfl, h⟩
    · obtain ⟨X, hX⟩ : ∃ X, findLabel c 0 = some (Code.skip.seq X) := ⟨_, by rw [HC.out]; exact rfl⟩
      obtain rfl := Option.some.inj (hr.symm.trans hX)
      refine wp_seq (wp_skip ?_)
      exact T0 X _ _ (fun _ _ _ h h' => ⟨h, h'⟩) hX a W i q wd ns v hfr hO hb (Or.inl ⟨rfl, h⟩) (by simp)
    · obtain ⟨X, hX⟩ : ∃ X, findLabel c 1 = some (Code.skip.seq X) := ⟨_, by rw [HC.out]; exact rfl⟩
      obtain rfl := Option.some.inj (hr.symm.trans hX)
      refine wp_seq (wp_skip ?_)
      exact T1 X _ hX a W i q wd ns v hfr hO hb h (by simp)
    · obtain ⟨X, hX⟩ : ∃ X, findLabel c 2 = some (Code.skip.seq X) := ⟨_, by rw [HC.out]; exact rfl⟩
      obtain rfl := Option.some.inj (hr.symm.trans hX)
      refine wp_seq (wp_skip ?_)
      exact T2 X _ hX a W i q wd ns v hfr hO hb h (by simp)
    · obtain ⟨X, hX⟩ : ∃ X, findLabel c 3 = some (Code.skip.seq X) := ⟨_, by rw [HC.out]; exact rfl⟩
      obtain rfl := Option.some.inj (hr.symm.trans hX)
      refine wp_seq (wp_skip ?_)
      exact T3 X _ hX a W i q wd ns v hfr hO hb h (by simp)
    · obtain ⟨X, hX⟩ : ∃ X, findLabel c 4 = some (Code.skip.seq X) := ⟨_, by rw [HC.out]; exact rfl⟩
      obtain rfl := Option.some.inj (hr.symm.trans hX)
      refine wp_seq (wp_skip ?_)
      exact T4 X _ hX a W i q wd ns v hfr hO hb h (by simp)

end Go.Proofs.YtppnnnijdfbgpaaDoor
