/- Chapter 11's model: Picked. -/
import Derived.Test.YtkkbfblgnejonaaNodeS
namespace Go.Proofs.Ytkkbfblgnejonaa
open Go.RowKit Go.Sort

/-- parts that a call tells: none, or a row of its own -/
def PLst (w : World) (base : Nat) (v : Option Addr) (n c : Nat) (ps : List Pt) : Prop :=
  n = ps.length ∧ ((v = none ∧ c = 0 ∧ ps = []) ∨ ∃ g, v = some ⟨g, 0, none⟩ ∧ OwnPart w base g c ps)
theorem PLst.below {w w' : World} {base : Nat} {v : Option Addr} {n c : Nat} {ps : List Pt} (h : PLst w base v n c ps) (hb : Below w.heap.size w w') : PLst w' base v n c ps := by
  obtain ⟨e, h⟩ := h
  refine ⟨e, h.imp id ?_⟩
  rintro ⟨g, e, h⟩
  exact ⟨g, e, h.below hb⟩
theorem PLst.low {w : World} {base base' : Nat} {v : Option Addr} {n c : Nat} {ps : List Pt} (h : PLst w base v n c ps) (hb : base' ≤ base) : PLst w base' v n c ps := by
  obtain ⟨e, h⟩ := h
  refine ⟨e, h.imp id ?_⟩
  rintro ⟨g, e, h⟩
  exact ⟨g, e, h.low hb⟩
theorem PLst.toS {w : World} {base : Nat} {v : Option Addr} {n c : Nat} {ps : List Pt} (h : PLst w base v n c ps) (wf : ∀ i, i < ps.length → ptwf (ptg ps i)) : PartS w v n c ps := by
  obtain ⟨rfl, ⟨rfl, rfl, rfl⟩ | ⟨g, rfl, h⟩⟩ := h
  · exact PartS.nil_ w
  · exact h.toS wf
def PkA (w w' : World) (v : Option Addr) (n c : Nat) (b : Bool) : Option (List Pt) → Prop
  | none => b = false ∧ PLst w' w.heap.size v n c []
  | some ps => b = true ∧ PLst w' w.heap.size v n c ps

set_option maxRecDepth 8000 in
set_option maxHeartbeats 4000000 in
theorem specPicked_any (a a2 : Option Addr) (n cap n2 cap2 : Nat) (l : List Nd) (u : List Int) (cw : Int) (w : World) (h : NodeS w a n cap l) (h2 : IntS w a2 n2 cap2 u) :
    Calls Try.prog 26 #[.slice a n cap, .slice a2 n2 cap2, .int .i64 cw] w fun e w' => ∃ (v : Option Addr) (n' c' : Nat) (b : Bool), e = .returned (.tuple #[.slice v n' c', .bool b]) ∧ Below w.heap.size w w' ∧ PkA w w' v n' c' b (pkF l u cw) := by
  obtain ⟨i1, hj, hj0, hj1, hj2⟩ := info_parts infoPart
  have hlen := h.len
  have hlen2 := h2.len
  have hmx := h.mx
  have hle := h.le
  unfold maxLen at hmx
  obtain ⟨an, han⟩ : ∃ an, an = pkF l u cw := ⟨_, rfl⟩
  have HA : Hid (an = pkF l u cw) := han
  rw [← han]
  clear han
  have hmo : Try.prog.follows .mixedOrders = true := by kernel_rfl
  obtain ⟨W0, hW0⟩ : ∃ W0, W0 = w.alloc (.cells #[] 37) := ⟨_, rfl⟩
  have B0 : Below w.heap.size w W0 := by rw [hW0]; exact box_below0
  have O0 : OwnPart W0 w.heap.size w.heap.size 0 [] := by rw [hW0]; exact ownPart_nil w
  by_cases c1 : cw < 1
  · have E : Hid (an = none) := HA.out.trans (by unfold pkF; rw [if_pos (Or.inl c1)])
    go_enter Try.func26, Try.ntmps26
    go_wp2
    rw [← hW0]
    go_ret2
    exact ⟨_, 0, 0, false, rfl, B0, by rw [E.out]; exact ⟨rfl, rfl, Or.inr ⟨_, rfl, O0⟩⟩⟩
  · by_cases c2 : rdF l u < cw
    · have E : Hid (an = none) := HA.out.trans (by unfold pkF; rw [if_pos (Or.inr c2)])
      go_enter Try.func26, Try.ntmps26
      go_wp2_with fail
      rw [← hW0]
      clear hW0
      refine (specReady_any a a2 n cap n2 cap2 l u _ (h.below B0) (h2.below B0)).mono ?_
      rintro e w1 ⟨rfl, hb1⟩
      go_wp2
      go_ret2
      exact ⟨_, 0, 0, false, rfl, B0.then hb1 B0.size, by rw [E.out]; exact ⟨rfl, rfl, Or.inr ⟨_, rfl, O0.below hb1⟩⟩⟩
    · have E : Hid (an = some (pkP l u cw l.length)) := HA.out.trans (by unfold pkF; rw [if_neg (by omega)])
      have us : UsOk l u := by
        rcases hq : usB l u with _ | _
        · rw [rdF_f hq] at c2; omega
        · exact usB_t hq
      have hn8 := us.ns.n2
      have hc0 : 0 ≤ cw := by omega
      have hcm : cw ≤ 800 := by
        have h9 := rdK_bd us l.length (Nat.le_refl _)
        rw [rdF_t (usB_mk us)] at c2; omega
      obtain rfl : n2 = n := by have := us.len; omega
      go_enter Try.func26, Try.ntmps26
      go_wp2_with fail
      rw [← hW0]
      clear hW0
      refine (specReady_any a a2 n2 cap n2 cap2 l u _ (h.below B0) (h2.below B0)).mono ?_
      rintro e w1 ⟨rfl, hb1⟩
      have O1 := O0.below hb1
      have V1 := B0.then hb1 B0.size
      go_wp2_with fail
      go_loopw [2, 8, 9] (fun cc pv i wr => ∃ (k g c' : Nat), k ≤ n2 ∧ i = .int .i64 k ∧ cc = .int .i64 (pkC l u cw k) ∧ pv = .slice (some ⟨g, 0, none⟩) (pkP l u cw k).length c' ∧ Hid (OwnPart wr w.heap.size g c' (pkP l u cw k)) ∧ Below w.heap.size w wr) (fun _ _ i _ => n2 - (intOf i).toNat)
      case atStart => exact ⟨0, _, 0, by omega, rfl, rfl, rfl, O1, V1⟩
      case round =>
        obtain ⟨k, g, c', hk, rfl, rfl, rfl, HO, hw⟩ := hrel
        rename World => wr
        clear c2
        by_cases hlt : k < n2
        · obtain ⟨b, off, rfl, hbw, hat⟩ := (h.below hw).at_ (by omega)
          obtain ⟨b2, off2, rfl, hbw2, hat2⟩ := (h2.below hw).at_ (by omega)
          obtain ⟨x0, x1⟩ := hat.row (i := k) (by omega)
          have z0 := hat2 k hlt
          have hlt' : (k : Int) < (n2 : Int) := by omega
          clear hat hat2
          have b1 := pkC_bd (l := l) (u := u) hc0 k
          have b2' := pkN_bd hc0 us (k := k) (by omega)
          have b3 := us.us k (by omega)
          have b4 := (nOk_t (us.ns.ok k (by omega))).1
          have hpl := pkP_len (l := l) (u := u) (c := cw) k
          have eN : Hid (pkN l u cw k = min (pkC l u cw k) ((ndg l k).cores - zg u k)) := rfl
          obtain ⟨N, hN⟩ : ∃ N, N = pkN l u cw k := ⟨_, rfl⟩
          have HN : Hid (N = pkN l u cw k) := hN
          rw [← hN] at b2' eN
          clear hN
          have ws : IntKind.i64.wrap ((ndg l k).cores - zg u k) = (ndg l k).cores - zg u k := by rw [IntKind.wrap_i64]; omega
          have CI : ∀ W, Calls Try.prog 52 #[.int .i64 (pkC l u cw k), .int .i64 ((ndg l k).cores - zg u k)] W fun e w' => e = .returned (.int .i64 N) ∧ w' = W := fun W => by
            have := l1Min_any (pkC l u cw k) ((ndg l k).cores - zg u k) W
            rwa [← eN.out] at this
          by_cases s1 : (ndg l k).state = 1
          · by_cases p0 : 0 < N
            · obtain ⟨y1, y2⟩ := pk_yes (l := l) (u := u) (c := cw) (k := k) ⟨s1, by rw [← HN.out]; exact p0⟩
              rw [← HN.out] at y1 y2
              have Y1 : Hid (pkC l u cw (k + 1) = pkC l u cw k - N) := y1
              have Y2 : Hid (pkP l u cw (k + 1) = pkP l u cw k ++ [⟨(k : Int), N⟩]) := y2
              have s1' : ((ndg l k).state == 1) = true := by simpa using s1
              have w2' : IntKind.i64.wrap (pkC l u cw k - N) = pkC l u cw k - N := by rw [IntKind.wrap_i64]; omega
              clear s1 y1 y2
              go_wp2
              go_quiet ((go_at_call 52; exact Calls.quiet_of_same (CI _)))
              have O5 : OwnPart (wr.drewN nq) w.heap.size g c' (pkP l u cw k) := HO.out.below ((Below.refl _ _).drewN _)
              have B5 : Below w.heap.size w (wr.drewN nq) := hw.drewN _
              have x5 : (wr.drewN nq).cell? ⟨b, off + k * 2 + 1, none⟩ = some (.int .i64 (ndg l k).state) := x1
              generalize wr.drewN nq = w5 at O5 B5 x5 ⊢
              have own5 := O5.own
              have z5 := B5.size
              have hbase := O5.base
              have hgl := O5.lt
              clear CI eN ws HO hw z0 hbw hbw2
              go_wp2_with (at_builtin; refine wpList_append_own _ rfl (.tmp 50) (.tmp 54) 33 rfl w.heap.size 37 i1 (.agg #[.int .i64 0, .int .i64 0]) 2 16 Try.underlying33 hj hj0 hj1 hj2 rfl (by decide) _ _ _ rfl (own5.alloc _) ⟨w5.heap.size, 0, none⟩ 1 1 [.int .i64 (k : Int), .int .i64 N] rfl rfl ?g1 ?g2 ?g3 ?g4 ?g5 ?_)
              case g1 =>
                intro j y hj
                match j, hj with
                | 0, hj => simp at hj; subst hj; simp [Addr.add]
                | 1, hj => simp at hj; subst hj; simp [Addr.add]
              case g2 => intro y hu; simp at hu; rcases hu with rfl | rfl <;> rfl
              case g3 => unfold maxLen; omega
              case g4 => omega
              case g5 => simp; omega
              intro v' w4 hown' hgrow _
              have B4 : Below w.heap.size w w4 := (B5.alloc z5 _).grown hgrow (by simp; omega) (fun r q => by simp [Value.ownBlock] at q; omega)
              have hv : v' ≠ .slice none 0 0 := fun e => by
                rcases hown'.2 with ⟨_, h0⟩ | ⟨g3, c3, _, e3, _⟩
                · omega
                · rw [e3] at e; cases e
              obtain ⟨g3, c3, e3, O3⟩ := ownPart_of' (ys := pkP l u cw k ++ [⟨(k : Int), N⟩]) hown' (by simp) (by rw [ptcells_app]; rfl) hv
              subst e3
              have hl3 : (pkP l u cw k).length + 1 = (pkP l u cw (k + 1)).length := by rw [Y2.out, List.length_append]; rfl
              have HO3 : Hid (OwnPart w4 w.heap.size g3 c3 (pkP l u cw (k + 1))) := by unfold Hid; rw [Y2.out]; exact O3
              clear O3 hown' hgrow hv own5 O5
              go_wp2
              go_roundw
              case rel => exact ⟨k + 1, g3, c3, by omega, by go_num, by rw [Y1.out], by rw [← hl3], HO3, B4⟩
              case measure => simp [intOf]; omega
            · obtain ⟨y1, y2⟩ := pk_no (l := l) (u := u) (c := cw) (k := k) (fun q => p0 (by rw [HN.out]; exact q.2))
              have Y1 : Hid (pkC l u cw (k + 1) = pkC l u cw k) := y1
              have Y2 : Hid (pkP l u cw (k + 1) = pkP l u cw k) := y2
              have s1' : ((ndg l k).state == 1) = true := by simpa using s1
              clear s1 y1 y2
              go_wp2
              go_quiet ((go_at_call 52; exact Calls.quiet_of_same (CI _)))
              go_wp2
              go_roundw
              case rel => exact ⟨k + 1, g, c', by omega, by go_num, by rw [Y1.out], by rw [Y2.out], by unfold Hid; rw [Y2.out]; exact HO.out.below ((Below.refl _ _).drewN _), hw.drewN _⟩
              case measure => simp [intOf]; omega
          · obtain ⟨y1, y2⟩ := pk_no (l := l) (u := u) (c := cw) (k := k) (fun q => s1 q.1)
            have Y1 : Hid (pkC l u cw (k + 1) = pkC l u cw k) := y1
            have Y2 : Hid (pkP l u cw (k + 1) = pkP l u cw k) := y2
            have s1' : ((ndg l k).state == 1) = false := by simpa using s1
            clear s1 y1 y2
            go_wp2
            go_quiet ((go_at_call 52; exact Calls.quiet_of_same (CI _)))
            go_wp2
            go_roundw
            case rel => exact ⟨k + 1, g, c', by omega, by go_num, by rw [Y1.out], by rw [Y2.out], by unfold Hid; rw [Y2.out]; exact HO.out.below ((Below.refl _ _).drewN _), hw.drewN _⟩
            case measure => simp [intOf]; omega
        · obtain rfl : k = n2 := by omega
          have E2 : Hid (an = some (pkP l u cw k)) := by unfold Hid; rw [E.out, hlen]
          have hnn : ¬ (k : Int) < (k : Int) := by omega
          go_wp2
          go_ret2
          first
            | exact ⟨_, _, _, true, rfl, hw, by rw [E2.out]; exact ⟨rfl, rfl, Or.inr ⟨_, rfl, HO.out⟩⟩⟩
            | exact ⟨_, _, _, Or.inr ⟨rfl, hw, by rw [E2.out]; exact ⟨rfl, rfl, Or.inr ⟨_, rfl, HO.out⟩⟩⟩⟩

end Go.Proofs.Ytkkbfblgnejonaa
