/- The program's chapter 11, third part: Picked. -/
import Derived.Test.YtkkbfblgnejonaaNodeI2
namespace Go.Proofs.Ytkkbfblgnejonaa
open Go.RowKit Go.Sort

/-- of what a node gives, what is taken is 0 just where it is not up or nothing is left -/
theorem pk_given {l : List Nd} {u : List Int} {cw : Int} {k : Nat} (hc : 0 ≤ cw) (us : UsOk l u) (hk : k < l.length) :
    (0 < min (pkC l u cw k) (spF (ndg l k) (zg u k)) → ((ndg l k).state = 1 ∧ 0 < pkN l u cw k) ∧ min (pkC l u cw k) (spF (ndg l k) (zg u k)) = pkN l u cw k)
    ∧ (¬ 0 < min (pkC l u cw k) (spF (ndg l k) (zg u k)) → ¬ ((ndg l k).state = 1 ∧ 0 < pkN l u cw k)) := by
  have h1 := pkC_bd (l := l) (u := u) hc k
  have h2 := us.us k hk
  unfold spF pkN
  by_cases s : (ndg l k).state = 1
  · rw [if_pos s]
    exact ⟨fun h => ⟨⟨s, h⟩, rfl⟩, fun h q => h q.2⟩
  · rw [if_neg s]
    exact ⟨fun h => by omega, fun h q => s q.1⟩

set_option maxRecDepth 8000 in
set_option maxHeartbeats 4000000 in
theorem implPicked_any (a a2 : Option Addr) (n cap n2 cap2 : Nat) (l : List Nd) (u : List Int) (cw : Int) (w : World) (h : NodeS w a n cap l) (h2 : IntS w a2 n2 cap2 u) :
    Calls Try.prog 17 #[.slice a n cap, .slice a2 n2 cap2, .int .i64 cw] w fun e w' => ∃ (v : Option Addr) (n' c' : Nat) (b : Bool), e = .returned (.tuple #[.slice v n' c', .bool b]) ∧ Below w.heap.size w w' ∧ PkA w w' v n' c' b (pkF l u cw) := by
  obtain ⟨i1, hj, hj0, hj1, hj2⟩ := info_parts infoPart
  have hlen := h.len
  have hlen2 := h2.len
  have hmx := h.mx
  have hle := h.le
  unfold maxLen at hmx
  obtain ⟨an, han⟩ : ∃ an, an = pkF l u cw := ⟨_, rfl⟩
  have HA : Hid (an = pkF l u cw) := han
  rw [← han]
  clear han
  have hmo : Try.prog.follows .mixedOrders = true := by kernel_rfl
  rcases c1 : inB cw 1 (rdF l u) with _ | _
  · have E : Hid (an = none) := HA.out.trans (by unfold pkF; rw [if_pos]; have := nin_f c1; omega)
    go_enter Try.func17, Try.ntmps17
    go_wp2_with (first | (go_at_call 13; refine (implReady_any a a2 n cap n2 cap2 l u _ h h2).mono ?_; rintro e w1 ⟨rfl, hb1⟩) | (go_at_call 47; refine (within_any _ _ _ _).mono ?_; rw [c1]; rintro e w' ⟨rfl, hq⟩; have hq' := hq.symm; clear hq; subst hq'))
    go_ret2
    exact ⟨_, 0, 0, false, rfl, hb1, by rw [E.out]; exact ⟨rfl, rfl, Or.inl ⟨rfl, rfl, rfl⟩⟩⟩
  · have c2 := nin_t c1
    have E : Hid (an = some (pkP l u cw l.length)) := HA.out.trans (by unfold pkF; rw [if_neg (by omega)])
    have us : UsOk l u := by
      rcases hq : usB l u with _ | _
      · rw [rdF_f hq] at c2; omega
      · exact usB_t hq
    have hn8 := us.ns.n2
    have hc0 : 0 ≤ cw := by omega
    have hcm : cw ≤ 800 := by
      have h9 := rdK_bd us l.length (Nat.le_refl _)
      rw [rdF_t (usB_mk us)] at c2; omega
    clear c2
    obtain rfl : n2 = n := by have := us.len; omega
    go_enter Try.func17, Try.ntmps17
    go_wp2_with (first | (go_at_call 13; refine (implReady_any a a2 n2 cap n2 cap2 l u _ h h2).mono ?_; rintro e w1 ⟨rfl, hb1⟩) | (go_at_call 47; refine (within_any _ _ _ _).mono ?_; rw [c1]; rintro e w' ⟨rfl, hq⟩; have hq' := hq.symm; clear hq; subst hq'))
    clear c1
    have O1 : OwnPart (w1.alloc (.cells #[] 37)) w.heap.size w1.heap.size 0 [] := (ownPart_nil w1).low hb1.size
    have V1 : Below w.heap.size w (w1.alloc (.cells #[] 37)) := hb1.then box_below0 hb1.size
    go_loopw [2, 8, 21] (fun cc pv i wr => ∃ (k g c' : Nat), k ≤ n2 ∧ i = .int .i64 k ∧ cc = .int .i64 (pkC l u cw k) ∧ pv = .slice (some ⟨g, 0, none⟩) (pkP l u cw k).length c' ∧ Hid (OwnPart wr w.heap.size g c' (pkP l u cw k)) ∧ Below w.heap.size w wr) (fun _ _ i _ => n2 - (intOf i).toNat)
    case atStart => exact ⟨0, _, 0, by omega, rfl, rfl, rfl, O1, V1⟩
    case round =>
      obtain ⟨k, g, c', hk, rfl, rfl, rfl, HO, hw⟩ := hrel
      rename World => wr
      by_cases hlt : k < n2
      · obtain ⟨b, off, rfl, hbw, hat⟩ := (h.below hw).at_ (by omega)
        obtain ⟨b2, off2, rfl, hbw2, hat2⟩ := (h2.below hw).at_ (by omega)
        obtain ⟨x0, x1⟩ := hat.row (i := k) (by omega)
        have z0 := hat2 k hlt
        have hlt' : (k : Int) < (n2 : Int) := by omega
        clear hat hat2
        have b1 := pkC_bd (l := l) (u := u) hc0 k
        have b3 := us.us k (by omega)
        have b4 := (nOk_t (us.ns.ok k (by omega))).1
        have hpl := pkP_len (l := l) (u := u) (c := cw) k
        obtain ⟨g1, g2⟩ := pk_given (k := k) hc0 us (by omega)
        have CS : ∀ W, Calls Try.prog 45 #[.agg #[.int .i64 (ndg l k).cores, .int .i64 (ndg l k).state], .int .i64 (zg u k)] W fun e w' => e = .returned (.int .i64 (spF (ndg l k) (zg u k))) ∧ w' = W.alloc (.cells #[.int .i64 (ndg l k).cores, .int .i64 (ndg l k).state] 32) := fun W => spare_any _ _ _ (by omega)
        generalize spF (ndg l k) (zg u k) = sp at g1 g2 CS
        obtain ⟨G, hG⟩ : ∃ G, G = min (pkC l u cw k) sp := ⟨_, rfl⟩
        rw [← hG] at g1 g2
        have HG1 : Hid (0 < G → ((ndg l k).state = 1 ∧ 0 < pkN l u cw k) ∧ G = pkN l u cw k) := g1
        have HG2 : Hid (¬ 0 < G → ¬ ((ndg l k).state = 1 ∧ 0 < pkN l u cw k)) := g2
        clear g1 g2
        have mi1 : (if sp < pkC l u cw k then sp else pkC l u cw k) = G := by rw [hG]; split <;> omega
        have mi2 : min (pkC l u cw k) sp = G := hG.symm
        have hGb : G ≤ pkC l u cw k := by omega
        clear hG
        obtain ⟨W1, hW1⟩ : ∃ W1, W1 = wr.alloc (.cells #[.int .i64 (ndg l k).cores, .int .i64 (ndg l k).state] 32) := ⟨_, rfl⟩
        have B1 : Below w.heap.size w W1 := by rw [hW1]; exact hw.then box_below0 hw.size
        have BW : Below wr.heap.size wr W1 := by rw [hW1]; exact box_below0
        have y0 : W1.cell? ⟨wr.heap.size, 0, none⟩ = some (.int .i64 (ndg l k).cores) := by rw [hW1]; simp
        have y1 : W1.cell? ⟨wr.heap.size, 1, none⟩ = some (.int .i64 (ndg l k).state) := by rw [hW1]; simp
        have z1 : W1.cell? ⟨b2, off2 + k, none⟩ = some (.int .i64 (zg u k)) := by rw [hW1]; exact (World.cell?_alloc_lt _ _ _ (by exact hbw2)).trans z0
        go_upto_region 7 with fail
        rw [← hW1]
        clear hW1 x0 x1 z0
        have CA : ∀ nn os, Calls Try.prog 45 #[.agg #[.int .i64 (ndg l k).cores, .int .i64 (ndg l k).state], .int .i64 (zg u k)] (grow (W1.drewN nn) os) fun e w' => e = .returned (.int .i64 sp) ∧ ∃ q os', w' = grow ((grow (W1.drewN nn) os).drewN q) os' := fun nn os => (CS _).mono (by rintro e w' ⟨rfl, rfl⟩; exact ⟨rfl, (GrS.refl _).alloc _⟩)
        have BG : Hid (∀ nn os, Below W1.heap.size W1 (grow (W1.drewN nn) os)) := fun nn os => below_grow W1 nn os
        have Y0 : ∀ nn os, (grow (W1.drewN nn) os).cell? ⟨wr.heap.size, 0, none⟩ = some (.int .i64 (ndg l k).cores) := fun nn os => cell_grown (World.block_lt_of_cell? W1 _ y0) y0 nn os
        have Y1 : ∀ nn os, (grow (W1.drewN nn) os).cell? ⟨wr.heap.size, 1, none⟩ = some (.int .i64 (ndg l k).state) := fun nn os => cell_grown (World.block_lt_of_cell? W1 _ y1) y1 nn os
        have Z1 : ∀ nn os, (grow (W1.drewN nn) os).cell? ⟨b2, off2 + k, none⟩ = some (.int .i64 (zg u k)) := fun nn os => cell_grown (World.block_lt_of_cell? W1 _ z1) z1 nn os
        clear y0 y1 z1 CS
        have HOW : Hid (OwnPart W1 w.heap.size g c' (pkP l u cw k)) := HO.out.below BW
        clear HO BW
        by_cases p0 : 0 < G
        · obtain ⟨q1, q2⟩ := HG1.out p0
          obtain ⟨y1, y2⟩ := pk_yes q1
          rw [← q2] at y1 y2
          have Y1' : Hid (pkC l u cw (k + 1) = pkC l u cw k - G) := y1
          have Y2' : Hid (pkP l u cw (k + 1) = pkP l u cw k ++ [⟨(k : Int), G⟩]) := y2
          clear q1 q2 y1 y2
          have w2' : IntKind.i64.wrap (pkC l u cw k - G) = pkC l u cw k - G := by rw [IntKind.wrap_i64]; omega
          go_quiet_grown ((go_at_call 45; exact Calls.grown_of (CA _ _)))
          have B5 := B1.then (BG.out nq osq) B1.size
          have O5 := HOW.out.below (BG.out nq osq)
          generalize grow (W1.drewN nq) osq = w5 at B5 O5 ⊢
          have own5 := O5.own
          have z5 := B5.size
          have hbase := O5.base
          have hgl := O5.lt
          clear CA HOW B1 hw hbw hbw2 Y0 Y1 Z1
          go_wp2_with (at_builtin; refine wpList_append_own _ rfl (.tmp 36) (.tmp 40) 33 rfl w.heap.size 37 i1 (.agg #[.int .i64 0, .int .i64 0]) 2 16 Try.underlying33 hj hj0 hj1 hj2 rfl (by decide) _ _ _ rfl (own5.alloc _) ⟨w5.heap.size, 0, none⟩ 1 1 [.int .i64 (k : Int), .int .i64 G] rfl rfl ?g1 ?g2 ?g3 ?g4 ?g5 ?_)
          case g2 => exact ⟨rfl, rfl⟩
          case g3 => unfold maxLen; omega
          case g4 => omega
          case g5 => first | omega | (simp; omega)
          intro v' w4 hown' hgrow _
          have B4 : Below w.heap.size w w4 := (B5.alloc z5 _).grown hgrow (by simp; omega) (fun r q => by simp [Value.ownBlock] at q; omega)
          have hv : v' ≠ .slice none 0 0 := fun e => by
            rcases hown'.2 with ⟨_, h0⟩ | ⟨g3, c3, _, e3, _⟩
            · omega
            · rw [e3] at e; cases e
          obtain ⟨g3, c3, e3, O3⟩ := ownPart_of' (ys := pkP l u cw k ++ [⟨(k : Int), G⟩]) hown' (by simp) (by rw [ptcells_app]; rfl) hv
          subst e3
          have hl3 : (pkP l u cw k).length + 1 = (pkP l u cw (k + 1)).length := by rw [Y2'.out, List.length_append]; rfl
          have HO3 : Hid (OwnPart w4 w.heap.size g3 c3 (pkP l u cw (k + 1))) := by unfold Hid; rw [Y2'.out]; exact O3
          clear O3 hown' hgrow hv own5 O5
          go_wp2
          go_roundw
          case rel => exact ⟨k + 1, g3, c3, by omega, by go_num, by rw [Y1'.out], by rw [← hl3], HO3, B4⟩
          case measure => simp [intOf]; omega
        · obtain ⟨y1, y2⟩ := pk_no (HG2.out p0)
          have Y1' : Hid (pkC l u cw (k + 1) = pkC l u cw k) := y1
          have Y2' : Hid (pkP l u cw (k + 1) = pkP l u cw k) := y2
          clear y1 y2
          go_quiet_grown ((go_at_call 45; exact Calls.grown_of (CA _ _)))
          have B5 := B1.then (BG.out nq osq) B1.size
          have O5 := HOW.out.below (BG.out nq osq)
          go_wp2
          go_roundw
          case rel => exact ⟨k + 1, g, c', by omega, by go_num, by rw [Y1'.out], by rw [Y2'.out], by unfold Hid; rw [Y2'.out]; exact O5, B5⟩
          case measure => simp [intOf]; omega
      · obtain rfl : k = n2 := by omega
        have E2 : Hid (an = some (pkP l u cw k)) := by unfold Hid; rw [E.out, hlen]
        have hnn : ¬ (k : Int) < (k : Int) := by omega
        go_wp2
        go_ret2
        first
          | exact ⟨_, _, _, true, rfl, hw, by rw [E2.out]; exact ⟨rfl, rfl, Or.inr ⟨_, rfl, HO.out⟩⟩⟩
          | exact ⟨_, _, _, Or.inr ⟨rfl, hw, by rw [E2.out]; exact ⟨rfl, rfl, Or.inr ⟨_, rfl, HO.out⟩⟩⟩⟩

end Go.Proofs.Ytkkbfblgnejonaa
