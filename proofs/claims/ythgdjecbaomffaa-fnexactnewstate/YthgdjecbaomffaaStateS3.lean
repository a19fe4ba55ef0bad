/- Chapter 13's model: are these a running job's parts? -/
import Derived.Test.YthgdjecbaomffaaStateS2
namespace Go.Proofs.Ythgdjecbaomffaa
open Go.RowKit Go.Sort

/-- the cores of the first k parts -/
def csK (ps : List Pt) : Nat → Int
  | 0 => 0
  | k + 1 => csK ps k + (ptg ps k).cores
/-- part i is one of the nodes', not down, behind the one ahead -/
def Pr1 (ns : List Nd) (ps : List Pt) (i : Nat) : Prop := (0 ≤ (ptg ps i).node ∧ (ptg ps i).node ≤ (ns.length : Int) - 1) ∧ (1 ≤ (ptg ps i).cores ∧ (ptg ps i).cores ≤ 100) ∧ (ndg ns (ptg ps i).node.toNat).state ≠ 3 ∧ (0 < i → (ptg ps (i - 1)).node < (ptg ps i).node)
def PrOk (ns : List Nd) (cores : Int) (ps : List Pt) : Prop := (∀ i, i < ps.length → Pr1 ns ps i) ∧ csK ps ps.length = cores
noncomputable def prB (ns : List Nd) (cores : Int) (ps : List Pt) : Bool := @decide (PrOk ns cores ps) (Classical.propDecidable _)
theorem prB_mk {ns : List Nd} {cores : Int} {ps : List Pt} (h : PrOk ns cores ps) : prB ns cores ps = true := @decide_eq_true _ (Classical.propDecidable _) h
theorem prB_no {ns : List Nd} {cores : Int} {ps : List Pt} (h : ¬ PrOk ns cores ps) : prB ns cores ps = false := @decide_eq_false _ (Classical.propDecidable _) h
theorem prB_t {ns : List Nd} {cores : Int} {ps : List Pt} (h : prB ns cores ps = true) : PrOk ns cores ps := @of_decide_eq_true _ (Classical.propDecidable _) h
theorem prB_bad {ns : List Nd} {cores : Int} {ps : List Pt} {i : Nat} (hi : i < ps.length) (h : ¬ Pr1 ns ps i) : prB ns cores ps = false := prB_no fun q => h (q.1 i hi)
theorem csK_bd {ns : List Nd} {ps : List Pt} : ∀ k, (∀ i, i < k → Pr1 ns ps i) → 0 ≤ csK ps k ∧ csK ps k ≤ 100 * (k : Int)
  | 0, _ => by simp [csK]
  | k + 1, h => by
    have ih := csK_bd k fun i hi => h i (by omega)
    have := (h k (by omega)).2.1
    simp only [csK]; push_cast; omega

set_option maxRecDepth 8000 in
set_option maxHeartbeats 4000000 in
theorem l13Parts_any (ns : List Nd) (e : En) (na : Option Addr) (nn nc : Nat) (v : Option Addr) (m : Nat) (w : World) (hN : NodeS w na nn nc ns) (hP : PartS w v e.ps.length m e.ps) (hn : nn ≤ 1048576) (hp : e.ps.length ≤ 1048576) :
    Calls Try.prog 32 #[.slice na nn nc, enV e v m] w fun en w' => en = .returned (.bool (prB ns e.job.cores e.ps)) ∧ Below w.heap.size w w' := by
  have hnl := hN.len
  have hmx := hP.mx
  have hle := hP.le
  unfold maxLen at hmx
  obtain ⟨r, hr⟩ : ∃ r, r = prB ns e.job.cores e.ps := ⟨_, rfl⟩
  have HR : Hid (r = prB ns e.job.cores e.ps) := hr
  rw [← hr]
  clear hr
  have hmo : Try.prog.follows .mixedOrders = true := by kernel_rfl
  unfold enV
  obtain ⟨W0, hW0⟩ : ∃ W0, W0 = w.alloc (.cells #[.int .i64 e.job.id, .int .i64 e.job.cores, .int .i64 e.job.long, .int .i64 e.job.due, .int .i64 e.job.wt, .int .i64 e.job.rank, .int .i64 e.job.at_, .int .i64 e.ph, .int .i64 e.st, .int .i64 e.ep, .slice v e.ps.length m] 59) := ⟨_, rfl⟩
  have B0 : Below w.heap.size w W0 := by rw [hW0]; exact box_below0
  have x0 : W0.heap[w.heap.size]? = some (.cells #[.int .i64 e.job.id, .int .i64 e.job.cores, .int .i64 e.job.long, .int .i64 e.job.due, .int .i64 e.job.wt, .int .i64 e.job.rank, .int .i64 e.job.at_, .int .i64 e.ph, .int .i64 e.st, .int .i64 e.ep, .slice v e.ps.length m] 59 (0, 0)) := by rw [hW0]; exact heap_alloc_new _ _
  have l0 := lt_of_block x0
  have HX : Hid (∀ W, Below W0.heap.size W0 W → W.cell? ⟨w.heap.size, 1, none⟩ = some (.int .i64 e.job.cores) ∧ W.cell? ⟨w.heap.size, 10, none⟩ = some (.slice v e.ps.length m)) := fun W hW => by
    have := box11 ((hW.block _ l0).trans x0)
    exact ⟨this.c1, this.c10⟩
  have HPS : Hid (∀ W, Below w.heap.size w W → PartS W v e.ps.length m e.ps) := fun W hW => hP.below hW
  have HNS : Hid (∀ W, Below w.heap.size w W → NodeS W na nn nc ns) := fun W hW => hN.below hW
  go_enter Try.func32, Try.ntmps32
  go_upto_region 1 with fail
  rw [← hW0]
  clear hW0 x0 l0 hN hP
  go_wp2
  go_loopw [5, 6] (fun sv i wr => ∃ k : Nat, k ≤ e.ps.length ∧ i = .int .i64 k ∧ sv = .int .i64 (csK e.ps k) ∧ Hid (∀ i, i < k → Pr1 ns e.ps i) ∧ Below W0.heap.size W0 wr) (fun _ i _ => e.ps.length - (intOf i).toNat)
  case atStart => exact ⟨0, by omega, rfl, rfl, fun i hi => by omega, Below.refl _ _⟩
  case round =>
    obtain ⟨k, hk, rfl, rfl, hok, hw1⟩ := hrel
    rename World => wr
    have hw := B0.then hw1 B0.size
    obtain ⟨c1, c10⟩ := HX.out wr hw1
    have cb := csK_bd k hok.out
    by_cases hlt : k < e.ps.length
    · obtain ⟨b, off, rfl, hbw, hat⟩ := (HPS.out _ hw).at_ (by omega)
      obtain ⟨p0, p1⟩ := hat.row (i := k) (by omega)
      have hlt' : (k : Int) < (e.ps.length : Int) := by omega
      obtain ⟨W1, hW1⟩ : ∃ W1, W1 = wr.alloc (.cells #[.int .i64 (ptg e.ps k).node, .int .i64 (ptg e.ps k).cores] 89) := ⟨_, rfl⟩
      have b1 : Below wr.heap.size wr W1 := by rw [hW1]; exact box_below0
      have B1 := hw.then b1 hw.size
      have hw3 := hw1.then b1 hw1.size
      have y0 : W1.cell? ⟨wr.heap.size, 0, none⟩ = some (.int .i64 (ptg e.ps k).node) := by rw [hW1]; simp
      have y1 : W1.cell? ⟨wr.heap.size, 1, none⟩ = some (.int .i64 (ptg e.ps k).cores) := by rw [hW1]; simp
      obtain ⟨_, z10⟩ := HX.out W1 hw3
      obtain ⟨pn, hpn⟩ : ∃ pn, pn = (ptg e.ps k).node := ⟨_, rfl⟩
      obtain ⟨pc, hpc⟩ : ∃ pc, pc = (ptg e.ps k).cores := ⟨_, rfl⟩
      have HPN : Hid (pn = (ptg e.ps k).node) := hpn
      have HPC : Hid (pc = (ptg e.ps k).cores) := hpc
      rw [← hpn] at y0
      rw [← hpc] at y1
      have i1 : (0 : Int) ≤ (k : Int) := by omega
      go_upto_region 6 with fail
      rw [← hW1]
      have hatB : PartAt W1 b off e.ps := hat.below b1 hbw
      clear hW1 p0 p1 c10 c1 hat
      rw [← hpn, ← hpc]
      clear hpn hpc
      rcases q1 : inB pn 0 ((nn : Int) - 1) with _ | _
      · have E : Hid (r = false) := HR.out.trans (prB_bad hlt fun q => by have := q.1; have := nin_f q1; have := HPN.out; omega)
        clear HX HPS HNS HR cb hok
        go_quiet ((go_at_call 28; exact Calls.quiet_of_same (l1In_any _ _ _ _)))
        go_wp2
        go_ret
        exact ⟨by rw [E.out]; rfl, B1.drewN _⟩
      · have n1 := nin_t q1
        rcases q2 : inB pc 1 100 with _ | _
        · have E : Hid (r = false) := HR.out.trans (prB_bad hlt fun q => by have := q.2.1; have := nin_f q2; have := HPC.out; omega)
          clear HX HPS HNS HR cb hok
          go_quiet ((go_at_call 28; exact Calls.quiet_of_same (l1In_any _ _ _ _)))
          go_wp2
          go_ret
          exact ⟨by rw [E.out]; rfl, B1.drewN _⟩
        · have n2 := nin_t q2
          have hNS := HNS.out W1 B1
          obtain ⟨bn, offn, rfl, hbn, hatn⟩ := hNS.at_ (by omega)
          obtain ⟨_, x1⟩ := hatn.row (i := pn.toNat) (by omega)
          have i3 : pn < (nn : Int) := by omega
          obtain ⟨g, hg⟩ : ∃ g, g = (ndg ns pn.toNat).state := ⟨_, rfl⟩
          have HG : Hid (g = (ndg ns pn.toNat).state) := hg
          rw [← hg] at x1
          clear hg hNS hatn
          rcases q3 : (g == 3) with _ | _
          · by_cases hk0 : 0 < k
            · have hk1 : (k : Int) > 0 := by omega
              have i4 : (0 : Int) ≤ (k : Int) - 1 := by omega
              have i5 : (k : Int) - 1 < (e.ps.length : Int) := by omega
              obtain ⟨z0, _⟩ := (show PartAt W1 b off e.ps from hatB).row (i := k - 1) (by omega)
              have hkk : ((k : Int) - 1).toNat = k - 1 := by omega
              obtain ⟨q, hq⟩ : ∃ q, q = (ptg e.ps (k - 1)).node := ⟨_, rfl⟩
              have HQ : Hid (q = (ptg e.ps (k - 1)).node) := hq
              rw [← hq] at z0
              clear hq
              by_cases q4 : pn ≤ q
              · have E : Hid (r = false) := HR.out.trans (prB_bad hlt fun p => by have := p.2.2.2 hk0; have := HQ.out; have := HPN.out; omega)
                clear HX HPS HNS HR cb hok
                go_quiet ((go_at_call 28; exact Calls.quiet_of_same (l1In_any _ _ _ _)))
                go_wp2
                go_ret
                exact ⟨by rw [E.out]; rfl, B1.drewN _⟩
              · have N : Hid (∀ i, i < k + 1 → Pr1 ns e.ps i) := fun i hi => by
                  by_cases e' : i = k
                  · subst e'
                    exact ⟨by rw [← HPN.out]; omega, by rw [← HPC.out]; omega, by rw [← HPN.out, ← HG.out]; simpa using q3, fun _ => by have := HQ.out; have := HPN.out; omega⟩
                  · exact hok.out i (by omega)
                have E : Hid (csK e.ps (k + 1) = csK e.ps k + pc) := by unfold Hid; simp only [csK]; rw [HPC.out]
                clear HX HPS HNS HR hok
                go_quiet ((go_at_call 28; exact Calls.quiet_of_same (l1In_any _ _ _ _)))
                go_wp2
                go_roundw
                case rel => exact ⟨k + 1, by omega, by go_num, by rw [E.out], N, hw3.drewN _⟩
                case measure => simp [intOf]; omega
            · have hk1 : ¬ (k : Int) > 0 := by omega
              have N : Hid (∀ i, i < k + 1 → Pr1 ns e.ps i) := fun i hi => by
                by_cases e' : i = k
                · subst e'
                  exact ⟨by rw [← HPN.out]; omega, by rw [← HPC.out]; omega, by rw [← HPN.out, ← HG.out]; simpa using q3, fun p => absurd p hk0⟩
                · exact hok.out i (by omega)
              have E : Hid (csK e.ps (k + 1) = csK e.ps k + pc) := by unfold Hid; simp only [csK]; rw [HPC.out]
              clear HX HPS HNS HR hok
              go_quiet ((go_at_call 28; exact Calls.quiet_of_same (l1In_any _ _ _ _)))
              go_wp2
              go_roundw
              case rel => exact ⟨k + 1, by omega, by go_num, by rw [E.out], N, hw3.drewN _⟩
              case measure => simp [intOf]; omega
          · have E : Hid (r = false) := HR.out.trans (prB_bad hlt fun q => q.2.2.1 (by rw [← HPN.out, ← HG.out]; simpa using q3))
            clear HX HPS HNS HR cb hok
            go_quiet ((go_at_call 28; exact Calls.quiet_of_same (l1In_any _ _ _ _)))
            go_wp2
            go_ret
            exact ⟨by rw [E.out]; rfl, B1.drewN _⟩
    · obtain rfl : k = e.ps.length := by omega
      have hnn : ¬ (e.ps.length : Int) < (e.ps.length : Int) := by omega
      have E : Hid (r = (csK e.ps e.ps.length == e.job.cores)) := HR.out.trans (by
        by_cases q : csK e.ps e.ps.length = e.job.cores
        · rw [prB_mk ⟨hok.out, q⟩, q]; simp
        · rw [prB_no fun h => q h.2]; simpa using q)
      go_wp2
      go_ret
      exact ⟨by rw [E.out]; rfl, hw⟩

end Go.Proofs.Ythgdjecbaomffaa
