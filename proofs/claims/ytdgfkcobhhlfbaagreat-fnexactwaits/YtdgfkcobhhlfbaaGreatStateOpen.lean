/- A State that came in, opened. -/
import Derived.Test.YtdgfkcobhhlfbaaGreatStateIn
import Derived.Test.YtdgfkcobhhlfbaaGreatNodeOpen
import Derived.Test.YtdgfkcobhhlfbaaGreatPartOpen
import Derived.Test.YtdgfkcobhhlfbaaGreatJobOpen
import Derived.Test.YtdgfkcobhhlfbaaGreatIntsOpen
namespace Go.Proofs.YtdgfkcobhhlfbaaGreat
open Go.ChangeShapes Go.WideShapes Go.ChangeAt Go.RowKit Go.Joins Go.Deep

theorem choose_lt' {α : Type} (x0 : α) {P : Nat → α → Prop} {n : Nat} (h : ∀ i, i < n → ∃ x, P i x) : ∃ f : Nat → α, ∀ i, i < n → P i (f i) := by
  haveI : Inhabited α := ⟨x0⟩
  exact choose_lt h

set_option maxRecDepth 8000 in
theorem open_pts_c {H : Type} {enc : TypeId × Value → H} {W : World} {fuel : Nat} {v : Value} {x : DataW H × List MemPlace}
    (hf : DataW.trod enc Tryz.prog W 0 (fun _ => true) true fuel 56 [v] = some x) :
    ∃ (a : Option Addr) (n cap : Nat) (ls : List Pt), v = .slice a n cap ∧ PartS W a n cap ls := by
  obtain ⟨fs, hu, hz, hall⟩ := fieldsPart
  rcases open_ints_slice Tryz.underlying56 hu hall (cellsPart.trans hz.symm) hf with hcs | ⟨a, n, cap, Z, hcs, hl, hm, hx⟩
  · exact ⟨none, 0, 0, [], hcs, rfl, Nat.le_refl _, Nat.zero_le _, fun _ => rfl, fun i hi => by omega, fun hi => by omega⟩
  · rw [hz] at hx
    haveI : Inhabited Pt := ⟨pt0⟩
    have q : ∀ i, i < cap → ∃ j : Pt, Z i = [j.node, j.cores] := fun i hi => ptfields (hx i hi).1
    obtain ⟨g, hg⟩ := choose_lt q
    refine ⟨some a, n, cap, (List.range n).map g, hcs, by simp, hl, hm, (fun h => by cases h), fun i hi => ?_, fun hn => ?_⟩
    · have e : ptg ((List.range n).map g) i = g i := by simp [ptg, hi]
      rw [e]
      exact ptwf_of (by rw [← hg i (by omega)]; exact (hx i (by omega)).2.2)
    · obtain ⟨b, off, spot⟩ := a
      have h0 := (hx 0 (by omega)).2.1 0 (by omega)
      have hspot : spot = none := by simpa [Addr.add] using World.cell?_spot h0
      subst hspot
      refine ⟨b, off, rfl, by simpa [Addr.add] using World.block_lt_of_cell? W _ h0, fun i hi c hcc => ?_⟩
      have hi' : i < n := by simpa using hi
      have e : ptg ((List.range n).map g) i = g i := by simp [ptg, hi']
      have := (hx i (by omega)).2.1 c hcc
      rw [add_plain, hg i (by omega)] at this
      rw [e, Nat.add_assoc, this]
      obtain rfl | rfl : c = 0 ∨ c = 1 := by omega
      all_goals rfl

set_option maxRecDepth 8000 in
theorem open_nds_c {H : Type} {enc : TypeId × Value → H} {W : World} {fuel : Nat} {v : Value} {x : DataW H × List MemPlace}
    (hf : DataW.trod enc Tryz.prog W 0 (fun _ => true) true fuel 22 [v] = some x) :
    ∃ (a : Option Addr) (n cap : Nat) (ls : List Nd), v = .slice a n cap ∧ NodeS W a n cap ls := by
  obtain ⟨fs, hu, hz, hall⟩ := fieldsNode
  rcases open_ints_slice Tryz.underlying22 hu hall (cellsNode.trans hz.symm) hf with hcs | ⟨a, n, cap, Z, hcs, hl, hm, hx⟩
  · exact ⟨none, 0, 0, [], hcs, rfl, Nat.le_refl _, Nat.zero_le _, fun _ => rfl, fun i hi => by omega, fun hi => by omega⟩
  · rw [hz] at hx
    haveI : Inhabited Nd := ⟨nd0⟩
    have q : ∀ i, i < cap → ∃ j : Nd, Z i = [j.cores, j.state] := fun i hi => ndfields (hx i hi).1
    obtain ⟨g, hg⟩ := choose_lt q
    refine ⟨some a, n, cap, (List.range n).map g, hcs, by simp, hl, hm, (fun h => by cases h), fun i hi => ?_, fun hn => ?_⟩
    · have e : ndg ((List.range n).map g) i = g i := by simp [ndg, hi]
      rw [e]
      exact ndwf_of (by rw [← hg i (by omega)]; exact (hx i (by omega)).2.2)
    · obtain ⟨b, off, spot⟩ := a
      have h0 := (hx 0 (by omega)).2.1 0 (by omega)
      have hspot : spot = none := by simpa [Addr.add] using World.cell?_spot h0
      subst hspot
      refine ⟨b, off, rfl, by simpa [Addr.add] using World.block_lt_of_cell? W _ h0, fun i hi c hcc => ?_⟩
      have hi' : i < n := by simpa using hi
      have e : ndg ((List.range n).map g) i = g i := by simp [ndg, hi']
      have := (hx i (by omega)).2.1 c hcc
      rw [add_plain, hg i (by omega)] at this
      rw [e, Nat.add_assoc, this]
      obtain rfl | rfl : c = 0 ∨ c = 1 := by omega
      all_goals rfl

theorem fieldsEnt : ∃ (fs : Array Field) (f0 f1 f2 f3 f4 : Field), Tryz.prog.underlying 58 = some (.struct fs) ∧ (fs[0]? = some f0 ∧ f0.type = 55 ∧ f0.offset = 0) ∧ (fs[1]? = some f1 ∧ f1.type = 2 ∧ f1.offset = 7) ∧ (fs[2]? = some f2 ∧ f2.type = 2 ∧ f2.offset = 8) ∧ (fs[3]? = some f3 ∧ f3.type = 2 ∧ f3.offset = 9) ∧ (fs[4]? = some f4 ∧ f4.type = 56 ∧ f4.offset = 10) :=
  ⟨_, _, _, _, _, _, Tryz.underlying58, ⟨rfl, rfl, rfl⟩, ⟨rfl, rfl, rfl⟩, ⟨rfl, rfl, rfl⟩, ⟨rfl, rfl, rfl⟩, ⟨rfl, rfl, rfl⟩⟩
theorem cellsEnt : Tryz.prog.cellsOf 58 = 11 := by kernel_rfl
theorem cellsInt1 : Tryz.prog.cellsOf 2 = 1 := by kernel_rfl
theorem cellsPts1 : Tryz.prog.cellsOf 56 = 1 := by kernel_rfl
theorem cellsNds1 : Tryz.prog.cellsOf 22 = 1 := by kernel_rfl
theorem cellsEns1 : Tryz.prog.cellsOf 23 = 1 := by kernel_rfl
theorem cellsSta : Tryz.prog.cellsOf 25 = 5 := by kernel_rfl
theorem list11 {cs : List Value} (h : cs.length = 11) : ∃ v0 v1 v2 v3 v4 v5 v6 v7 v8 v9 v10, cs = [v0, v1, v2, v3, v4, v5, v6, v7, v8, v9, v10] := by
  match cs, h with
  | [v0, v1, v2, v3, v4, v5, v6, v7, v8, v9, v10], _ => exact ⟨v0, v1, v2, v3, v4, v5, v6, v7, v8, v9, v10, rfl⟩
theorem list5 {cs : List Value} (h : cs.length = 5) : ∃ v0 v1 v2 v3 v4, cs = [v0, v1, v2, v3, v4] := by
  match cs, h with
  | [v0, v1, v2, v3, v4], _ => exact ⟨v0, v1, v2, v3, v4, rfl⟩

set_option maxRecDepth 8000 in
theorem open_ent_c {H : Type} {enc : TypeId × Value → H} {W : World} {fuel : Nat} {cs : List Value} {x : DataW H × List MemPlace}
    (hf : DataW.trod enc Tryz.prog W 0 (fun _ => true) true fuel 58 cs = some x) :
    ∃ (e : En) (v : Option Addr) (m : Nat), cs = [.int .i64 e.job.id, .int .i64 e.job.cores, .int .i64 e.job.long, .int .i64 e.job.due, .int .i64 e.job.wt, .int .i64 e.job.rank, .int .i64 e.job.at_, .int .i64 e.ph, .int .i64 e.st, .int .i64 e.ep, .slice v e.ps.length m] ∧ PartS W v e.ps.length m e.ps ∧ enwf e := by
  obtain ⟨fs, f0, f1, f2, f3, f4, hu, ⟨g0, t0, o0⟩, ⟨g1, t1, o1⟩, ⟨g2, t2, o2⟩, ⟨g3, t3, o3⟩, ⟨g4, t4, o4⟩⟩ := fieldsEnt
  obtain ⟨xs, n, _, rfl, hl, hlen, hx⟩ := DataW.trod_struct hu hf
  rw [cellsEnt] at hl
  have gx : ∀ (i : Nat) (f : Field), fs[i]? = some f → ∃ y, xs[i]? = some y := fun i f h => by
    have hi : i < fs.size := by
      rcases Nat.lt_or_ge i fs.size with h1 | h1
      · exact h1
      · rw [Array.getElem?_eq_none h1] at h; cases h
    exact ⟨_, List.getElem?_eq_getElem (by omega)⟩
  obtain ⟨y0, q0⟩ := gx 0 f0 g0
  obtain ⟨y1, q1⟩ := gx 1 f1 g1
  obtain ⟨y2, q2⟩ := gx 2 f2 g2
  obtain ⟨y3, q3⟩ := gx 3 f3 g3
  obtain ⟨y4, q4⟩ := gx 4 f4 g4
  have h0 := hx 0 f0 g0
  have h1 := hx 1 f1 g1
  have h2 := hx 2 f2 g2
  have h3 := hx 3 f3 g3
  have h4 := hx 4 f4 g4
  rw [t0, o0, cellsJob, q0] at h0
  rw [t1, o1, cellsInt1, q1] at h1
  rw [t2, o2, cellsInt1, q2] at h2
  rw [t3, o3, cellsInt1, q3] at h3
  rw [t4, o4, cellsPts1, q4] at h4
  obtain ⟨v0, v1, v2, v3, v4, v5, v6, v7, v8, v9, v10, rfl⟩ := list11 hl
  obtain ⟨gs, ju, jz, jall⟩ := fieldsJob
  obtain ⟨zs, z1, z2, z3⟩ := open_ints_cells ju jall (cellsJob.trans jz.symm) h0
  obtain ⟨a7, e7, _, w7⟩ := DataW.trod_int Tryz.underlying2 h1
  obtain ⟨a8, e8, _, w8⟩ := DataW.trod_int Tryz.underlying2 h2
  obtain ⟨a9, e9, _, w9⟩ := DataW.trod_int Tryz.underlying2 h3
  have h4' : DataW.trod enc Tryz.prog W 0 (fun _ => true) true n 56 [v10] = some y4 := h4
  obtain ⟨pa, pn, pc, ps, rfl, hp⟩ := open_pts_c h4'
  rw [jz] at z1
  match zs, z1 with
  | [b0, b1, b2, b3, b4, b5, b6], _ =>
    simp at z2 e7 e8 e9
    obtain ⟨rfl, rfl, rfl, rfl, rfl, rfl, rfl⟩ := z2
    subst e7 e8 e9
    have hpl := hp.len
    refine ⟨⟨⟨b0, b1, b2, b3, b4, b5, b6⟩, a7, a8, a9, ps⟩, pa, pc, by rw [← hpl], by rw [← hpl] at hp; exact hp, fun c hc => ?_, fun i hi => hp.wf i (Nat.lt_of_lt_of_eq hi hpl)⟩
    have wz : ∀ z ∈ [b0, b1, b2, b3, b4, b5, b6], (Lit.int .i64 z).wf = true := z3
    obtain rfl | rfl | rfl | rfl | rfl | rfl | rfl | rfl | rfl | rfl : c = 0 ∨ c = 1 ∨ c = 2 ∨ c = 3 ∨ c = 4 ∨ c = 5 ∨ c = 6 ∨ c = 7 ∨ c = 8 ∨ c = 9 := by omega
    · exact bounds_i64 (wz b0 (by simp))
    · exact bounds_i64 (wz b1 (by simp))
    · exact bounds_i64 (wz b2 (by simp))
    · exact bounds_i64 (wz b3 (by simp))
    · exact bounds_i64 (wz b4 (by simp))
    · exact bounds_i64 (wz b5 (by simp))
    · exact bounds_i64 (wz b6 (by simp))
    · exact bounds_i64 w7
    · exact bounds_i64 w8
    · exact bounds_i64 w9

set_option maxRecDepth 8000 in
theorem open_ens_c {H : Type} {enc : TypeId × Value → H} {W : World} {fuel : Nat} {v : Value} {x : DataW H × List MemPlace}
    (hf : DataW.trod enc Tryz.prog W 0 (fun _ => true) true fuel 23 [v] = some x) :
    ∃ (a : Option Addr) (n cap : Nat) (ls : List En), v = .slice a n cap ∧ EntS W a n cap ls := by
  rcases open_slice Tryz.underlying23 hf with ⟨h0, _⟩ | ⟨a, n, cap, m, k, D, Pl, hcs, hb, hl, hm, hmm, _, hx⟩
  · have e0 : v = .slice none 0 0 := by simpa using h0
    exact ⟨none, 0, 0, [], e0, EntS.nil_ W⟩
  · have hmc : m = cap := by simpa using hmm
    subst hmc
    have each : ∀ i, i < m → ∃ q : En × Option Addr × Nat, (∀ c, c < 10 → W.cell? (a.add (i * 11 + c)) = some (.int .i64 (Go.Proofs.YtdgfkcobhhlfbaaGreat.enc q.1 c))) ∧ W.cell? (a.add (i * 11 + 10)) = some (.slice q.2.1 q.1.ps.length q.2.2) ∧ PartS W q.2.1 q.1.ps.length q.2.2 q.1.ps ∧ enwf q.1 := by
      intro i hi
      obtain ⟨cs', g1, g2⟩ := hx i hi
      rw [cellsEnt] at g1
      obtain ⟨_, hlen, hcell⟩ := World.cells?_some g1
      obtain ⟨e, v', m', rfl, hp, hw⟩ := open_ent_c g2
      refine ⟨(e, v', m'), fun c hc => ?_, ?_, hp, hw⟩
      · have e1 := hcell c (by first | omega | (simp; omega))
        rw [add_add] at e1
        rw [e1]
        obtain rfl | rfl | rfl | rfl | rfl | rfl | rfl | rfl | rfl | rfl : c = 0 ∨ c = 1 ∨ c = 2 ∨ c = 3 ∨ c = 4 ∨ c = 5 ∨ c = 6 ∨ c = 7 ∨ c = 8 ∨ c = 9 := by omega
        all_goals rfl
      · have e1 := hcell 10 (by first | simp | (show 10 < 11; omega) | omega)
        rw [add_add] at e1
        rw [e1]
        rfl
    obtain ⟨q, hq⟩ := choose_lt' (⟨en0, none, 0⟩ : En × Option Addr × Nat) each
    have hg : ∀ i, i < n → eng ((List.range n).map fun i => (q i).1) i = (q i).1 := fun i hi => by simp [eng, hi]
    refine ⟨some a, n, m, (List.range n).map fun i => (q i).1, by simpa using hcs, by simp, hl, hm, (fun h => by cases h), fun i hi => ?_, fun hn => ?_⟩
    · rw [hg i hi]; exact (hq i (by omega)).2.2.2
    · obtain ⟨b, off, spot⟩ := a
      have h0 := (hq 0 (by omega)).1 0 (by omega)
      have hspot : spot = none := by simpa [Addr.add] using World.cell?_spot h0
      subst hspot
      refine ⟨b, off, rfl, by simpa [Addr.add] using World.block_lt_of_cell? W _ h0, fun i hi => ?_⟩
      have hi' : i < n := by simpa using hi
      obtain ⟨k1, k2, k3, k4⟩ := hq i (by omega)
      rw [hg i hi']
      refine ⟨fun c hc => ?_, (q i).2.1, (q i).2.2, ?_, k3⟩
      · have := k1 c hc
        rw [add_plain] at this
        rw [Nat.add_assoc]; exact this
      · rw [add_plain] at k2
        rw [Nat.add_assoc]; exact k2

theorem fieldsSta : ∃ (fs : Array Field) (f0 f1 f2 f3 f4 : Field), Tryz.prog.underlying 25 = some (.struct fs) ∧ (fs[0]? = some f0 ∧ f0.type = 2 ∧ f0.offset = 0) ∧ (fs[1]? = some f1 ∧ f1.type = 22 ∧ f1.offset = 1) ∧ (fs[2]? = some f2 ∧ f2.type = 23 ∧ f2.offset = 2) ∧ (fs[3]? = some f3 ∧ f3.type = 2 ∧ f3.offset = 3) ∧ (fs[4]? = some f4 ∧ f4.type = 2 ∧ f4.offset = 4) :=
  ⟨_, _, _, _, _, _, Tryz.underlying25, ⟨rfl, rfl, rfl⟩, ⟨rfl, rfl, rfl⟩, ⟨rfl, rfl, rfl⟩, ⟨rfl, rfl, rfl⟩, ⟨rfl, rfl, rfl⟩⟩

set_option maxRecDepth 8000 in
theorem open_state {H : Type} {enc : TypeId × Value → H} {W : World} {b0 : Nat} {v : Value} {d : DataW H} {p : List MemPlace}
    (hv : Value.okWide Tryz.prog W .any b0 25 v) (h : DataW.Trod enc Tryz.prog W 0 (fun _ => true) true 25 v d p) :
    ∃ (s : St) (na : Option Addr) (nc : Nat) (ea : Option Addr) (ec : Nat), v = stV s na nc ea ec ∧ StS W s na nc ea ec := by
  obtain ⟨fs, f0, f1, f2, f3, f4, hu, ⟨g0, t0, o0⟩, ⟨g1, t1, o1⟩, ⟨g2, t2, o2⟩, ⟨g3, t3, o3⟩, ⟨g4, t4, o4⟩⟩ := fieldsSta
  obtain ⟨cs, rfl, hsz⟩ := okWide_struct hu hv
  obtain ⟨fuel, hf⟩ := h
  obtain ⟨xs, n, _, _, hl, hlen, hx⟩ := DataW.trod_struct hu hf
  rw [cellsSta] at hl
  have gx : ∀ (i : Nat) (f : Field), fs[i]? = some f → ∃ y, xs[i]? = some y := fun i f h => by
    have hi : i < fs.size := by
      rcases Nat.lt_or_ge i fs.size with h1 | h1
      · exact h1
      · rw [Array.getElem?_eq_none h1] at h; cases h
    exact ⟨_, List.getElem?_eq_getElem (by omega)⟩
  obtain ⟨y0, q0⟩ := gx 0 f0 g0
  obtain ⟨y1, q1⟩ := gx 1 f1 g1
  obtain ⟨y2, q2⟩ := gx 2 f2 g2
  obtain ⟨y3, q3⟩ := gx 3 f3 g3
  obtain ⟨y4, q4⟩ := gx 4 f4 g4
  have h0 := hx 0 f0 g0
  have h1 := hx 1 f1 g1
  have h2 := hx 2 f2 g2
  have h3 := hx 3 f3 g3
  have h4 := hx 4 f4 g4
  rw [t0, o0, cellsInt1, q0] at h0
  rw [t1, o1, cellsNds1, q1] at h1
  rw [t2, o2, cellsEns1, q2] at h2
  rw [t3, o3, cellsInt1, q3] at h3
  rw [t4, o4, cellsInt1, q4] at h4
  obtain ⟨v0, v1, v2, v3, v4, hcs⟩ := list5 hl
  have hcs2 : cs = #[v0, v1, v2, v3, v4] := by
    have : cs.toList = [v0, v1, v2, v3, v4] := by simpa [Value.cells] using hcs
    rw [← this]
  subst hcs2
  simp [Value.cells] at h0 h1 h2 h3 h4
  obtain ⟨z0, e0, _, w0⟩ := DataW.trod_int Tryz.underlying2 h0
  obtain ⟨z3, e3, _, w3⟩ := DataW.trod_int Tryz.underlying2 h3
  obtain ⟨z4, e4, _, w4⟩ := DataW.trod_int Tryz.underlying2 h4
  obtain ⟨na, nn, nc, nodes, rfl, hN⟩ := open_nds_c h1
  obtain ⟨ea, en, ec, ents, rfl, hE⟩ := open_ens_c h2
  simp at e0 e3 e4
  subst e0 e3 e4
  have l1 := hN.len
  have l2 := hE.len
  subst l1 l2
  exact ⟨⟨z0, nodes, ents, z3, z4⟩, na, nc, ea, ec, rfl, hN, hE⟩

end Go.Proofs.YtdgfkcobhhlfbaaGreat
