/- A right State, in the program's own pieces. -/
import Derived.Test.YthgdjecbaomffaaStQ
namespace Go.Proofs.Ythgdjecbaomffaa
open Go.RowKit Go.Sort

theorem pw_eng {l : List En} {Q : En → En → Prop} : l.Pairwise Q ↔ ∀ i, i < l.length → ∀ h, h < i → Q (eng l h) (eng l i) := by
  rw [List.pairwise_iff_getElem]
  constructor
  · intro p i hi h hh
    rw [eng_get hi, eng_get (by omega : h < l.length)]
    exact p h i (by omega) hi hh
  · intro p i j hi hj hij
    have := p j hj i hij
    rwa [eng_get hi, eng_get hj] at this
/-- no two of them run with one epoch -/
theorem run_pair {ls : List En} : (∀ i, i < (inK ls 2 ls.length).length → ∀ h, h < i → (eng (inK ls 2 ls.length) h).ep ≠ (eng (inK ls 2 ls.length) i).ep) ↔
    ∀ i, i < ls.length → ∀ h, h < i → (eng ls h).ph = 2 → (eng ls i).ph = 2 → (eng ls h).ep ≠ (eng ls i).ep := by
  rw [← pw_eng (Q := fun a b => a.ep ≠ b.ep), ← pw_eng (Q := fun a b => a.ph = 2 → b.ph = 2 → a.ep ≠ b.ep)]
  unfold inK
  rw [List.take_length, List.pairwise_filter]
  simp

theorem pp_pr {ns : List Nd} {c : Int} {ps : List Pt} (hn : NsOk ns) (h : PpOk ns c ps) : PrOk ns c ps :=
  ⟨fun i hi => by
    obtain ⟨h1, ⟨h2, h3⟩, h4, h5⟩ := h.1 i hi
    have := (nOk_t (hn.ok (ptg ps i).node.toNat (by omega))).1
    exact ⟨h1, ⟨h2, by omega⟩, h4, h5⟩, h.2⟩

theorem so_mk {s : St} (now : 0 ≤ s.now ∧ s.now ≤ 999999999) (nd : NsOk s.nodes) (nx : 1 ≤ s.next ∧ s.next ≤ 1000000) (eps : 0 ≤ s.eps ∧ s.eps ≤ 1000000)
    (js : JsOk (jbK s.ents s.ents.length)) (srt : jsrt (jbK s.ents s.ents.length)) (eo : eoTo s s.ents s.ents.length) (rn : RnOk s.nodes (inK s.ents 2 s.ents.length))
    (us : UsOk s.nodes (usK s.nodes.length (inK s.ents 2 s.ents.length) (inK s.ents 2 s.ents.length).length)) : SOk s := by
  have hjl := jbK_len (Nat.le_refl s.ents.length)
  refine ⟨now, nd, js, nx, eps, fun i hi => ?_, by rw [iuK_us s _ (Nat.le_refl _)]; exact us⟩
  have e := eoB_t (eo i hi)
  refine ⟨⟨e.nx, e.at_, e.wt, e.due, fun h0 => ?_, ?_, e.ep, e.st⟩, ⟨fun h1 => ?_, fun h2 => ?_, fun h1 h2 => ?_⟩⟩
  · have h1 := srt i h0 (by omega)
    have h2 := (js.ok i (by omega)).2 (i - 1) (by omega)
    rw [jbK_at (by omega) (Nat.le_refl _), jbK_at hi (Nat.le_refl _)] at h1 h2
    omega
  · rcases e.ph with ⟨h, _⟩ | ⟨h, _⟩ | ⟨h | h | h, _⟩ <;> omega
  · rcases e.ph with ⟨_, h⟩ | ⟨h, _⟩ | ⟨h | h | h, _⟩
    · exact h
    all_goals omega
  · refine ⟨?_, ?_, fun k hk ⟨q1, q2⟩ => ?_⟩
    · rcases e.ph with ⟨h, _⟩ | ⟨_, h⟩ | ⟨h | h | h, _⟩ <;> omega
    · have hm := inK_has hi h2
      obtain ⟨a, ha, hb⟩ := List.mem_iff_getElem.1 hm
      have := ppB_t (rn.ok a ha).1
      rw [eng_get ha, hb] at this
      exact pp_pr nd this
    · exact run_pair.1 (fun a ha => (rn.ok a ha).2) i hi k hk q1 h2 q2
  · rcases e.ph with ⟨h, _⟩ | ⟨h, _⟩ | ⟨_, h⟩
    · omega
    · omega
    · exact h

theorem SOk.srt {s : St} (h : SOk s) : jsrt (jbK s.ents s.ents.length) := fun i h0 hi => by
  rw [jbK_len (Nat.le_refl _)] at hi
  rw [jbK_at (by omega) (Nat.le_refl _), jbK_at hi (Nat.le_refl _)]
  have := (h.en i hi).1.up h0
  omega
theorem SOk.eo {s : St} (h : SOk s) : eoTo s s.ents s.ents.length := fun i hi => by
  obtain ⟨a, p⟩ := h.en i hi
  refine eoB_mk ⟨a.at_, a.wt, a.due, a.nx, a.st, a.ep, ?_⟩
  have := a.ph
  by_cases h1 : (eng s.ents i).ph = 1
  · exact Or.inl ⟨h1, p.q h1⟩
  · by_cases h2 : (eng s.ents i).ph = 2
    · exact Or.inr (Or.inl ⟨h2, by have := (p.r h2).1; omega⟩)
    · exact Or.inr (Or.inr ⟨by omega, p.o h1 h2⟩)
theorem SOk.us' {s : St} (h : SOk s) : UsOk s.nodes (usK s.nodes.length (inK s.ents 2 s.ents.length) (inK s.ents 2 s.ents.length).length) := by
  have := h.us
  rwa [iuK_us s _ (Nat.le_refl _)] at this
theorem SOk.rn {s : St} (h : SOk s) : RnOk s.nodes (inK s.ents 2 s.ents.length) := by
  have hn := h.js.n
  rw [jbK_len (Nat.le_refl _)] at hn
  refine ⟨Nat.le_trans (inK_le (Nat.le_refl _)) hn, fun i hi => ⟨?_, ?_⟩⟩
  · obtain ⟨j, hj, e, hp⟩ := inK_at hi
    obtain ⟨q1, q2⟩ := ((h.en j hj).2.r hp).2.1
    refine ppB_mk ⟨fun a ha => ?_, by rw [e]; exact q2⟩
    have h9 := run_part h.us' hi ha
    rw [e] at ha h9 ⊢
    obtain ⟨r1, r2, r3, r4⟩ := q1 a ha
    exact ⟨r1, ⟨r2.1, h9⟩, r3, r4⟩
  · exact run_pair.2 (fun a ha b hb p1 p2 p3 => (((h.en a ha).2.r p2).2.2 b hb) ⟨p1, p3⟩) i hi

end Go.Proofs.Ythgdjecbaomffaa
