/- A heap, plain mathematics: machines by what they have to do, then by number. -/
import Derived.Test.YtcomohobkjkhiaaGrO
namespace Go.Proofs.Ytcomohobkjkhiaa

/-- is the one ahead of the other: less to do, or as much and a lesser number -/
def mlt (a b : Int × Int) : Prop := a.2 < b.2 ∨ (a.2 = b.2 ∧ a.1 < b.1)
def mle (a b : Int × Int) : Prop := a.2 < b.2 ∨ (a.2 = b.2 ∧ a.1 ≤ b.1)
theorem mle_of_lt {a b : Int × Int} (h : mlt a b) : mle a b := by unfold mlt at h; unfold mle; omega
theorem mle_of_not {a b : Int × Int} (h : ¬ mlt a b) : mle b a := by unfold mlt at h; unfold mle; omega
theorem mle_refl (a : Int × Int) : mle a a := by unfold mle; omega
theorem mle_trans {a b c : Int × Int} (h : mle a b) (k : mle b c) : mle a c := by unfold mle at *; omega

def mg (ys : List (Int × Int)) (i : Nat) : Int × Int := ys.getD i (0, 0)
def sw (ys : List (Int × Int)) (i j : Nat) : List (Int × Int) := (ys.set i (mg ys j)).set j (mg ys i)

theorem mg_get {ys : List (Int × Int)} {i : Nat} (h : i < ys.length) : mg ys i = ys[i] := by simp [mg, h]
theorem sw_len (ys : List (Int × Int)) (i j : Nat) : (sw ys i j).length = ys.length := by simp [sw]
theorem sw_perm {ys : List (Int × Int)} {i j : Nat} (hi : i < ys.length) (hj : j < ys.length) : (sw ys i j).Perm ys := by
  unfold sw; rw [mg_get hi, mg_get hj]; exact List.set_set_perm hi hj
theorem sw_j {ys : List (Int × Int)} {i j : Nat} (hj : j < ys.length) : mg (sw ys i j) j = mg ys i := by
  unfold sw; rw [mg_get (by simpa using hj)]; simp
theorem sw_i {ys : List (Int × Int)} {i j : Nat} (hi : i < ys.length) (hj : j < ys.length) : mg (sw ys i j) i = mg ys j := by
  by_cases e : i = j
  · subst e; exact sw_j hj
  · unfold sw; rw [mg_get (by simpa using hi)]; rw [List.getElem_set_ne (by omega)]; simp
theorem sw_o {ys : List (Int × Int)} {i j k : Nat} (h1 : k ≠ i) (h2 : k ≠ j) : mg (sw ys i j) k = mg ys k := by
  unfold sw mg; simp only [List.getD_eq_getElem?_getD]; rw [List.getElem?_set_ne (by omega), List.getElem?_set_ne (by omega)]

/-- each of the first n is behind the one above it -/
def IsHp (ys : List (Int × Int)) (n : Nat) : Prop := ∀ c, 0 < c → c < n → mle (mg ys ((c - 1) / 2)) (mg ys c)
/-- but number j may be ahead of the one above it -/
structure UpI (ys : List (Int × Int)) (n j : Nat) : Prop where
  one : ∀ c, 0 < c → c < n → c ≠ j → mle (mg ys ((c - 1) / 2)) (mg ys c)
  two : ∀ c, 0 < c → c < n → (c - 1) / 2 = j → 0 < j → mle (mg ys ((j - 1) / 2)) (mg ys c)
theorem UpI.stop {ys : List (Int × Int)} {n j : Nat} (h : UpI ys n j) (hs : j = 0 ∨ ¬ mlt (mg ys j) (mg ys ((j - 1) / 2))) : IsHp ys n := fun c h0 hn => by
  by_cases e : c = j
  · subst e; rcases hs with hs | hs
    · omega
    · exact mle_of_not hs
  · exact h.one c h0 hn e
theorem UpI.step {ys : List (Int × Int)} {n j p : Nat} (h : UpI ys n j) (hn : n ≤ ys.length) (hj : j < n) (h0 : 0 < j) (hp : p = (j - 1) / 2) (hl : mlt (mg ys j) (mg ys p)) : UpI (sw ys p j) n p := by
  have hpj : p < j := by omega
  have ei : mg (sw ys p j) p = mg ys j := sw_i (by omega) (by omega)
  have ej : mg (sw ys p j) j = mg ys p := sw_j (by omega)
  constructor
  · intro c hc hcn hne
    by_cases e : c = j
    · subst e; rw [← hp, ei, ej]; exact mle_of_lt hl
    · rw [sw_o hne e]
      by_cases e1 : (c - 1) / 2 = p
      · rw [e1, ei]; exact mle_trans (mle_of_lt hl) (by have := h.one c hc hcn e; rwa [e1] at this)
      · by_cases e2 : (c - 1) / 2 = j
        · rw [e2, ej]; have := h.two c hc hcn e2 h0; rwa [← hp] at this
        · rw [sw_o e1 e2]; exact h.one c hc hcn e
  · intro c hc hcn e hp0
    rw [sw_o (by omega) (by omega)]
    have h1 := h.one p hp0 (by omega) (by omega)
    by_cases e1 : c = j
    · subst e1; rw [ej]; exact h1
    · rw [sw_o (by omega) e1]
      refine mle_trans h1 ?_
      have := h.one c hc hcn e1
      rwa [e] at this

/-- but number i may be behind those below it -/
structure DnI (ys : List (Int × Int)) (n i : Nat) : Prop where
  one : ∀ c, 0 < c → c < n → (c - 1) / 2 ≠ i → mle (mg ys ((c - 1) / 2)) (mg ys c)
  two : ∀ c, 0 < c → c < n → (c - 1) / 2 = i → 0 < i → mle (mg ys ((i - 1) / 2)) (mg ys c)
/-- number j is the first of the two below number i -/
structure Kid (ys : List (Int × Int)) (n i j : Nat) : Prop where
  lt : j < n
  pos : 0 < j
  up : (j - 1) / 2 = i
  le : ∀ c, 0 < c → c < n → (c - 1) / 2 = i → mle (mg ys j) (mg ys c)
theorem Kid.one {ys : List (Int × Int)} {n i : Nat} (h : 2 * i + 1 < n) (h2 : ¬ 2 * i + 2 < n) : Kid ys n i (2 * i + 1) :=
  ⟨h, by omega, by omega, fun c _ _ _ => by rw [show c = 2 * i + 1 by omega]; exact mle_refl _⟩
theorem Kid.left {ys : List (Int × Int)} {n i : Nat} (h2 : 2 * i + 2 < n) (hl : ¬ mlt (mg ys (2 * i + 2)) (mg ys (2 * i + 1))) : Kid ys n i (2 * i + 1) :=
  ⟨by omega, by omega, by omega, fun c _ _ _ => by
    by_cases e : c = 2 * i + 1
    · rw [e]; exact mle_refl _
    · rw [show c = 2 * i + 2 by omega]; exact mle_of_not hl⟩
theorem Kid.right {ys : List (Int × Int)} {n i : Nat} (h2 : 2 * i + 2 < n) (hl : mlt (mg ys (2 * i + 2)) (mg ys (2 * i + 1))) : Kid ys n i (2 * i + 2) :=
  ⟨by omega, by omega, by omega, fun c _ _ _ => by
    by_cases e : c = 2 * i + 1
    · rw [e]; exact mle_of_lt hl
    · rw [show c = 2 * i + 2 by omega]; exact mle_refl _⟩
theorem DnI.leaf {ys : List (Int × Int)} {n i : Nat} (h : DnI ys n i) (hs : ¬ 2 * i + 1 < n) : IsHp ys n := fun c h0 hn => h.one c h0 hn (by omega)
theorem DnI.stop {ys : List (Int × Int)} {n i j : Nat} (h : DnI ys n i) (k : Kid ys n i j) (hl : ¬ mlt (mg ys j) (mg ys i)) : IsHp ys n := fun c h0 hn => by
  by_cases e : (c - 1) / 2 = i
  · rw [e]; exact mle_trans (mle_of_not hl) (k.le c h0 hn e)
  · exact h.one c h0 hn e
theorem DnI.step {ys : List (Int × Int)} {n i j : Nat} (h : DnI ys n i) (hn : n ≤ ys.length) (k : Kid ys n i j) (hl : mlt (mg ys j) (mg ys i)) : DnI (sw ys i j) n j := by
  have hjn := k.lt
  have hj0 := k.pos
  have hu := k.up
  have hij : i < j := by omega
  have ei : mg (sw ys i j) i = mg ys j := sw_i (by omega) (by omega)
  have ej : mg (sw ys i j) j = mg ys i := sw_j (by omega)
  constructor
  · intro c hc hcn hne
    by_cases e : (c - 1) / 2 = i
    · rw [e, ei]
      by_cases e1 : c = j
      · rw [e1, ej]; exact mle_of_lt hl
      · rw [sw_o (by omega) e1]; exact k.le c hc hcn e
    · rw [sw_o e hne]
      by_cases e1 : c = i
      · subst e1; rw [ei]; exact h.two j hj0 hjn hu hc
      · rw [sw_o e1 (by rintro rfl; exact e hu)]; exact h.one c hc hcn e
  · intro c hc hcn e _
    rw [hu, ei, sw_o (by omega) (by omega)]
    have := h.one c hc hcn (by omega)
    rwa [e] at this

theorem IsHp.root {ys : List (Int × Int)} {n : Nat} (h : IsHp ys n) : ∀ c, c < n → mle (mg ys 0) (mg ys c) := by
  intro c
  induction c using Nat.strongRecOn with
  | _ c ih =>
    intro hc
    by_cases e : c = 0
    · subst e; exact mle_refl _
    · exact mle_trans (ih ((c - 1) / 2) (by omega) (by omega)) (h c (by omega) hc)
theorem IsHp.push {ys : List (Int × Int)} {x : Int × Int} (h : IsHp ys ys.length) : UpI (ys ++ [x]) (ys.length + 1) ys.length := by
  have g : ∀ c, c < ys.length → mg (ys ++ [x]) c = mg ys c := fun c hc => by unfold mg; simp only [List.getD_eq_getElem?_getD]; rw [List.getElem?_append_left hc]
  constructor
  · intro c h0 hc hne
    rw [g _ (by omega), g _ (by omega)]
    exact h c h0 (by omega)
  · intro c h0 hc e h1; omega
theorem IsHp.pop {ys : List (Int × Int)} {n : Nat} (h : IsHp ys (n + 1)) : DnI (sw ys 0 n) n 0 :=
  ⟨fun c h0 hc hne => by rw [sw_o (by omega) (by omega), sw_o (by omega) (by omega)]; exact h c h0 (by omega), fun c _ _ _ h0 => by omega⟩
theorem IsHp.take {ys : List (Int × Int)} {n : Nat} (h : IsHp ys n) : IsHp (ys.take n) n := fun c h0 hc => by
  have g : ∀ c, c < n → mg (ys.take n) c = mg ys c := fun c hc => by unfold mg; simp only [List.getD_eq_getElem?_getD]; rw [List.getElem?_take_of_lt hc]
  rw [g _ (by omega), g _ hc]; exact h c h0 hc
theorem pop_perm {ys zs : List (Int × Int)} {n : Nat} (hn : ys.length = n + 1) (hp : zs.Perm ys) : (mg zs n :: zs.take n).Perm ys := by
  have hl : zs.length = n + 1 := by rw [hp.length_eq]; exact hn
  have e : zs = zs.take n ++ [mg zs n] := by
    rw [mg_get (by omega)]
    have := List.take_append_getElem (l := zs) (i := n) (by omega)
    rw [this, List.take_of_length_le (by omega)]
  refine List.Perm.trans ?_ hp
  conv => rhs; rw [e]
  exact (List.perm_append_singleton _ _).symm

/-- ys are the machines, number i with l's i-th to do -/
structure Macs (ys : List (Int × Int)) (l : List Int) : Prop where
  len : ys.length = l.length
  all : ∀ y ∈ ys, ∃ k : Nat, k < l.length ∧ y = ((k : Int), l.getD k 0)
  has : ∀ k : Nat, k < l.length → ((k : Int), l.getD k 0) ∈ ys
  nodup : (ys.map (·.1)).Nodup

theorem Macs.perm {ys zs : List (Int × Int)} {l : List Int} (h : Macs ys l) (hp : zs.Perm ys) : Macs zs l :=
  ⟨hp.length_eq.trans h.len, fun y hy => h.all y (hp.subset hy), fun k hk => hp.symm.subset (h.has k hk), ((hp.map _).nodup_iff).2 h.nodup⟩

theorem nodup_perm_head {y : Int × Int} {r ys : List (Int × Int)} (h : (ys.map (·.1)).Nodup) (hp : (y :: r).Perm ys) : y.1 ∉ r.map (·.1) ∧ (r.map (·.1)).Nodup := by
  have := ((hp.map (·.1)).nodup_iff).2 h
  simpa using this

/-- the first of the heap is the first of the least -/
theorem Macs.first {ys : List (Int × Int)} {l : List Int} (h : Macs ys l) (hh : IsHp ys ys.length) (h0 : 0 < l.length) : mg ys 0 = (((leastK l : Nat) : Int), l.getD (leastK l) 0) := by
  have hl := h.len
  obtain ⟨k, hk, e⟩ := h.all (mg ys 0) (by rw [mg_get (by omega)]; exact List.getElem_mem _)
  have hle : ∀ i, i < l.length → mle ((k : Int), l.getD k 0) ((i : Int), l.getD i 0) := fun i hi => by
    obtain ⟨c, hc, e2⟩ := List.getElem_of_mem (h.has i hi)
    have := hh.root c hc
    rw [e, mg_get hc, e2] at this
    exact this
  have hk' : k = leastK l := leastK_only hk (fun i hi => by have := hle i hi; unfold mle at this; omega) (fun i hi => by have := hle i (by omega); unfold mle at this; simp only at this; omega)
  rw [e, hk']

/-- the first is taken, does more, and comes in again -/
theorem Macs.give {ys zs r : List (Int × Int)} {l : List Int} {k : Nat} {p : Int} (h : Macs ys l) (hk : k < l.length) (hp : (((k : Int), l.getD k 0) :: r).Perm ys) (hz : zs.Perm (((k : Int), l.getD k 0 + p) :: r)) : Macs zs (addAt l k p) := by
  obtain ⟨hn1, hn2⟩ := nodup_perm_head h.nodup hp
  have hr : ∀ y ∈ r, ∃ i : Nat, i < l.length ∧ i ≠ k ∧ y = ((i : Int), l.getD i 0) := fun y hy => by
    obtain ⟨i, hi, e⟩ := h.all y (hp.subset (List.mem_cons_of_mem _ hy))
    refine ⟨i, hi, ?_, e⟩
    rintro rfl
    exact hn1 (List.mem_map.2 ⟨y, hy, by rw [e]⟩)
  have hat : ∀ i, (addAt l k p).getD i 0 = l.getD i 0 + if k = i then p else 0 := fun i => addAt_at l k p i hk
  refine Macs.perm ?_ hz
  refine ⟨?_, ?_, ?_, ?_⟩
  · rw [addAt_len, ← h.len, ← hp.length_eq, List.length_cons, List.length_cons]
  · intro y hy
    rcases List.mem_cons.1 hy with rfl | hy
    · exact ⟨k, by rw [addAt_len]; exact hk, by rw [hat, if_pos rfl]⟩
    · obtain ⟨i, hi, hne, rfl⟩ := hr y hy
      exact ⟨i, by rw [addAt_len]; exact hi, by rw [hat, if_neg (Ne.symm hne), Int.add_zero]⟩
  · intro i hi
    rw [addAt_len] at hi
    rw [hat]
    by_cases e : k = i
    · subst e; rw [if_pos rfl]; exact List.mem_cons_self
    · rw [if_neg e, Int.add_zero]
      rcases List.mem_cons.1 (hp.symm.subset (h.has i hi)) with e2 | h2
      · injection e2 with e2; exact absurd (by omega) e
      · exact List.mem_cons_of_mem _ h2
  · rw [List.map_cons, List.nodup_cons]; exact ⟨hn1, hn2⟩

/-- machine number n comes in, with nothing to do -/
theorem Macs.more {ys zs : List (Int × Int)} {n : Nat} (h : Macs ys (List.replicate n 0)) (hz : zs.Perm (((n : Int), 0) :: ys)) : Macs zs (List.replicate (n + 1) 0) := by
  have hl := h.len
  rw [List.length_replicate] at hl
  refine Macs.perm ?_ hz
  refine ⟨by simp [hl], ?_, ?_, ?_⟩
  · intro y hy
    rw [List.length_replicate]
    rcases List.mem_cons.1 hy with rfl | hy
    · exact ⟨n, by omega, by rw [rep_at]⟩
    · obtain ⟨k, hk, e⟩ := h.all y hy
      rw [List.length_replicate] at hk
      exact ⟨k, by omega, by rw [e, rep_at, rep_at]⟩
  · intro k hk
    rw [List.length_replicate] at hk
    rw [rep_at]
    by_cases e : k = n
    · subst e; exact List.mem_cons_self
    · have := h.has k (by rw [List.length_replicate]; omega)
      rw [rep_at] at this
      exact List.mem_cons_of_mem _ this
  · rw [List.map_cons, List.nodup_cons]
    refine ⟨?_, h.nodup⟩
    intro hm
    obtain ⟨y, hy, e⟩ := List.mem_map.1 hm
    obtain ⟨k, hk, e2⟩ := h.all y hy
    rw [List.length_replicate] at hk
    rw [e2] at e
    simp only at e
    omega
theorem Macs.nil : Macs [] (List.replicate 0 0) := ⟨rfl, fun y hy => (List.not_mem_nil hy).elim, fun k hk => absurd hk (by simp), List.nodup_nil⟩

end Go.Proofs.Ytcomohobkjkhiaa
