/- PLAIN PART: a search breadth first: what it keeps from step to step, and what it has found when it ends (the least number of steps to each place). No program is named here. -/
import Derived.Test.YtnmoocgocnjdjaaGreatVSgp
namespace Go.Proofs.YtnmoocgocnjdjaaGreat
open Go.RowKit

/-- k is at most d steps away from s -/
def Lev (L : Nat → List Int) (s : Nat) : Nat → Nat → Prop
  | 0 => fun k => k = s
  | d + 1 => fun k => Lev L s d k ∨ ∃ p, Lev L s d p ∧ (k : Int) ∈ L p
theorem Lev.mono {L : Nat → List Int} {s k : Nat} {d : Nat} (h : Lev L s d k) : ∀ e, Lev L s (d + e) k
  | 0 => h
  | e + 1 => Or.inl (Lev.mono h e)
theorem Lev.le {L : Nat → List Int} {s k d e : Nat} (h : Lev L s d k) (hde : d ≤ e) : Lev L s e k := by
  have := Lev.mono h (e - d)
  rwa [show d + (e - d) = e by omega] at this
/-- the targets lie in bounds -/
def InB (n : Nat) (L : Nat → List Int) : Prop := ∀ p, p < n → ∀ x ∈ L p, 0 ≤ x ∧ x < n
theorem Lev.lt {L : Nat → List Int} {n s : Nat} (hL : InB n L) (hs : s < n) : ∀ d k, Lev L s d k → k < n
  | 0, k, h => by
    have : k = s := h
    omega
  | d + 1, k, h => by
    rcases h with h | ⟨p, hp, hk⟩
    · exact Lev.lt hL hs d k h
    · have := (hL p (Lev.lt hL hs d p hp) _ hk).2
      omega

/-- what is found in the end -/
def Dist (n : Nat) (L : Nat → List Int) (s : Nat) (D : Nat → Int) : Prop :=
  ∀ k, k < n → -1 ≤ D k ∧ D k < n ∧ (0 ≤ D k → Lev L s (D k).toNat k) ∧ ∀ d, Lev L s d k → 0 ≤ D k ∧ D k ≤ d
def qAt (Q : List Nat) (a : Nat) : Nat := Q.getD a 0
theorem qAt_mem {Q : List Nat} {a : Nat} (h : a < Q.length) : qAt Q a ∈ Q := by
  unfold qAt
  simp only [List.getD, h, List.getElem?_eq_getElem, Option.getD_some]
  exact List.getElem_mem h
theorem qAt_get {Q : List Nat} {k : Nat} (h : k ∈ Q) : ∃ a, a < Q.length ∧ qAt Q a = k := by
  obtain ⟨a, ha, e⟩ := List.getElem_of_mem h
  exact ⟨a, ha, by simp [qAt, List.getD, ha, e]⟩
theorem qAt_old {Q : List Nat} {a t : Nat} (h : a < Q.length) : qAt (Q ++ [t]) a = qAt Q a := by
  simp [qAt, List.getD, List.getElem?_append_left h]
theorem qAt_new (Q : List Nat) (t : Nat) : qAt (Q ++ [t]) Q.length = t := by
  simp [qAt, List.getD]
def updD (D : Nat → Int) (t : Nat) (x : Int) : Nat → Int := fun k => if k = t then x else D k
theorem updD_same (D : Nat → Int) (t : Nat) (x : Int) : updD D t x t = x := by unfold updD; rw [if_pos rfl]
theorem updD_ne {D : Nat → Int} {t k : Nat} {x : Int} (h : k ≠ t) : updD D t x k = D k := by unfold updD; rw [if_neg h]

/-- what holds when i places of the queue Q are done and j targets of the next one -/
structure BInv (n : Nat) (L : Nat → List Int) (s : Nat) (D : Nat → Int) (Q : List Nat) (i j : Nat) : Prop where
  qn : ∀ x, x ∈ Q → x < n
  iq : i ≤ Q.length
  vis : ∀ k, k < n → (0 ≤ D k ↔ k ∈ Q)
  neg : ∀ k, k < n → -1 ≤ D k
  s0 : s ∈ Q
  cnt : Q.length ≤ cntB n (fun k => decide (0 ≤ D k))
  sound : ∀ k, k ∈ Q → Lev L s (D k).toNat k
  least : ∀ k, k ∈ Q → ∀ d : Nat, Lev L s d k → D k ≤ d
  sorted : ∀ a b, a ≤ b → b < Q.length → D (qAt Q a) ≤ D (qAt Q b)
  win : ∀ b, b < Q.length → i < Q.length → D (qAt Q b) ≤ D (qAt Q i) + 1
  bnd : ∀ b, b < Q.length → D (qAt Q b) ≤ b
  done : ∀ a, a < i → ∀ x ∈ L (qAt Q a), 0 ≤ D x.toNat
  part : i < Q.length → ∀ x ∈ (L (qAt Q i)).take j, 0 ≤ D x.toNat

theorem BInv.len {n : Nat} {L : Nat → List Int} {s : Nat} {D : Nat → Int} {Q : List Nat} {i j : Nat} (h : BInv n L s D Q i j) : Q.length ≤ n := Nat.le_trans h.cnt (cntB_le _ _)
theorem BInv.start {n : Nat} (L : Nat → List Int) {s : Nat} (hs : s < n) : BInv n L s (updD (fun _ => -1) s 0) [s] 0 0 := by
  have e0 : qAt [s] 0 = s := rfl
  refine ⟨fun x hx => ?_, Nat.zero_le _, fun k _ => ?_, fun k _ => ?_, List.mem_singleton.2 rfl, ?_, fun k hk => ?_, fun k hk d _ => ?_, fun a b hab hb => ?_, fun b hb _ => ?_, fun b hb => ?_, fun a ha => absurd ha (Nat.not_lt_zero _), fun _ x hx => by simp at hx⟩
  · rw [List.mem_singleton.1 hx]; exact hs
  · rw [List.mem_singleton]
    by_cases e : k = s
    · subst e; rw [updD_same]; simp
    · rw [updD_ne e]; simp [e]
  · by_cases e : k = s
    · subst e; rw [updD_same]; omega
    · rw [updD_ne e]; omega
  · have : cntB n (fun _ => false) + 1 ≤ cntB n (fun k => decide (0 ≤ updD (fun _ => -1) s 0 k)) := cntB_lt (fun k hk => by simp at hk) (t := s) (by simp) (by rw [updD_same]; rfl) n hs
    simp; omega
  · rw [List.mem_singleton.1 hk, updD_same]; rfl
  · rw [List.mem_singleton.1 hk, updD_same]; omega
  · simp at hb
    have : a = b := by omega
    subst this; exact Int.le_refl _
  · simp at hb
    subst hb
    omega
  · simp at hb
    subst hb
    rw [e0, updD_same]; omega

/-- a target that was met before -/
theorem BInv.old {n : Nat} {L : Nat → List Int} {s : Nat} {D : Nat → Int} {Q : List Nat} {i j : Nat} (h : BInv n L s D Q i j) {x : Int} (hj : (L (qAt Q i))[j]? = some x) (hx : 0 ≤ D x.toNat) : BInv n L s D Q i (j + 1) :=
  { h with
    part := fun hi y hy => by
      have hjl : j < (L (qAt Q i)).length := (List.getElem?_eq_some_iff.1 hj).1
      rw [List.take_succ_eq_append_getElem hjl, List.mem_append, List.mem_singleton] at hy
      rcases hy with hy | hy
      · exact h.part hi y hy
      · have : y = x := by rw [hy]; exact (List.getElem?_eq_some_iff.1 hj).2
        subst this; exact hx }
/-- all that is nearer than the place at hand has been met -/
theorem BInv.near {n : Nat} {L : Nat → List Int} {s : Nat} {D : Nat → Int} {Q : List Nat} {i j : Nat} (h : BInv n L s D Q i j) (hL : InB n L) (hs : s < n) (hi : i < Q.length) : ∀ (d k : Nat), (d : Int) ≤ D (qAt Q i) → Lev L s d k → 0 ≤ D k
  | 0, k, _, hk => by
    have : k = s := hk
    subst this
    exact (h.vis k hs).2 h.s0
  | d + 1, k, hd, hk => by
    rcases hk with hk | ⟨p, hp, hkp⟩
    · exact BInv.near h hL hs hi d k (by omega) hk
    · have h0 := BInv.near h hL hs hi d p (by omega) hp
      have hpn := Lev.lt hL hs d p hp
      have hpQ := (h.vis p hpn).1 h0
      have hle := h.least p hpQ d hp
      obtain ⟨a, ha, e⟩ := qAt_get hpQ
      by_cases hai : a < i
      · have := h.done a hai (k : Int) (by rw [e]; exact hkp)
        simpa using this
      · have := h.sorted i a (by omega) ha
        rw [e] at this
        omega
/-- a target that is met for the first time -/
theorem BInv.new {n : Nat} {L : Nat → List Int} {s : Nat} {D : Nat → Int} {Q : List Nat} {i j : Nat} (h : BInv n L s D Q i j) (hL : InB n L) (hs : s < n) (hi : i < Q.length) {t : Nat} (hj : (L (qAt Q i))[j]? = some (t : Int)) (hx : D t < 0) :
    BInv n L s (updD D t (D (qAt Q i) + 1)) (Q ++ [t]) i (j + 1) := by
  have hjl : j < (L (qAt Q i)).length := (List.getElem?_eq_some_iff.1 hj).1
  have hmem : (t : Int) ∈ L (qAt Q i) := List.mem_of_getElem? hj
  have hcQ : qAt Q i ∈ Q := qAt_mem hi
  have hcn := h.qn _ hcQ
  have htn : t < n := by have := (hL _ hcn _ hmem).2; omega
  have htQ : t ∉ Q := fun hm => by have := (h.vis t htn).2 hm; omega
  have hne : ∀ k, k ∈ Q → k ≠ t := fun k hk e => htQ (e ▸ hk)
  have hD : ∀ k, k ∈ Q → updD D t (D (qAt Q i) + 1) k = D k := fun k hk => updD_ne (hne k hk)
  have hc0 : 0 ≤ D (qAt Q i) := (h.vis _ hcn).2 hcQ
  have hge : ∀ k, 0 ≤ D k → 0 ≤ updD D t (D (qAt Q i) + 1) k := fun k hk => by
    by_cases e : k = t
    · subst e; rw [updD_same]; omega
    · rw [updD_ne e]; exact hk
  have hq : ∀ a, a < Q.length → updD D t (D (qAt Q i) + 1) (qAt (Q ++ [t]) a) = D (qAt Q a) := fun a ha => by rw [qAt_old ha]; exact hD _ (qAt_mem ha)
  have hl : (Q ++ [t]).length = Q.length + 1 := by simp
  refine ⟨fun x hxm => ?_, by rw [hl]; omega, fun k hk => ?_, fun k hk => ?_, List.mem_append.2 (Or.inl h.s0), ?_, fun k hk => ?_, fun k hk d hd => ?_, fun a b hab hb => ?_, fun b hb _ => ?_, fun b hb => ?_, fun a ha x hxa => ?_, fun _ x hxa => ?_⟩
  · rcases List.mem_append.1 hxm with hm | hm
    · exact h.qn x hm
    · rw [List.mem_singleton.1 hm]; exact htn
  · by_cases e : k = t
    · subst e
      rw [updD_same]
      exact ⟨fun _ => List.mem_append.2 (Or.inr (List.mem_singleton.2 rfl)), fun _ => by omega⟩
    · rw [updD_ne e, h.vis k hk, List.mem_append, List.mem_singleton]
      exact ⟨fun hm => Or.inl hm, fun hm => hm.resolve_right e⟩
  · by_cases e : k = t
    · subst e; rw [updD_same]; omega
    · rw [updD_ne e]; exact h.neg k hk
  · have := cntB_lt (m := fun k => decide (0 ≤ D k)) (m' := fun k => decide (0 ≤ updD D t (D (qAt Q i) + 1) k)) (fun k hk => decide_eq_true (hge k (of_decide_eq_true hk))) (t := t) (by simp; omega) (by simp [updD_same]; omega) n htn
    have := h.cnt
    rw [hl]; omega
  · rcases List.mem_append.1 hk with hm | hm
    · rw [hD k hm]; exact h.sound k hm
    · rw [List.mem_singleton.1 hm, updD_same]
      rw [show (D (qAt Q i) + 1).toNat = (D (qAt Q i)).toNat + 1 by omega]
      exact Or.inr ⟨_, h.sound _ hcQ, hmem⟩
  · rcases List.mem_append.1 hk with hm | hm
    · rw [hD k hm]; exact h.least k hm d hd
    · rw [List.mem_singleton.1 hm] at hd ⊢
      rw [updD_same]
      false_or_by_contra
      have := h.near hL hs hi d t (by omega) hd
      omega
  · rw [hl] at hb
    by_cases hb2 : b < Q.length
    · rw [hq a (by omega), hq b hb2]; exact h.sorted a b hab hb2
    · have hbe : b = Q.length := by omega
      subst hbe
      rw [qAt_new, updD_same]
      by_cases ha2 : a < Q.length
      · rw [hq a ha2]; exact h.win a ha2 hi
      · have hae : a = Q.length := by omega
        subst hae
        rw [qAt_new, updD_same]; exact Int.le_refl _
  · rw [hl] at hb
    rw [hq i hi]
    by_cases hb2 : b < Q.length
    · rw [hq b hb2]; exact h.win b hb2 hi
    · have hbe : b = Q.length := by omega
      subst hbe
      rw [qAt_new, updD_same]; exact Int.le_refl _
  · rw [hl] at hb
    by_cases hb2 : b < Q.length
    · rw [hq b hb2]; exact h.bnd b hb2
    · have hbe : b = Q.length := by omega
      subst hbe
      rw [qAt_new, updD_same]
      have := h.bnd i hi
      omega
  · rw [qAt_old (by have := h.iq; omega)] at hxa
    exact hge _ (h.done a ha x hxa)
  · rw [qAt_old hi, List.take_succ_eq_append_getElem hjl, List.mem_append, List.mem_singleton] at hxa
    rcases hxa with hxa | hxa
    · exact hge _ (h.part hi x hxa)
    · have : x = (t : Int) := by rw [hxa]; exact (List.getElem?_eq_some_iff.1 hj).2
      subst this
      rw [Int.toNat_natCast, updD_same]; omega
/-- one place of the queue is done -/
theorem BInv.next {n : Nat} {L : Nat → List Int} {s : Nat} {D : Nat → Int} {Q : List Nat} {i j : Nat} (h : BInv n L s D Q i j) (hi : i < Q.length) (hj : (L (qAt Q i)).length ≤ j) : BInv n L s D Q (i + 1) 0 :=
  { h with
    iq := hi
    win := fun b hb hi2 => by
      have h1 := h.win b hb hi
      have h2 := h.sorted i (i + 1) (by omega) hi2
      omega
    done := fun a ha x hx => by
      by_cases e : a = i
      · subst e
        exact h.part hi x (by rw [List.take_of_length_le hj]; exact hx)
      · exact h.done a (by omega) x hx
    part := fun _ x hx => by simp at hx }
/-- the end of the search -/
theorem BInv.dist {n : Nat} {L : Nat → List Int} {s : Nat} {D : Nat → Int} {Q : List Nat} (h : BInv n L s D Q Q.length 0) (hL : InB n L) (hs : s < n) : Dist n L s D := by
  have hall : ∀ d k, Lev L s d k → 0 ≤ D k := by
    intro d
    induction d with
    | zero => intro k hk; have : k = s := hk; subst this; exact (h.vis k hs).2 h.s0
    | succ d ih =>
      intro k hk
      rcases hk with hk | ⟨p, hp, hkp⟩
      · exact ih k hk
      · have hpn := Lev.lt hL hs d p hp
        obtain ⟨a, ha, e⟩ := qAt_get ((h.vis p hpn).1 (ih p hp))
        have := h.done a ha (k : Int) (by rw [e]; exact hkp)
        simpa using this
  intro k hk
  refine ⟨h.neg k hk, ?_, fun h0 => h.sound k ((h.vis k hk).1 h0), fun d hd => ⟨hall d k hd, h.least k ((h.vis k hk).1 (hall d k hd)) d hd⟩⟩
  by_cases h0 : 0 ≤ D k
  · obtain ⟨a, ha, e⟩ := qAt_get ((h.vis k hk).1 h0)
    have := h.bnd a ha
    have := h.len
    rw [e] at *
    omega
  · omega
/-- how far, said once for all -/
theorem Dist.eq {n : Nat} {L : Nat → List Int} {s : Nat} {D D' : Nat → Int} (h : Dist n L s D) (h' : Dist n L s D') {k : Nat} (hk : k < n) : D k = D' k := by
  obtain ⟨a1, _, a2, a3⟩ := h k hk
  obtain ⟨b1, _, b2, b3⟩ := h' k hk
  by_cases h0 : 0 ≤ D k
  · have x := b3 _ (a2 h0)
    have y := a3 _ (b2 x.1)
    omega
  · by_cases h1 : 0 ≤ D' k
    · have := (a3 _ (b2 h1)).1
      omega
    · omega

end Go.Proofs.YtnmoocgocnjdjaaGreat
