/- WHAT THE BIT SETS OF A HISTORY MEAN: numbers of bits, unions, meets, as said of single events. -/
import Derived.Test.YtigkgfdnnfmmmaaGreatVHic
namespace Go.Proofs.YtigkgfdnnfmmmaaGreat
open Go.RowKit

theorem bit_some {x : Nat} (h : x ≠ 0) : ∃ i, x.testBit i = true := by
  false_or_by_contra
  rename_i hn
  apply h
  apply Nat.eq_of_testBit_eq
  intro i
  rw [Nat.zero_testBit]
  cases hi : x.testBit i with
  | false => rfl
  | true => exact absurd ⟨i, hi⟩ hn
theorem bit_ne {x i : Nat} (h : x.testBit i = true) : x ≠ 0 := by
  rintro rfl
  rw [Nat.zero_testBit] at h
  cases h
theorem bit_iff {x : Nat} : x ≠ 0 ↔ ∃ i, x.testBit i = true := ⟨bit_some, fun ⟨_, h⟩ => bit_ne h⟩
theorem and_ne {x y : Nat} : x &&& y ≠ 0 ↔ ∃ i, x.testBit i = true ∧ y.testBit i = true := by
  rw [bit_iff]
  simp only [Nat.testBit_and, Bool.and_eq_true]
theorem bit_small {x j : Nat} (h : x < 18446744073709551616) (hj : x.testBit j = true) : j < 64 := by
  false_or_by_contra
  rename_i hn
  have h2 : (2 : Nat) ^ 64 ≤ 2 ^ j := Nat.pow_le_pow_right (by decide) (by omega)
  rw [Nat.testBit_lt_two_pow (Nat.lt_of_lt_of_le (show x < 2 ^ 64 by omega) h2)] at hj
  cases hj
/-- two events of a set share a condition -/
theorem cfB_iff {us : List Nat} {S : Nat} (hf : Fit us) : cfB us S = true ↔ ∃ c, c < us.length ∧ ∃ i j, i < j ∧ ((us.getD c 0).testBit i = true ∧ S.testBit i = true) ∧ ((us.getD c 0).testBit j = true ∧ S.testBit j = true) := by
  unfold cfB anyTo
  rw [List.any_eq_true]
  constructor
  · rintro ⟨c, hc, h⟩
    unfold cfAt at h
    obtain ⟨i, j, hij, _, hi, hj⟩ := (popA_two _ _).1 (of_decide_eq_true h)
    rw [Nat.testBit_and, Bool.and_eq_true] at hi hj
    exact ⟨c, by simpa using hc, i, j, hij, hi, hj⟩
  · rintro ⟨c, hc, i, j, hij, hi, hj⟩
    refine ⟨c, by simpa using hc, ?_⟩
    unfold cfAt
    refine decide_eq_true ((popA_two _ _).2 ⟨i, j, hij, bit_small (hf c) hj.1, ?_, ?_⟩)
    · rw [Nat.testBit_and, Bool.and_eq_true]; exact hi
    · rw [Nat.testBit_and, Bool.and_eq_true]; exact hj
/-- the pasts of the producers of the first k conditions -/
theorem paTo_bit {cs : List Cnd} {ps : List Nat} {L : List Int} {f : Nat} : ∀ k, (paTo cs ps L k).testBit f = true ↔ ∃ q, q < k ∧ cnB cs (L.getD q 0).toNat ≠ -1 ∧ (ps.getD (cnB cs (L.getD q 0).toNat).toNat 0).testBit f = true
  | 0 => by
    show (0 : Nat).testBit f = true ↔ _
    rw [Nat.zero_testBit]
    constructor
    · intro h; cases h
    · rintro ⟨q, hq, _⟩; exact absurd hq (Nat.not_lt_zero _)
  | k + 1 => by
    have ih := paTo_bit (cs := cs) (ps := ps) (L := L) (f := f) k
    show (paTo cs ps L k ||| _).testBit f = true ↔ _
    rw [Nat.testBit_or, Bool.or_eq_true, ih]
    constructor
    · rintro (⟨q, hq, h⟩ | h)
      · exact ⟨q, by omega, h⟩
      · split at h
        · rw [Nat.zero_testBit] at h; cases h
        · rename_i hne
          exact ⟨k, by omega, by simpa using hne, h⟩
    · rintro ⟨q, hq, h1, h2⟩
      by_cases e : q < k
      · exact Or.inl ⟨q, e, h1, h2⟩
      · have : q = k := by omega
        subst this
        right
        rw [if_neg (by simpa using h1)]
        exact h2

/-- event f lies in the past of event e, or is e -/
inductive Anc (cs : List Cnd) (es : List Ev) : Nat → Nat → Prop
  | self (e : Nat) : Anc cs es e e
  | step {e g f : Nat} (k : Nat) (hk : k < (evP es e).length) (hb : cnB cs ((evP es e).getD k 0).toNat = (g : Int)) (h : Anc cs es g f) : Anc cs es e f
/-- each event stands behind the producers of its conditions -/
def WfU (cs : List Cnd) (es : List Ev) : Prop := ∀ e, e < es.length → ∀ k, k < (evP es e).length → (0 ≤ (evP es e).getD k 0 ∧ (evP es e).getD k 0 < (cs.length : Int)) ∧ (cnB cs ((evP es e).getD k 0).toNat = -1 ∨ (0 ≤ cnB cs ((evP es e).getD k 0).toNat ∧ cnB cs ((evP es e).getD k 0).toNat < (e : Int)))
theorem cnB_left {cs xs : List Cnd} {c : Nat} (h : c < cs.length) : cnB (cs ++ xs) c = cnB cs c := by
  simp only [cnB, List.getD, List.getElem?_append_left h]
theorem evP_left {es xs : List Ev} {e : Nat} (h : e < es.length) : evP (es ++ xs) e = evP es e := by
  simp only [evP, List.getD, List.getElem?_append_left h]
theorem evP_new {es : List Ev} {t : Int} {L : List Int} : evP (es ++ [(t, L)]) es.length = L := by
  simp [evP, List.getD]
theorem Anc.grow {cs xs : List Cnd} {es ys : List Ev} (hw : WfU cs es) {e f : Nat} (h : Anc cs es e f) : e < es.length → Anc (cs ++ xs) (es ++ ys) e f := by
  induction h with
  | self e => exact fun _ => .self e
  | @step e g f k hk hb _ ih =>
    intro he
    have h1 := hw e he k hk
    refine .step k (by rw [evP_left he]; exact hk) (g := g) (by rw [evP_left he, cnB_left (by omega)]; exact hb) (ih ?_)
    omega
theorem Anc.shrink {cs xs : List Cnd} {es ys : List Ev} (hw : WfU cs es) {e f : Nat} (h : Anc (cs ++ xs) (es ++ ys) e f) : e < es.length → Anc cs es e f := by
  induction h with
  | self e => exact fun _ => .self e
  | @step e g f k hk hb _ ih =>
    intro he
    rw [evP_left he] at hk hb
    have h1 := hw e he k hk
    rw [cnB_left (by omega)] at hb
    exact .step k hk hb (ih (by omega))
theorem anc_old {cs xs : List Cnd} {es ys : List Ev} (hw : WfU cs es) {e f : Nat} (he : e < es.length) : Anc (cs ++ xs) (es ++ ys) e f ↔ Anc cs es e f := ⟨fun h => h.shrink hw he, fun h => h.grow hw he⟩
/-- the past of the new event -/
theorem anc_new {cs xs : List Cnd} {es : List Ev} {t : Int} {L : List Int} {f : Nat} (hw : WfU cs es) (hin : ∀ k, k < L.length → 0 ≤ L.getD k 0 ∧ L.getD k 0 < (cs.length : Int)) (hby : ByIn cs es.length) :
    Anc (cs ++ xs) (es ++ [(t, L)]) es.length f ↔ f = es.length ∨ ∃ k, k < L.length ∧ ∃ g : Nat, cnB cs (L.getD k 0).toNat = (g : Int) ∧ Anc cs es g f := by
  constructor
  · intro h
    cases h with
    | self => exact Or.inl rfl
    | @step _ g _ k hk hb h =>
      rw [evP_new] at hk hb
      have h1 := hin k hk
      rw [cnB_left (by omega)] at hb
      have h2 := hby (L.getD k 0).toNat (by omega)
      exact Or.inr ⟨k, hk, g, hb, (anc_old hw (by omega)).1 h⟩
  · rintro (rfl | ⟨k, hk, g, hb, h⟩)
    · exact .self _
    · have h1 := hin k hk
      have h2 := hby (L.getD k 0).toNat (by omega)
      refine .step k (by rw [evP_new]; exact hk) (g := g) (by rw [evP_new, cnB_left (by omega)]; exact hb) ((anc_old hw (by omega)).2 h)

/-- an event is added to the users of its conditions -/
def orTo (us : List Nat) (L : List Int) (b : Nat) : Nat → List Nat
  | 0 => us
  | k + 1 => (orTo us L b k).set (L.getD k 0).toNat ((orTo us L b k).getD (L.getD k 0).toNat 0 ||| b)
theorem orTo_length (us : List Nat) (L : List Int) (b : Nat) : ∀ k, (orTo us L b k).length = us.length
  | 0 => rfl
  | k + 1 => by simp [orTo, orTo_length us L b k]
theorem orTo_bit {us : List Nat} {L : List Int} {m c e : Nat} (hc : c < us.length) : ∀ k, ((orTo us L (2 ^ m) k).getD c 0).testBit e = true ↔ (us.getD c 0).testBit e = true ∨ (e = m ∧ ∃ q, q < k ∧ (L.getD q 0).toNat = c)
  | 0 => ⟨Or.inl, fun h => h.elim id fun h => by obtain ⟨_, q, hq, _⟩ := h; exact absurd hq (Nat.not_lt_zero _)⟩
  | k + 1 => by
    have ih := orTo_bit (us := us) (L := L) (m := m) (e := e) hc k
    have hlen := orTo_length us L (2 ^ m) k
    show (((orTo us L (2 ^ m) k).set (L.getD k 0).toNat _).getD c 0).testBit e = true ↔ _
    by_cases he : (L.getD k 0).toNat = c
    · have e1 : ((orTo us L (2 ^ m) k).set (L.getD k 0).toNat ((orTo us L (2 ^ m) k).getD (L.getD k 0).toNat 0 ||| 2 ^ m)).getD c 0 = (orTo us L (2 ^ m) k).getD c 0 ||| 2 ^ m := by
        rw [he]
        have hc2 : c < (orTo us L (2 ^ m) k).length := by rw [hlen]; exact hc
        simp only [List.getD, List.getElem?_set_self hc2, Option.getD_some]
      rw [e1, Nat.testBit_or, Bool.or_eq_true, ih, Nat.testBit_two_pow, decide_eq_true_iff]
      constructor
      · rintro ((h | ⟨h1, q, hq, h2⟩) | h)
        · exact Or.inl h
        · exact Or.inr ⟨h1, q, by omega, h2⟩
        · exact Or.inr ⟨h.symm, k, by omega, he⟩
      · rintro (h | ⟨h1, q, hq, h2⟩)
        · exact Or.inl (Or.inl h)
        · exact Or.inr h1.symm
    · have e1 : ((orTo us L (2 ^ m) k).set (L.getD k 0).toNat ((orTo us L (2 ^ m) k).getD (L.getD k 0).toNat 0 ||| 2 ^ m)).getD c 0 = (orTo us L (2 ^ m) k).getD c 0 := by
        generalize (L.getD k 0).toNat = x at he
        simp only [List.getD, List.getElem?_set_ne he]
      rw [e1, ih]
      constructor
      · rintro (h | ⟨h1, q, hq, h2⟩)
        · exact Or.inl h
        · exact Or.inr ⟨h1, q, by omega, h2⟩
      · rintro (h | ⟨h1, q, hq, h2⟩)
        · exact Or.inl h
        · have : q ≠ k := fun h => he (by rw [← h]; exact h2)
          exact Or.inr ⟨h1, q, by omega, h2⟩
/-- what the two rows of bit sets mean -/
structure Means (cs : List Cnd) (es : List Ev) (ps us : List Nat) : Prop where
  pe : ps.length = es.length
  uc : us.length = cs.length
  wf : WfU cs es
  by_ : ByIn cs es.length
  p : ∀ e, e < es.length → ∀ f, (ps.getD e 0).testBit f = true ↔ Anc cs es e f
  u : ∀ c, c < cs.length → ∀ e, (us.getD c 0).testBit e = true ↔ e < es.length ∧ ∃ q, q < (evP es e).length ∧ ((evP es e).getD q 0).toNat = c
/-- the pasts of the producers of a list -/
theorem Means.past {cs : List Cnd} {es : List Ev} {ps us : List Nat} (h : Means cs es ps us) {L : List Int} {f : Nat} (hin : ∀ k, k < L.length → 0 ≤ L.getD k 0 ∧ L.getD k 0 < (cs.length : Int)) :
    (paL cs ps L).testBit f = true ↔ ∃ k, k < L.length ∧ ∃ g : Nat, cnB cs (L.getD k 0).toNat = (g : Int) ∧ Anc cs es g f := by
  show (paTo cs ps L L.length).testBit f = true ↔ _
  rw [paTo_bit]
  constructor
  · rintro ⟨k, hk, h1, h2⟩
    have hb := h.by_ (L.getD k 0).toNat (by have := hin k hk; omega)
    obtain ⟨g, hg⟩ := Int.eq_ofNat_of_zero_le (show 0 ≤ cnB cs (L.getD k 0).toNat by omega)
    rw [hg, Int.toNat_natCast] at h2
    exact ⟨k, hk, g, hg, (h.p g (by omega) f).1 h2⟩
  · rintro ⟨k, hk, g, hg, h2⟩
    have hb := h.by_ (L.getD k 0).toNat (by have := hin k hk; omega)
    refine ⟨k, hk, by omega, ?_⟩
    rw [hg, Int.toNat_natCast]
    exact (h.p g (by omega) f).2 h2
/-- one more event -/
theorem Means.add {cs xs : List Cnd} {es : List Ev} {ps us : List Nat} (h : Means cs es ps us) {t : Int} {L : List Int} (hin : ∀ k, k < L.length → 0 ≤ L.getD k 0 ∧ L.getD k 0 < (cs.length : Int)) (hx : ∀ i, i < xs.length → cnB xs i = (es.length : Int)) :
    Means (cs ++ xs) (es ++ [(t, L)]) (ps ++ [paL cs ps L ||| 2 ^ es.length]) (orTo us L (2 ^ es.length) L.length ++ List.replicate xs.length 0) := by
  have hbn : ∀ c, c < cs.length → cnB (cs ++ xs) c = cnB cs c := fun c hc => cnB_left hc
  have hbx : ∀ c, cs.length ≤ c → c < (cs ++ xs).length → cnB (cs ++ xs) c = (es.length : Int) := fun c h1 h2 => by
    rw [List.length_append] at h2
    have := hx (c - cs.length) (by omega)
    simp only [cnB, List.getD, List.getElem?_append_right h1] at this ⊢
    exact this
  refine ⟨by simp [h.pe], by simp [orTo_length, h.uc], ?_, ?_, ?_, ?_⟩
  · intro e he k hk
    rw [List.length_append, List.length_singleton] at he
    by_cases e1 : e < es.length
    · rw [evP_left e1] at hk ⊢
      have := h.wf e e1 k hk
      rw [hbn _ (by omega), List.length_append]
      omega
    · have e2 : e = es.length := by omega
      subst e2
      rw [evP_new] at hk ⊢
      have h1 := hin k hk
      have h2 := h.by_ (L.getD k 0).toNat (by omega)
      rw [hbn _ (by omega), List.length_append]
      omega
  · intro c hc
    rw [List.length_append (bs := [(t, L)]), List.length_singleton]
    by_cases e1 : c < cs.length
    · rw [hbn c e1]
      have := h.by_ c e1
      omega
    · rw [hbx c (by omega) hc]
      omega
  · intro e he f
    rw [List.length_append, List.length_singleton] at he
    by_cases e1 : e < es.length
    · rw [anc_old h.wf e1, ← h.p e e1]
      simp only [List.getD, List.getElem?_append_left (show e < ps.length by rw [h.pe]; exact e1)]
    · have e2 : e = es.length := by omega
      subst e2
      rw [anc_new h.wf hin h.by_, ← h.past hin]
      have e3 : (ps ++ [paL cs ps L ||| 2 ^ es.length]).getD es.length 0 = paL cs ps L ||| 2 ^ es.length := by
        rw [← h.pe]; simp [List.getD]
      rw [e3, Nat.testBit_or, Bool.or_eq_true, Nat.testBit_two_pow, decide_eq_true_iff]
      constructor
      · rintro (q | q)
        · exact Or.inr q
        · exact Or.inl q.symm
      · rintro (q | q)
        · exact Or.inr q.symm
        · exact Or.inl q
  · intro c hc e
    rw [List.length_append (bs := [(t, L)]), List.length_singleton]
    have hul : (orTo us L (2 ^ es.length) L.length).length = cs.length := by rw [orTo_length, h.uc]
    by_cases e1 : c < cs.length
    · have e2 : (orTo us L (2 ^ es.length) L.length ++ List.replicate xs.length 0).getD c 0 = (orTo us L (2 ^ es.length) L.length).getD c 0 := by
        simp only [List.getD, List.getElem?_append_left (show c < (orTo us L (2 ^ es.length) L.length).length by omega)]
      rw [e2, orTo_bit (by rw [h.uc]; exact e1), h.u c e1 e]
      constructor
      · rintro (⟨q1, q, hq, q2⟩ | ⟨rfl, q, hq, q2⟩)
        · exact ⟨by omega, q, by rw [evP_left q1]; exact hq, by rw [evP_left q1]; exact q2⟩
        · exact ⟨by omega, q, by rw [evP_new]; exact hq, by rw [evP_new]; exact q2⟩
      · rintro ⟨q1, q, hq, q2⟩
        by_cases e3 : e < es.length
        · rw [evP_left e3] at hq q2
          exact Or.inl ⟨e3, q, hq, q2⟩
        · have e4 : e = es.length := by omega
          subst e4
          rw [evP_new] at hq q2
          exact Or.inr ⟨rfl, q, hq, q2⟩
    · have e2 : (orTo us L (2 ^ es.length) L.length ++ List.replicate xs.length 0).getD c 0 = 0 := by
        simp only [List.getD, List.getElem?_append_right (show (orTo us L (2 ^ es.length) L.length).length ≤ c by omega), List.getElem?_replicate]
        split <;> rfl
      rw [e2, Nat.zero_testBit]
      constructor
      · intro q; cases q
      · rintro ⟨q1, q, hq, q2⟩
        exfalso
        by_cases e3 : e < es.length
        · rw [evP_left e3] at hq q2
          have := h.wf e e3 q hq
          omega
        · have e4 : e = es.length := by omega
          subst e4
          rw [evP_new] at hq q2
          have := hin q hq
          omega

end Go.Proofs.YtigkgfdnnfmmmaaGreat
