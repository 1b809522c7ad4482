/- BYTES of a blank row (out of Arrb).
   What marked arrays hold (out of Pur).
   PLAIN PART: an int is among ints. No program is named here.
   LISTS that meet, as data (out of Meet).
   PLAIN PART: what the marked arrays say of lists of places: equal arrays, disjoint lists; what a good net holds. -/
import Derived.Test.YtigkgfdnnfmmmaaVArr
import Derived.Test.YtigkgfdnnfmmmaaVSteps
import Derived.Test.YtigkgfdnnfmmmaaVInts
import Derived.Test.YtigkgfdnnfmmmaaVGood
import Derived.Test.YtigkgfdnnfmmmaaVL1in
namespace Go.Proofs.Ytigkgfdnnfmmmaa
open Go.RowKit

def firsts (k : Nat) : List UInt8 := List.replicate k 48 ++ List.replicate (30 - k) 0
def blank : List UInt8 := List.replicate 30 48
theorem firsts_length {k : Nat} (h : k ≤ 30) : (firsts k).length = 30 := by simp [firsts]; omega
theorem firsts_zero : firsts 0 = zeros := rfl
theorem firsts_last : firsts 30 = blank := rfl
theorem blank_length : blank.length = 30 := rfl
theorem firsts_succ {k : Nat} (h : k < 30) : (firsts k).set k 48 = firsts (k + 1) := by
  apply List.ext_getElem?
  intro i
  simp only [firsts, List.getElem?_set, List.getElem?_append, List.length_append, List.length_replicate, List.getElem?_replicate]
  repeat' split
  all_goals first | rfl | omega


end Go.Proofs.Ytigkgfdnnfmmmaa

namespace Go.Proofs.Ytigkgfdnnfmmmaa
open Go.RowKit

theorem set_getD (xs : List UInt8) (q i : Nat) (v : UInt8) (hi : i < xs.length) : (xs.set q v).getD i 0 = if q = i then v else xs.getD i 0 := by
  simp only [List.getD, List.getElem?_set]
  by_cases h : q = i
  · subst h; simp [hi]
  · simp [h]

theorem putAll_getD (v : UInt8) : ∀ (ps : List Int) (xs : List UInt8) (i : Nat), (∀ p ∈ ps, 0 ≤ p) → i < xs.length → (putAll v xs ps).getD i 0 = if (i : Int) ∈ ps then v else xs.getD i 0
  | [], xs, i, _, _ => by simp [putAll]
  | p :: ps, xs, i, hp, hi => by
    have ih := putAll_getD v ps (xs.set p.toNat v) i (fun q hq => hp q (List.mem_cons_of_mem _ hq)) (by simpa using hi)
    have e : putAll v xs (p :: ps) = putAll v (xs.set p.toNat v) ps := rfl
    rw [e, ih, set_getD _ _ _ _ hi]
    have h0 := hp p (List.mem_cons_self ..)
    by_cases h1 : (i : Int) ∈ ps
    · simp [h1]
    · by_cases h2 : p = i
      · subst h2; simp
      · rw [if_neg h1, if_neg (by omega), if_neg (by simp only [List.mem_cons, not_or]; exact ⟨fun h => h2 h.symm, h1⟩)]

theorem InArr.nonneg {l : List Int} (h : InArr l) : ∀ p ∈ l, 0 ≤ p := fun p hp => by
  obtain ⟨i, hi, rfl⟩ := List.mem_iff_getElem.1 hp
  have := (h i hi).1; rwa [getD_eq hi] at this
theorem InArr.lt {l : List Int} (h : InArr l) : ∀ p ∈ l, p < 30 := fun p hp => by
  obtain ⟨i, hi, rfl⟩ := List.mem_iff_getElem.1 hp
  have := (h i hi).2; rwa [getD_eq hi] at this

theorem blank_getD {i : Nat} (h : i < 30) : blank.getD i 0 = 48 := by unfold blank; rw [List.getD, List.getElem?_replicate, if_pos h]; rfl

theorem marked_getD {l : List Int} (h : InArr l) {i : Nat} (hi : i < 30) : (putAll 49 blank l).getD i 0 = if (i : Int) ∈ l then 49 else 48 := by
  rw [putAll_getD 49 l blank i h.nonneg (by rw [blank_length]; exact hi), blank_getD hi]

end Go.Proofs.Ytigkgfdnnfmmmaa

namespace Go.Proofs.Ytigkgfdnnfmmmaa
open Go.RowKit

def hasB (l : List Int) (x : Int) : Bool := decide (x ∈ l)
theorem hasB_true {l : List Int} {x : Int} {k : Nat} (hk : k < l.length) (h : l.getD k 0 = x) : hasB l x = true := by
  rw [getD_eq hk] at h; subst h
  exact decide_eq_true (List.getElem_mem hk)
theorem hasB_false {l : List Int} {x : Int} (h : ∀ i, i < l.length → l.getD i 0 ≠ x) : hasB l x = false := by
  refine decide_eq_false fun hm => ?_
  obtain ⟨i, hi, he⟩ := List.mem_iff_getElem.1 hm
  exact h i hi (by rw [getD_eq hi]; exact he)

end Go.Proofs.Ytigkgfdnnfmmmaa

namespace Go.Proofs.Ytigkgfdnnfmmmaa
open Go.RowKit

def meetB (a b : List Int) : Bool := a.any (hasB b)
theorem meetB_true {a b : List Int} {k : Nat} (hk : k < a.length) (h : hasB b (a.getD k 0) = true) : meetB a b = true := by
  unfold meetB
  rw [List.any_eq_true]
  exact ⟨a[k], List.getElem_mem hk, by rw [← getD_eq hk]; exact h⟩
theorem meetB_false {a b : List Int} (h : ∀ i, i < a.length → hasB b (a.getD i 0) = false) : meetB a b = false := by
  unfold meetB
  rw [List.any_eq_false]
  intro x hx
  obtain ⟨i, hi, rfl⟩ := List.mem_iff_getElem.1 hx
  rw [← getD_eq hi, h i hi]
  simp


end Go.Proofs.Ytigkgfdnnfmmmaa

namespace Go.Proofs.Ytigkgfdnnfmmmaa
open Go.RowKit

theorem riseB_in {p : Int} {l : List Int} (h : riseB 0 (p - 1) l = true) (hp : p ≤ 30) : InArr l := fun i hi => by
  have h1 := of_decide_eq_true h i hi
  omega
theorem goodN_parts {n : NetD} (h : goodN n = true) : 1 ≤ n.places ∧ n.places ≤ 30 ∧ n.ts.length ≤ 24 ∧ ∀ i, i < n.ts.length → (n.ts.getD i ([], [])).1 ≠ [] ∧ riseB 0 (n.places - 1) (n.ts.getD i ([], [])).1 = true ∧ riseB 0 (n.places - 1) (n.ts.getD i ([], [])).2 = true := by
  unfold goodN trsGood at h
  simp only [Bool.and_eq_true, decide_eq_true_eq, List.all_eq_true] at h
  obtain ⟨⟨⟨h1, h2⟩, h3⟩, h4⟩ := h
  refine ⟨h1, h2, h3, fun i hi => ?_⟩
  have h5 := h4 _ (List.getElem_mem hi)
  rw [trs_getD_eq hi]
  unfold trGood at h5
  simp only [Bool.and_eq_true, Bool.not_eq_true', List.isEmpty_eq_false_iff] at h5
  exact ⟨h5.1.1, h5.1.2, h5.2⟩
theorem goodN_in {n : NetD} (h : goodN n = true) {i : Nat} (hi : i < n.ts.length) : InArr (n.ts.getD i ([], [])).1 ∧ InArr (n.ts.getD i ([], [])).2 := by
  obtain ⟨_, h2, _, h4⟩ := goodN_parts h
  exact ⟨riseB_in (h4 i hi).2.1 h2, riseB_in (h4 i hi).2.2 h2⟩

theorem bytes_ext {xs ys : List UInt8} (hl : xs.length = ys.length) (h : ∀ i, i < xs.length → xs.getD i 0 = ys.getD i 0) : xs = ys := by
  apply List.ext_getElem hl
  intro i h1 h2
  have := h i h1
  simpa [List.getD, h1, h2] using this

theorem sorted_ext : ∀ (a b : List Int), a.Pairwise (· < ·) → b.Pairwise (· < ·) → (∀ x, x ∈ a ↔ x ∈ b) → a = b
  | [], b, _, _, h => by
    cases b with
    | nil => rfl
    | cons y b => exact absurd ((h y).2 (List.mem_cons_self ..)) (by simp)
  | x :: a, [], _, _, h => absurd ((h x).1 (List.mem_cons_self ..)) (by simp)
  | x :: a, y :: b, ha, hb, h => by
    have ha' := List.pairwise_cons.1 ha
    have hb' := List.pairwise_cons.1 hb
    have hxy : x = y := by
      have h1 := (h x).1 (List.mem_cons_self ..)
      have h2 := (h y).2 (List.mem_cons_self ..)
      rcases List.mem_cons.1 h1 with e | e
      · exact e
      · rcases List.mem_cons.1 h2 with e2 | e2
        · exact e2.symm
        · have := hb'.1 x e; have := ha'.1 y e2; omega
    subst hxy
    rw [sorted_ext a b ha'.2 hb'.2 fun z => ?_]
    constructor
    · intro hz
      rcases List.mem_cons.1 ((h z).1 (List.mem_cons_of_mem _ hz)) with e | e
      · subst e; have := ha'.1 z hz; omega
      · exact e
    · intro hz
      rcases List.mem_cons.1 ((h z).2 (List.mem_cons_of_mem _ hz)) with e | e
      · subst e; have := hb'.1 z hz; omega
      · exact e

theorem riseB_sorted {lo hi : Int} {l : List Int} (h : riseB lo hi l = true) : l.Pairwise (· < ·) := by
  have h1 : RiseTo lo hi l l.length := of_decide_eq_true h
  have step : ∀ j, j < l.length → ∀ i, i < j → l.getD i 0 < l.getD j 0 := by
    intro j
    induction j with
    | zero => intro _ i hi; exact absurd hi (Nat.not_lt_zero _)
    | succ j ih =>
      intro hj i hi
      have h2 := (h1 (j + 1) hj).2.2 (Nat.succ_pos _)
      rw [Nat.add_sub_cancel] at h2
      by_cases e : i = j
      · subst e; exact h2
      · have := ih (by omega) i (by omega); omega
  rw [List.pairwise_iff_getElem]
  intro i j hi hj hij
  have := step j hj i hij
  rwa [getD_eq hi, getD_eq hj] at this

theorem marked_eq {a b : List Int} (ha : InArr a) (hb : InArr b) (sa : a.Pairwise (· < ·)) (sb : b.Pairwise (· < ·)) : (putAll 49 blank a == putAll 49 blank b) = decide (a = b) := by
  by_cases h : a = b
  · subst h; simp
  · rw [decide_eq_false h]
    refine beq_eq_false_iff_ne.2 fun he => h (sorted_ext a b sa sb fun x => ?_)
    have key : ∀ i : Nat, i < 30 → ((i : Int) ∈ a ↔ (i : Int) ∈ b) := fun i hi => by
      have h1 := marked_getD ha hi
      rw [he, marked_getD hb hi] at h1
      by_cases c1 : (i : Int) ∈ a <;> by_cases c2 : (i : Int) ∈ b <;> simp_all
    constructor
    · intro hx
      have h0 := ha.nonneg x hx
      obtain ⟨q, rfl⟩ := Int.eq_ofNat_of_zero_le h0
      exact (key q (by have := ha.lt _ hx; omega)).1 hx
    · intro hx
      have h0 := hb.nonneg x hx
      obtain ⟨q, rfl⟩ := Int.eq_ofNat_of_zero_le h0
      exact (key q (by have := hb.lt _ hx; omega)).2 hx

theorem unmarked_eq {xs : List UInt8} (hx : xs.length = 30) {b : List Int} (hb : InArr b) : (putAll 48 xs b == xs) = decide (∀ p ∈ b, xs.getD p.toNat 0 = 48) := by
  by_cases h : ∀ p ∈ b, xs.getD p.toNat 0 = 48
  · rw [decide_eq_true h]
    refine beq_iff_eq.2 (bytes_ext (putAll_length _ _ _) fun i hi => ?_)
    rw [putAll_length] at hi
    rw [putAll_getD 48 b xs i hb.nonneg hi]
    by_cases c : (i : Int) ∈ b
    · rw [if_pos c]; exact (h i c).symm
    · rw [if_neg c]
  · rw [decide_eq_false h]
    refine beq_eq_false_iff_ne.2 fun he => h fun p hp => ?_
    have h0 := hb.nonneg p hp
    have h1 := hb.lt p hp
    have h2 := putAll_getD 48 b xs p.toNat hb.nonneg (by omega)
    rw [he, if_pos (by rw [Int.toNat_of_nonneg h0]; exact hp)] at h2
    exact h2

theorem disjoint_eq {a b : List Int} (ha : InArr a) (hb : InArr b) : (putAll 48 (putAll 49 blank a) b == putAll 49 blank a) = !meetB a b := by
  rw [unmarked_eq (by rw [putAll_length]; exact blank_length) hb]
  by_cases h : meetB a b = true
  · rw [h, decide_eq_false]
    · rfl
    · intro hh
      unfold meetB at h
      rw [List.any_eq_true] at h
      obtain ⟨x, hx, hxb⟩ := h
      have hxb' : x ∈ b := of_decide_eq_true hxb
      have h1 := hh x hxb'
      have h0 := ha.nonneg x hx
      rw [marked_getD ha (by have := ha.lt x hx; omega), if_pos (by rw [Int.toNat_of_nonneg h0]; exact hx)] at h1
      revert h1; decide
  · have h' : meetB a b = false := by simpa using h
    rw [h', decide_eq_true]
    · rfl
    · intro p hp
      have h0 := hb.nonneg p hp
      rw [marked_getD ha (by have := hb.lt p hp; omega), if_neg]
      intro hc
      rw [Int.toNat_of_nonneg h0] at hc
      apply h
      unfold meetB
      rw [List.any_eq_true]
      exact ⟨p, hc, decide_eq_true hp⟩

theorem meetB_comm (a b : List Int) : meetB a b = meetB b a := by
  rw [Bool.eq_iff_iff]
  unfold meetB hasB
  simp only [List.any_eq_true, decide_eq_true_eq]
  exact ⟨fun ⟨x, h1, h2⟩ => ⟨x, h2, h1⟩, fun ⟨x, h1, h2⟩ => ⟨x, h2, h1⟩⟩

end Go.Proofs.Ytigkgfdnnfmmmaa
