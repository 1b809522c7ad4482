/- What marked arrays hold (out of Pur). -/
import Derived.Test.YtigkgfdnnfmmmaaVBlk
import Derived.Test.YtigkgfdnnfmmmaaVArr
namespace Go.Proofs.Ytigkgfdnnfmmmaa
open Go.RowKit

theorem set_getD (xs : List UInt8) (q i : Nat) (v : UInt8) (hi : i < xs.length) : (xs.set q v).getD i 0 = if q = i then v else xs.getD i 0 := by
  simp only [List.getD, List.getElem?_set]
  by_cases h : q = i
  · subst h; simp [hi]
  · simp [h]

theorem putAll_getD (v : UInt8) : ∀ (ps : List Int) (xs : List UInt8) (i : Nat), (∀ p ∈ ps, 0 ≤ p) → i < xs.length → (putAll v xs ps).getD i 0 = if (i : Int) ∈ ps then v else xs.getD i 0
  | [], xs, i, _, _ => by simp [putAll]
  | p :: ps, xs, i, hp, hi => by
    have ih := putAll_getD v ps (xs.set p.toNat v) i (fun q hq => hp q (List.mem_cons_of_mem _ hq)) (by simpa using hi)
    have e : putAll v xs (p :: ps) = putAll v (xs.set p.toNat v) ps := rfl
    rw [e, ih, set_getD _ _ _ _ hi]
    have h0 := hp p (List.mem_cons_self ..)
    by_cases h1 : (i : Int) ∈ ps
    · simp [h1]
    · by_cases h2 : p = i
      · subst h2; simp
      · rw [if_neg h1, if_neg (by omega), if_neg (by simp only [List.mem_cons, not_or]; exact ⟨fun h => h2 h.symm, h1⟩)]

theorem InArr.nonneg {l : List Int} (h : InArr l) : ∀ p ∈ l, 0 ≤ p := fun p hp => by
  obtain ⟨i, hi, rfl⟩ := List.mem_iff_getElem.1 hp
  have := (h i hi).1; rwa [getD_eq hi] at this
theorem InArr.lt {l : List Int} (h : InArr l) : ∀ p ∈ l, p < 30 := fun p hp => by
  obtain ⟨i, hi, rfl⟩ := List.mem_iff_getElem.1 hp
  have := (h i hi).2; rwa [getD_eq hi] at this

theorem blank_getD {i : Nat} (h : i < 30) : blank.getD i 0 = 48 := by unfold blank; rw [List.getD, List.getElem?_replicate, if_pos h]; rfl

theorem marked_getD {l : List Int} (h : InArr l) {i : Nat} (hi : i < 30) : (putAll 49 blank l).getD i 0 = if (i : Int) ∈ l then 49 else 48 := by
  rw [putAll_getD 49 l blank i h.nonneg (by rw [blank_length]; exact hi), blank_getD hi]

end Go.Proofs.Ytigkgfdnnfmmmaa
