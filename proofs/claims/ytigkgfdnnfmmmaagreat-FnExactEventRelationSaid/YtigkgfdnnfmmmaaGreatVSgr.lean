/- WALKS: szSignal, szSignalS, eqSignal, eqSignalS of the laws.
   WALKS: szStringS, eqStringS of the laws.
   WALKS: szArcS, szStateGraph, eqArc, eqArcS, eqStateGraph of the laws.
   PLAIN PART: which states are reached along arcs: passes over the arcs, and why as many passes as there are states suffice. No program is named here. -/
import Derived.Test.YtigkgfdnnfmmmaaGreatVRgd
import Derived.Test.YtigkgfdnnfmmmaaGreatVNetc
import Derived.Test.YtigkgfdnnfmmmaaGreatVNetb
namespace Go.Proofs.YtigkgfdnnfmmmaaGreat
open Go.RowKit

theorem sig_getD {zs : List Sig} {i : Nat} (h : i < zs.length) : (sgN zs i, sgK zs i) = zs[i] := by simp [sgN, sgK, List.getD, h]
theorem take_succ_of {α : Type} {zs ys : List α} {k : Nat} (hk : k < zs.length) (hy : k < ys.length) (h : zs.take k = ys.take k) (he : zs[k] = ys[k]) : zs.take (k + 1) = ys.take (k + 1) := by
  rw [List.take_succ_eq_append_getElem hk, List.take_succ_eq_append_getElem hy, h, he]
theorem list_ne_of {α : Type} {zs ys : List α} {k : Nat} (hk : k < zs.length) (hy : k < ys.length) (he : zs[k] ≠ ys[k]) : zs ≠ ys := by
  rintro rfl; exact he rfl

end Go.Proofs.YtigkgfdnnfmmmaaGreat

namespace Go.Proofs.YtigkgfdnnfmmmaaGreat
open Go.RowKit

theorem stN_ne {zs ys : List ByteArray} {k : Nat} (he : ¬ stN zs k = stN ys k) : decide (zs = ys) = false := by
  rw [decide_eq_false_iff_not]; rintro rfl; exact he rfl
theorem stN_succ {zs ys : List ByteArray} {k : Nat} (hk : k < zs.length) (hy : k < ys.length) (h : zs.take k = ys.take k) (he : stN zs k = stN ys k) : zs.take (k + 1) = ys.take (k + 1) :=
  take_succ_of hk hy h (by rw [← stN_getD hk, ← stN_getD hy]; exact he)

end Go.Proofs.YtigkgfdnnfmmmaaGreat

namespace Go.Proofs.YtigkgfdnnfmmmaaGreat
open Go.RowKit

def eqSgB (r r' : SgD) : Bool := decide (r.sigs = r'.sigs) && (decide (r.codes = r'.codes) && decide (r.arcs = r'.arcs))
theorem eqSgB_self (r : SgD) : eqSgB r r = true := by simp [eqSgB]

end Go.Proofs.YtigkgfdnnfmmmaaGreat

namespace Go.Proofs.YtigkgfdnnfmmmaaGreat
open Go.RowKit

def upB (m : Nat → Bool) (t : Nat) : Nat → Bool := fun k => if k = t then true else m k
/-- one arc is looked at -/
def metArc (m : Nat → Bool) (f t : Int) : Nat → Bool := if m f.toNat then upB m t.toNat else m
/-- the first j arcs are looked at -/
def metTo (ms : List Ar) (m : Nat → Bool) : Nat → Nat → Bool
  | 0 => m
  | j + 1 => metArc (metTo ms m j) (arF ms j) (arT ms j)
def metPass (ms : List Ar) (m : Nat → Bool) : Nat → Bool := metTo ms m ms.length
def metN (ms : List Ar) : Nat → Nat → Bool
  | 0 => fun k => decide (k = 0)
  | p + 1 => metPass ms (metN ms p)
/-- all n states are reached -/
def allMet (n : Nat) (ms : List Ar) : Bool := (List.range n).all (metN ms n)

/-- a set of states that no arc leaves -/
def Shut (ms : List Ar) (S : Nat → Prop) : Prop := ∀ i, i < ms.length → S (arF ms i).toNat → S (arT ms i).toNat

theorem metArc_mono {m : Nat → Bool} {f t : Int} {k : Nat} (h : m k = true) : metArc m f t k = true := by
  unfold metArc
  by_cases hf : m f.toNat = true
  · rw [if_pos hf]
    unfold upB
    by_cases e : k = t.toNat
    · rw [if_pos e]
    · rw [if_neg e]; exact h
  · rw [if_neg hf]; exact h
theorem metTo_mono {ms : List Ar} {m : Nat → Bool} {k : Nat} (h : m k = true) : ∀ j, metTo ms m j k = true
  | 0 => h
  | j + 1 => metArc_mono (metTo_mono h j)
theorem metTo_more {ms : List Ar} {m : Nat → Bool} {k i : Nat} (h : metTo ms m i k = true) : ∀ d, metTo ms m (i + d) k = true
  | 0 => h
  | d + 1 => metArc_mono (metTo_more h d)
theorem metTo_hit {ms : List Ar} {m : Nat → Bool} {i : Nat} (hi : i < ms.length) (h : m (arF ms i).toNat = true) : metPass ms m (arT ms i).toNat = true := by
  have h1 : metTo ms m (i + 1) (arT ms i).toNat = true := by
    show metArc _ _ _ _ = true
    unfold metArc
    rw [if_pos (metTo_mono h i)]
    simp [upB]
  have := metTo_more h1 (ms.length - (i + 1))
  rw [show i + 1 + (ms.length - (i + 1)) = ms.length by omega] at this
  exact this
theorem metTo_sound {ms : List Ar} {m : Nat → Bool} {S : Nat → Prop} (hS : Shut ms S) (h : ∀ k, m k = true → S k) : ∀ j, j ≤ ms.length → ∀ k, metTo ms m j k = true → S k
  | 0, _, k, hk => h k hk
  | j + 1, hj, k, hk => by
    have ih := metTo_sound hS h j (by omega)
    have hk : metArc (metTo ms m j) (arF ms j) (arT ms j) k = true := hk
    unfold metArc at hk
    by_cases hf : metTo ms m j (arF ms j).toNat = true
    · rw [if_pos hf] at hk
      unfold upB at hk
      by_cases e : k = (arT ms j).toNat
      · subst e; exact hS j (by omega) (ih _ hf)
      · rw [if_neg e] at hk; exact ih k hk
    · rw [if_neg hf] at hk; exact ih k hk
theorem metN_sound {ms : List Ar} {S : Nat → Prop} (hS : Shut ms S) (h0 : S 0) : ∀ p k, metN ms p k = true → S k
  | 0, k, hk => by
    have : k = 0 := of_decide_eq_true hk
    subst this; exact h0
  | p + 1, k, hk => metTo_sound hS (metN_sound hS h0 p) ms.length (Nat.le_refl _) k hk
theorem metN_zero {ms : List Ar} : ∀ p, metN ms p 0 = true
  | 0 => rfl
  | p + 1 => metTo_mono (metN_zero p) _

def cntB (n : Nat) (m : Nat → Bool) : Nat := ((List.range n).filter m).length
theorem cntB_succ (n : Nat) (m : Nat → Bool) : cntB (n + 1) m = cntB n m + if m n = true then 1 else 0 := by
  unfold cntB
  rw [List.range_succ, List.filter_append, List.length_append]
  congr 1
  by_cases h : m n = true
  · rw [if_pos h, List.filter_cons_of_pos h]; rfl
  · rw [if_neg h, List.filter_cons_of_neg h]; rfl
theorem cntB_le : ∀ (n : Nat) (m : Nat → Bool), cntB n m ≤ n
  | 0, _ => Nat.le_refl _
  | n + 1, m => by
    rw [cntB_succ]
    have := cntB_le n m
    split <;> omega
theorem cntB_mono {m m' : Nat → Bool} (h : ∀ k, m k = true → m' k = true) : ∀ n, cntB n m ≤ cntB n m'
  | 0 => Nat.le_refl _
  | n + 1 => by
    rw [cntB_succ, cntB_succ]
    have := cntB_mono h n
    by_cases e : m n = true
    · rw [if_pos e, if_pos (h n e)]; omega
    · rw [if_neg e]; split <;> omega
theorem cntB_lt {m m' : Nat → Bool} (h : ∀ k, m k = true → m' k = true) {t : Nat} (h1 : ¬ m t = true) (h2 : m' t = true) : ∀ n, t < n → cntB n m + 1 ≤ cntB n m'
  | 0, ht => absurd ht (Nat.not_lt_zero _)
  | n + 1, ht => by
    rw [cntB_succ, cntB_succ]
    by_cases e : t = n
    · subst e
      have := cntB_mono h t
      rw [if_neg h1, if_pos h2]; omega
    · have := cntB_lt h h1 h2 n (by omega)
      by_cases e2 : m n = true
      · rw [if_pos e2, if_pos (h n e2)]; omega
      · rw [if_neg e2]; split <;> omega
theorem cntB_zero {m : Nat → Bool} (h : m 0 = true) : ∀ n, 1 ≤ n → 1 ≤ cntB n m
  | 0, h1 => absurd h1 (by omega)
  | n + 1, _ => by
    rw [cntB_succ]
    by_cases e : n = 0
    · subst e; rw [if_pos h]; omega
    · have := cntB_zero h n (by omega)
      omega

theorem metN_shut {ms : List Ar} {n : Nat} (hn : 1 ≤ n) (hT : ∀ i, i < ms.length → (arT ms i).toNat < n) : ∀ p, Shut ms (fun k => metN ms p k = true) ∨ p + 1 ≤ cntB n (metN ms p)
  | 0 => Or.inr (cntB_zero (metN_zero 0) n hn)
  | p + 1 => by
    by_cases hs : Shut ms (fun k => metN ms p k = true)
    · left
      intro i hi hf
      exact metTo_mono (hs i hi (metTo_sound hs (fun k hk => hk) ms.length (Nat.le_refl _) _ hf)) _
    · rcases metN_shut hn hT p with h | h
      · exact absurd h hs
      · right
        have : ∃ i, i < ms.length ∧ metN ms p (arF ms i).toNat = true ∧ ¬ metN ms p (arT ms i).toNat = true := by
          false_or_by_contra
          rename_i hno
          refine hs (fun i hi hf => ?_)
          false_or_by_contra
          rename_i h2
          exact hno ⟨i, hi, hf, h2⟩
        obtain ⟨i, hi, hf, ht⟩ := this
        have := cntB_lt (m' := metN ms (p + 1)) (fun k hk => metTo_mono hk _) ht (metTo_hit hi hf) n (hT i hi)
        omega
theorem metN_done {ms : List Ar} {n : Nat} (hn : 1 ≤ n) (hT : ∀ i, i < ms.length → (arT ms i).toNat < n) : Shut ms (fun k => metN ms n k = true) := by
  rcases metN_shut hn hT n with h | h
  · exact h
  · have := cntB_le n (metN ms n)
    omega

/-- reached, said without a walk: in every set that no arc leaves and that holds state 0 -/
def Reached (ms : List Ar) (k : Nat) : Prop := ∀ S : Nat → Prop, S 0 → Shut ms S → S k
theorem metN_iff {ms : List Ar} {n : Nat} (hn : 1 ≤ n) (hT : ∀ i, i < ms.length → (arT ms i).toNat < n) (k : Nat) : metN ms n k = true ↔ Reached ms k :=
  ⟨fun h _ h0 hS => metN_sound hS h0 n k h, fun h => h _ (metN_zero n) (metN_done hn hT)⟩
theorem allMet_iff {ms : List Ar} {n : Nat} (hn : 1 ≤ n) (hT : ∀ i, i < ms.length → (arT ms i).toNat < n) : allMet n ms = true ↔ ∀ k, k < n → Reached ms k := by
  unfold allMet
  rw [List.all_eq_true]
  constructor
  · intro h k hk; exact (metN_iff hn hT k).1 (h k (by simpa using hk))
  · intro h k hk; exact (metN_iff hn hT k).2 (h k (by simpa using hk))
/-- any search that ends with a set that holds 0, that no arc leaves, and that holds only what is reached -/
theorem allMet_of {ms : List Ar} {n : Nat} (hn : 1 ≤ n) (hT : ∀ i, i < ms.length → (arT ms i).toNat < n) {V : Nat → Bool} (h0 : V 0 = true) (hs : Shut ms (fun k => V k = true)) (hr : ∀ k, V k = true → Reached ms k) : allMet n ms = (List.range n).all V := by
  rw [Bool.eq_iff_iff, allMet_iff hn hT, List.all_eq_true]
  constructor
  · intro h k hk; exact h k (by simpa using hk) _ h0 hs
  · intro h k hk; exact hr k (h k (by simpa using hk))

end Go.Proofs.YtigkgfdnnfmmmaaGreat
