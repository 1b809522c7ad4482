/- APPEND of one int at a time: what the row of the numbers that pass a test is; rows that are owned read, and may be written.
   PLAIN PART: passes over moves backwards from a place; which places are reached from every place. No program is named here. -/
import Derived.Test.YtfipnlehaklepaaVApp
import Derived.Test.YtfipnlehaklepaaVOwn
import Derived.Lib.BufferOwn
import Derived.Lib.SmallJoins
import Derived.Test.YtfipnlehaklepaaVSgr
import Derived.Test.YtfipnlehaklepaaVBfs
import Derived.Test.YtfipnlehaklepaaVRgp
import Derived.Test.YtfipnlehaklepaaVNxt
namespace Go.Proofs.Ytfipnlehaklepaa
open Go.RowKit

theorem owns_after {w w' : World} {B : Nat} {e : TypeId} {size : Nat} {v : Value} {n : Nat} {xs : List Value} (h : w.ownsRow B e size v n xs) (hb : Below w.heap.size w w') : w'.ownsRow B e size v n xs := by
  refine h.kept (row := none) ⟨hb.os, hb.tape, hb.output, hb.size, fun i hi _ => hb.block i hi⟩ ?_
  cases v.ownBlock with
  | none => exact Or.inl rfl
  | some k => exact Or.inr (by simp)

theorem ints_one (w : World) (e : TypeId) (z : Int) : IntsAt 0 (w.alloc (.cells #[.int .i64 z] e)) (.slice (some ⟨w.heap.size, 0, none⟩) 1 1) [z] := by
  refine ⟨_, 1, rfl, Nat.le_refl _, Or.inr ⟨w.heap.size, 0, rfl, Nat.zero_le _, fun i hi => ?_⟩⟩
  have h0 : i = 0 := by simp at hi; omega
  subst h0
  simp

/-- the numbers below k at which f is true -/
def enTo (f : Nat → Bool) (k : Nat) : List Int := ((List.range k).filter f).map Int.ofNat
theorem enTo_zero (f : Nat → Bool) : enTo f 0 = [] := rfl
theorem enTo_true {f : Nat → Bool} {k : Nat} (h : f k = true) : enTo f (k + 1) = enTo f k ++ [(k : Int)] := by
  unfold enTo
  rw [List.range_succ, List.filter_append, List.filter_cons_of_pos h, List.filter_nil, List.map_append]
  rfl
theorem enTo_false {f : Nat → Bool} {k : Nat} (h : f k = false) : enTo f (k + 1) = enTo f k := by
  unfold enTo
  rw [List.range_succ, List.filter_append, List.filter_cons_of_neg (by simp [h]), List.filter_nil, List.append_nil]
theorem enTo_length (f : Nat → Bool) (k : Nat) : (enTo f k).length ≤ k := by
  unfold enTo
  rw [List.length_map]
  exact Nat.le_trans (List.length_filter_le _ _) (by simp)

theorem ow_of_owns {w : World} {base : Nat} {v : Value} {zs : List Int} (h : w.ownsRow base 3 1 v zs.length (intCells zs)) : IntsOw base w v zs := by
  have h0 := h
  rcases h.2 with ⟨rfl, hn⟩ | ⟨g, cap, cur, rfl, hb, hg, hnc, _, _, _⟩
  · have hz : zs = [] := List.eq_nil_of_length_eq_zero hn
    subst hz
    exact ⟨_, _, rfl, Nat.le_refl _, Or.inl rfl⟩
  · refine ⟨_, _, rfl, hnc, Or.inr ⟨g, 0, rfl, hb, fun i hi => ⟨?_, ?_⟩⟩⟩
    · rw [Nat.zero_add, h0.cellAt i (by omega)]
      exact intCells_get hi
    · exact h0.frozenAt _
theorem ow_nil (w : World) (lo : Nat) : IntsOw lo w (.slice none 0 0) [] := ⟨none, 0, rfl, Nat.le_refl _, Or.inl rfl⟩

theorem ints_nil (w : World) (lo : Nat) : IntsAt lo w (.slice none 0 0) [] := ⟨none, 0, rfl, Nat.le_refl _, Or.inl rfl⟩

end Go.Proofs.Ytfipnlehaklepaa

namespace Go.Proofs.Ytfipnlehaklepaa
open Go.RowKit

/-- the first j moves are looked at, from their ends to their beginnings -/
def bkTo (ms : List Mv) (m : Nat → Bool) : Nat → Nat → Bool
  | 0 => m
  | j + 1 => metArc (bkTo ms m j) (mvT ms j) (mvF ms j)
def bkN (ms : List Mv) (s : Nat) : Nat → Nat → Bool
  | 0 => fun k => decide (k = s)
  | p + 1 => bkTo ms (bkN ms s p) ms.length
def ShutB (ms : List Mv) (S : Nat → Prop) : Prop := ∀ i, i < ms.length → S (mvT ms i).toNat → S (mvF ms i).toNat
theorem bkTo_mono {ms : List Mv} {m : Nat → Bool} {k : Nat} (h : m k = true) : ∀ j, bkTo ms m j k = true
  | 0 => h
  | j + 1 => metArc_mono (bkTo_mono h j)
theorem bkTo_more {ms : List Mv} {m : Nat → Bool} {k i : Nat} (h : bkTo ms m i k = true) : ∀ d, bkTo ms m (i + d) k = true
  | 0 => h
  | d + 1 => metArc_mono (bkTo_more h d)
theorem bkTo_hit {ms : List Mv} {m : Nat → Bool} {i : Nat} (hi : i < ms.length) (h : m (mvT ms i).toNat = true) : bkTo ms m ms.length (mvF ms i).toNat = true := by
  have h1 : bkTo ms m (i + 1) (mvF ms i).toNat = true := by
    show metArc _ _ _ _ = true
    unfold metArc
    rw [if_pos (bkTo_mono h i)]
    simp [upB]
  have := bkTo_more h1 (ms.length - (i + 1))
  rw [show i + 1 + (ms.length - (i + 1)) = ms.length by omega] at this
  exact this
theorem bkTo_sound {ms : List Mv} {m : Nat → Bool} {S : Nat → Prop} (hS : ShutB ms S) (h : ∀ k, m k = true → S k) : ∀ j, j ≤ ms.length → ∀ k, bkTo ms m j k = true → S k
  | 0, _, k, hk => h k hk
  | j + 1, hj, k, hk => by
    have ih := bkTo_sound hS h j (by omega)
    have hk : metArc (bkTo ms m j) (mvT ms j) (mvF ms j) k = true := hk
    unfold metArc at hk
    by_cases hf : bkTo ms m j (mvT ms j).toNat = true
    · rw [if_pos hf] at hk
      unfold upB at hk
      by_cases e : k = (mvF ms j).toNat
      · subst e; exact hS j (by omega) (ih _ hf)
      · rw [if_neg e] at hk; exact ih k hk
    · rw [if_neg hf] at hk; exact ih k hk
theorem bkN_sound {ms : List Mv} {S : Nat → Prop} {s : Nat} (hS : ShutB ms S) (h0 : S s) : ∀ p k, bkN ms s p k = true → S k
  | 0, k, hk => by
    have : k = s := of_decide_eq_true hk
    subst this; exact h0
  | p + 1, k, hk => bkTo_sound hS (bkN_sound hS h0 p) ms.length (Nat.le_refl _) k hk
theorem bkN_self {ms : List Mv} {s : Nat} : ∀ p, bkN ms s p s = true
  | 0 => decide_eq_true rfl
  | p + 1 => bkTo_mono (bkN_self p) _
theorem cntB_some {m : Nat → Bool} {s n : Nat} (hs : s < n) (h : m s = true) : 1 ≤ cntB n m := by
  have := cntB_lt (m := fun _ => false) (m' := m) (fun k hk => by simp at hk) (t := s) (by simp) h n hs
  omega
theorem bkN_shut {ms : List Mv} {n s : Nat} (hs : s < n) (hT : ∀ i, i < ms.length → (mvF ms i).toNat < n) : ∀ p, ShutB ms (fun k => bkN ms s p k = true) ∨ p + 1 ≤ cntB n (bkN ms s p)
  | 0 => Or.inr (cntB_some hs (bkN_self 0))
  | p + 1 => by
    by_cases hsh : ShutB ms (fun k => bkN ms s p k = true)
    · left
      intro i hi hf
      exact bkTo_mono (hsh i hi (bkTo_sound hsh (fun k hk => hk) ms.length (Nat.le_refl _) _ hf)) _
    · rcases bkN_shut hs hT p with h | h
      · exact absurd h hsh
      · right
        have : ∃ i, i < ms.length ∧ bkN ms s p (mvT ms i).toNat = true ∧ ¬ bkN ms s p (mvF ms i).toNat = true := by
          false_or_by_contra
          rename_i hno
          refine hsh (fun i hi hf => ?_)
          false_or_by_contra
          rename_i h2
          exact hno ⟨i, hi, hf, h2⟩
        obtain ⟨i, hi, hf, ht⟩ := this
        have := cntB_lt (m' := bkN ms s (p + 1)) (fun k hk => bkTo_mono hk _) ht (bkTo_hit hi hf) n (hT i hi)
        omega
/-- from q there is a way to k -/
def bk (ms : List Mv) (n k q : Nat) : Bool := bkN ms k n q
theorem Lev_cons {L : Nat → List Int} {a b : Nat} (h : (b : Int) ∈ L a) : ∀ d k, Lev L b d k → Lev L a (d + 1) k
  | 0, k, hk => by
    have : k = b := hk
    subst this
    exact Or.inr ⟨a, rfl, h⟩
  | d + 1, k, hk => by
    rcases hk with hk | ⟨p, hp, hkp⟩
    · exact Or.inl (Lev_cons h d k hk)
    · exact Or.inr ⟨p, Lev_cons h d p hp, hkp⟩
theorem bk_iff {ms : List Mv} {n k q : Nat} (hk : k < n) (hin : ∀ i, i < ms.length → (0 ≤ mvF ms i ∧ mvF ms i < n) ∧ (0 ≤ mvT ms i ∧ mvT ms i < n)) : bk ms n k q = true ↔ ∃ d, Lev (tgL ms) q d k := by
  have hT : ∀ i, i < ms.length → (mvF ms i).toNat < n := fun i hi => by have := (hin i hi).1; omega
  constructor
  · intro h
    refine bkN_sound (S := fun q => ∃ d, Lev (tgL ms) q d k) ?_ ⟨0, rfl⟩ n q h
    rintro i hi ⟨d, hd⟩
    refine ⟨d + 1, Lev_cons ?_ d k hd⟩
    refine (mem_tgTo _).2 ⟨i, hi, rfl, ?_⟩
    have := (hin i hi).2
    omega
  · rintro ⟨d, hd⟩
    have hsh : ShutB ms (fun q => bkN ms k n q = true) := by
      rcases bkN_shut hk hT n with h | h
      · exact h
      · have := cntB_le n (bkN ms k n); omega
    have main : ∀ d x, Lev (tgL ms) q d x → bkN ms k n x = true → bkN ms k n q = true := by
      intro d
      induction d with
      | zero => intro x hx h; have : x = q := hx; subst this; exact h
      | succ d ih =>
        intro x hx h
        rcases hx with hx | ⟨p, hp, hxp⟩
        · exact ih x hx h
        · obtain ⟨i, hi, h1, h2⟩ := (mem_tgTo _).1 hxp
          refine ih p hp ?_
          have := hsh i hi (by rw [h2]; simpa using h)
          rw [h1] at this
          exact this
    exact main d k hd (bkN_self n)
theorem dist_bk {ms : List Mv} {n k q : Nat} {D : Nat → Int} (hk : k < n) (hin : ∀ i, i < ms.length → (0 ≤ mvF ms i ∧ mvF ms i < n) ∧ (0 ≤ mvT ms i ∧ mvT ms i < n)) (hD : Dist n (tgL ms) q D) : bk ms n k q = decide (0 ≤ D k) := by
  rw [Bool.eq_iff_iff, bk_iff hk hin, decide_eq_true_eq]
  exact ⟨fun ⟨d, hd⟩ => ((hD k hk).2.2.2 d hd).1, fun h => ⟨_, (hD k hk).2.2.1 h⟩⟩
theorem cntB_full {n : Nat} {g : Nat → Bool} : decide (cntB n g = n) = (List.range n).all g := by
  rw [Bool.eq_iff_iff, decide_eq_true_eq, List.all_eq_true]
  constructor
  · intro h k hk
    false_or_by_contra
    rename_i hn
    have := cntB_lt (m := g) (m' := fun _ => true) (fun _ _ => rfl) hn rfl n (by simpa using hk)
    have := cntB_le n (fun _ => true)
    omega
  · intro h
    have h2 : ∀ m, m ≤ n → cntB m g = m := by
      intro m
      induction m with
      | zero => intro _; rfl
      | succ m ih => intro hm; rw [cntB_succ, ih (by omega), if_pos (h m (by simp; omega))]
    exact h2 n (Nat.le_refl _)

/-- the home states -/
def hmF (r : RgD) (k : Nat) : Bool := (List.range r.marks.length).all (bk r.moves r.marks.length k)
def hmL (r : RgD) : List Int := if goodR r = true then enTo (hmF r) r.marks.length else []
theorem hmL_no {r : RgD} (h : goodR r = false) : hmL r = [] := by unfold hmL; rw [h]; rfl
theorem hmL_yes {r : RgD} (h : goodR r = true) : hmL r = enTo (hmF r) r.marks.length := by unfold hmL; rw [h]; rfl
theorem hmL_small {r : RgD} (h : SmallRg r) : (hmL r).length ≤ 1048576 := by
  unfold hmL
  by_cases hb : goodR r = true
  · rw [if_pos hb]; exact Nat.le_trans (enTo_length _ _) h.1.1
  · rw [if_neg hb]; exact Nat.zero_le _

end Go.Proofs.Ytfipnlehaklepaa
