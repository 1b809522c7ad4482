/- PLAIN PART: which mark stands first, whether all marks differ (told by the size of a set of them), which moves are in bounds: what a valid reachability graph is. No program is named here.
   PLAIN PART: passes over moves backwards from a place; which places are reached from every place. No program is named here. -/
import Derived.Test.YtnmoocgocnjdjaaGreatVNetb
import Derived.Maps.Views
import Derived.Test.YtnmoocgocnjdjaaGreatVSgp
import Derived.Test.YtnmoocgocnjdjaaGreatVBfs
import Derived.Test.YtnmoocgocnjdjaaGreatVNxt
import Derived.Test.YtnmoocgocnjdjaaGreatVApb
namespace Go.Proofs.YtnmoocgocnjdjaaGreat
open Go.RowKit Go.Maps

/-! the first place of a string -/
def findN (ss : List ByteArray) (m : ByteArray) : Nat := ss.findIdx (fun x => decide (x = m))
def findI (ss : List ByteArray) (m : ByteArray) : Int := if findN ss m < ss.length then (findN ss m : Int) else -1
theorem findI_at {ss : List ByteArray} {m : ByteArray} {k : Nat} (hk : k < ss.length) (h : ∀ j, j < k → stN ss j ≠ m) (he : stN ss k = m) : findI ss m = k := by
  have : findN ss m = k := by
    unfold findN
    rw [List.findIdx_eq hk]
    refine ⟨by rw [← stN_getD hk]; simpa using he, fun j hj => ?_⟩
    rw [← stN_getD (by omega)]
    simpa using h j hj
  unfold findI
  rw [this, if_pos hk]
theorem findI_none {ss : List ByteArray} {m : ByteArray} (h : ∀ j, j < ss.length → stN ss j ≠ m) : findI ss m = -1 := by
  have : findN ss m = ss.length := by
    unfold findN
    rw [List.findIdx_eq_length]
    intro x hx
    obtain ⟨j, hj, rfl⟩ := List.getElem_of_mem hx
    have := h j hj
    rw [stN_getD hj] at this
    simpa using this
  unfold findI
  rw [this, if_neg (Nat.lt_irrefl _)]
theorem findI_bd (ss : List ByteArray) (m : ByteArray) : -1 ≤ findI ss m ∧ findI ss m < ss.length := by
  unfold findI
  split <;> omega
theorem findI_pos_iff {ss : List ByteArray} {m : ByteArray} : 0 ≤ findI ss m ↔ ∃ j, j < ss.length ∧ stN ss j = m := by
  constructor
  · intro h
    false_or_by_contra
    rename_i hn
    rw [findI_none (fun j hj he => hn ⟨j, hj, he⟩)] at h
    omega
  · rintro ⟨j, hj, he⟩
    unfold findI
    have : findN ss m < ss.length := by
      unfold findN
      rw [List.findIdx_lt_length]
      exact ⟨ss[j], List.getElem_mem hj, by rw [← stN_getD hj]; simpa using he⟩
    rw [if_pos this]
    omega

/-! all differ -/
/-- the mark k is none of those before it -/
def freshB (ss : List ByteArray) (k : Nat) : Bool := !(List.range k).any (fun j => decide (stN ss j = stN ss k))
def distB (ss : List ByteArray) : Bool := (List.range ss.length).all (freshB ss)
theorem freshB_iff {ss : List ByteArray} {k : Nat} : freshB ss k = true ↔ ∀ j, j < k → stN ss j ≠ stN ss k := by
  simp [freshB]
theorem stN_take {ss : List ByteArray} {k j : Nat} (h : j < k) : stN (ss.take k) j = stN ss j := by
  simp [stN, List.getD, List.getElem?_take, h]
theorem fresh_find {ss : List ByteArray} {k : Nat} (hk : k ≤ ss.length) : freshB ss k = decide (findI (ss.take k) (stN ss k) < 0) := by
  rw [Bool.eq_iff_iff, freshB_iff, decide_eq_true_eq]
  have hl : (ss.take k).length = k := by simp; omega
  constructor
  · intro h
    rw [findI_none (fun j hj => by rw [hl] at hj; rw [stN_take hj]; exact h j hj)]
    omega
  · intro h j hj he
    have : 0 ≤ findI (ss.take k) (stN ss k) := findI_pos_iff.2 ⟨j, by omega, by rw [stN_take hj]; exact he⟩
    omega
theorem distB_true {ss : List ByteArray} (h : ∀ i, i < ss.length → freshB ss i = true) : distB ss = true := by
  simpa [distB] using h
theorem distB_false {ss : List ByteArray} {k : Nat} (hk : k < ss.length) (h : freshB ss k = false) : distB ss = false := by
  unfold distB
  rw [List.all_eq_false]
  exact ⟨k, by simpa using hk, by simp [h]⟩

/-- the set of the first k marks -/
def keyS (s : ByteArray) : Lit := .string s.data.toList
theorem keyS_ne {s t : ByteArray} (h : s ≠ t) : keyS s ≠ keyS t := fun e => h (by
  cases s; cases t
  simp [keyS] at e
  simp [e])
def markSet {H : Type} (ss : List ByteArray) (k : Nat) : DataW H := setOf (.lit (.bool true)) ((ss.take k).map keyS)
theorem markSet_zero {H : Type} (ss : List ByteArray) : markSet (H := H) ss 0 = .map [] := rfl
theorem markSet_succ {H : Type} {ss : List ByteArray} {k : Nat} (hk : k < ss.length) : markSet (H := H) ss (k + 1) = (markSet ss k).put (keyS (stN ss k)) (.lit (.bool true)) := by
  unfold markSet
  rw [List.take_succ_eq_append_getElem hk, List.map_append, ← setOf_snoc]
  rw [stN_getD hk]
  rfl
theorem keys_ok (l : List ByteArray) : ∀ x ∈ l.map keyS, WideAt.IsKeyLit x := by
  intro x hx
  obtain ⟨s, _, rfl⟩ := List.mem_map.1 hx
  trivial
theorem markSet_has {H : Type} {ss : List ByteArray} {k : Nat} (hk : k ≤ ss.length) : has (markSet (H := H) ss k) (keyS (stN ss k)) = !freshB ss k := by
  unfold markSet
  rw [has_setOf _ _ _ (keys_ok _), Bool.eq_iff_iff, List.any_eq_true, Bool.not_eq_true', ← Bool.not_eq_true, freshB_iff]
  constructor
  · rintro ⟨x, hx, hs⟩ hf
    obtain ⟨s, hs2, rfl⟩ := List.mem_map.1 hx
    obtain ⟨j, hj, rfl⟩ := List.getElem_of_mem hs2
    have hjk : j < k := by simp at hj; omega
    have hjl : j < ss.length := by omega
    refine hf j hjk ?_
    rw [List.getElem_take, ← stN_getD hjl] at hs
    false_or_by_contra
    rename_i hn
    rw [sameKey_ne (keyS_ne hn)] at hs
    cases hs
  · intro h
    false_or_by_contra
    rename_i hn
    refine h (fun j hj he => hn ⟨keyS (stN ss j), List.mem_map.2 ⟨stN ss j, ?_, rfl⟩, ?_⟩)
    · have hjl : j < ss.length := by omega
      rw [stN_getD hjl]
      have : j < (ss.take k).length := by simp; omega
      rw [← List.getElem_take (h := this)]
      exact List.getElem_mem _
    · rw [he, WideAt.sameKey_self (a := keyS (stN ss k)) trivial]
theorem markSet_size {H : Type} {ss : List ByteArray} : ∀ k, k ≤ ss.length → size (markSet (H := H) ss k) ≤ k ∧ (size (markSet (H := H) ss k) = k ↔ ∀ i, i < k → freshB ss i = true)
  | 0, _ => ⟨Nat.le_refl _, ⟨fun _ i hi => absurd hi (Nat.not_lt_zero _), fun _ => rfl⟩⟩
  | k + 1, hk => by
    obtain ⟨h1, h2⟩ := markSet_size (H := H) (ss := ss) k (by omega)
    have hs : size (markSet (H := H) ss (k + 1)) = if has (markSet (H := H) ss k) (keyS (stN ss k)) then size (markSet (H := H) ss k) else size (markSet (H := H) ss k) + 1 := by
      rw [markSet_succ (by omega)]
      exact size_put (tidy_setOf _ _ (keys_ok _)) _
    rw [hs, markSet_has (by omega)]
    cases hf : freshB ss k with
    | false =>
      simp only [Bool.not_false, if_true]
      refine ⟨by omega, ⟨fun h => by omega, fun h => ?_⟩⟩
      have := h k (by omega)
      rw [hf] at this
      cases this
    | true =>
      simp only [Bool.not_true, Bool.false_eq_true, if_false]
      refine ⟨by omega, ⟨fun h i hi => ?_, fun h => ?_⟩⟩
      · by_cases e : i = k
        · subst e; exact hf
        · exact h2.1 (by omega) i (by omega)
      · have := h2.2 (fun i hi => h i (by omega))
        omega
theorem markSet_dist {H : Type} (ss : List ByteArray) : decide (size (markSet (H := H) ss ss.length) = ss.length) = distB ss := by
  rw [Bool.eq_iff_iff, decide_eq_true_eq, (markSet_size (H := H) (ss := ss) ss.length (Nat.le_refl _)).2]
  simp [distB]

/-! the moves -/
def mvOk (n : Nat) (ms : List Mv) (i : Nat) : Bool := decide ((0 ≤ mvF ms i ∧ mvF ms i < n) ∧ (0 ≤ mvT ms i ∧ mvT ms i < n) ∧ (0 ≤ mvB ms i ∧ mvB ms i < 24))
def movesB (n : Nat) (ms : List Mv) : Bool := (List.range ms.length).all (mvOk n ms)
theorem movesB_true {n : Nat} {ms : List Mv} (h : ∀ i, i < ms.length → mvOk n ms i = true) : movesB n ms = true := by
  simpa [movesB] using h
theorem movesB_false {n k : Nat} {ms : List Mv} (hk : k < ms.length) (h : mvOk n ms k = false) : movesB n ms = false := by
  unfold movesB
  rw [List.all_eq_false]
  exact ⟨k, by simpa using hk, by simp [h]⟩
theorem movesB_at {n k : Nat} {ms : List Mv} (h : movesB n ms = true) (hk : k < ms.length) : mvOk n ms k = true := by
  unfold movesB at h
  rw [List.all_eq_true] at h
  exact h k (by simpa using hk)

/-- a valid reachability graph -/
def goodR (r : RgD) : Bool := decide (1 ≤ r.marks.length ∧ r.marks.length ≤ 300 ∧ r.moves.length ≤ 4000) && (distB r.marks && movesB r.marks.length r.moves)
theorem goodR_len {r : RgD} (h : goodR r = true) : 1 ≤ r.marks.length ∧ r.marks.length ≤ 300 ∧ r.moves.length ≤ 4000 := by
  unfold goodR at h
  simp only [Bool.and_eq_true, decide_eq_true_eq] at h
  exact h.1
theorem goodR_moves {r : RgD} (h : goodR r = true) {k : Nat} (hk : k < r.moves.length) : (0 ≤ mvF r.moves k ∧ mvF r.moves k < r.marks.length) ∧ (0 ≤ mvT r.moves k ∧ mvT r.moves k < r.marks.length) ∧ (0 ≤ mvB r.moves k ∧ mvB r.moves k < 24) := by
  unfold goodR at h
  simp only [Bool.and_eq_true, decide_eq_true_eq] at h
  have := movesB_at h.2.2 hk
  unfold mvOk at this
  exact of_decide_eq_true this

end Go.Proofs.YtnmoocgocnjdjaaGreat

namespace Go.Proofs.YtnmoocgocnjdjaaGreat
open Go.RowKit

/-- the first j moves are looked at, from their ends to their beginnings -/
def bkTo (ms : List Mv) (m : Nat → Bool) : Nat → Nat → Bool
  | 0 => m
  | j + 1 => metArc (bkTo ms m j) (mvT ms j) (mvF ms j)
def bkN (ms : List Mv) (s : Nat) : Nat → Nat → Bool
  | 0 => fun k => decide (k = s)
  | p + 1 => bkTo ms (bkN ms s p) ms.length
def ShutB (ms : List Mv) (S : Nat → Prop) : Prop := ∀ i, i < ms.length → S (mvT ms i).toNat → S (mvF ms i).toNat
theorem bkTo_mono {ms : List Mv} {m : Nat → Bool} {k : Nat} (h : m k = true) : ∀ j, bkTo ms m j k = true
  | 0 => h
  | j + 1 => metArc_mono (bkTo_mono h j)
theorem bkTo_more {ms : List Mv} {m : Nat → Bool} {k i : Nat} (h : bkTo ms m i k = true) : ∀ d, bkTo ms m (i + d) k = true
  | 0 => h
  | d + 1 => metArc_mono (bkTo_more h d)
theorem bkTo_hit {ms : List Mv} {m : Nat → Bool} {i : Nat} (hi : i < ms.length) (h : m (mvT ms i).toNat = true) : bkTo ms m ms.length (mvF ms i).toNat = true := by
  have h1 : bkTo ms m (i + 1) (mvF ms i).toNat = true := by
    show metArc _ _ _ _ = true
    unfold metArc
    rw [if_pos (bkTo_mono h i)]
    simp [upB]
  have := bkTo_more h1 (ms.length - (i + 1))
  rw [show i + 1 + (ms.length - (i + 1)) = ms.length by omega] at this
  exact this
theorem bkTo_sound {ms : List Mv} {m : Nat → Bool} {S : Nat → Prop} (hS : ShutB ms S) (h : ∀ k, m k = true → S k) : ∀ j, j ≤ ms.length → ∀ k, bkTo ms m j k = true → S k
  | 0, _, k, hk => h k hk
  | j + 1, hj, k, hk => by
    have ih := bkTo_sound hS h j (by omega)
    have hk : metArc (bkTo ms m j) (mvT ms j) (mvF ms j) k = true := hk
    unfold metArc at hk
    by_cases hf : bkTo ms m j (mvT ms j).toNat = true
    · rw [if_pos hf] at hk
      unfold upB at hk
      by_cases e : k = (mvF ms j).toNat
      · subst e; exact hS j (by omega) (ih _ hf)
      · rw [if_neg e] at hk; exact ih k hk
    · rw [if_neg hf] at hk; exact ih k hk
theorem bkN_sound {ms : List Mv} {S : Nat → Prop} {s : Nat} (hS : ShutB ms S) (h0 : S s) : ∀ p k, bkN ms s p k = true → S k
  | 0, k, hk => by
    have : k = s := of_decide_eq_true hk
    subst this; exact h0
  | p + 1, k, hk => bkTo_sound hS (bkN_sound hS h0 p) ms.length (Nat.le_refl _) k hk
theorem bkN_self {ms : List Mv} {s : Nat} : ∀ p, bkN ms s p s = true
  | 0 => decide_eq_true rfl
  | p + 1 => bkTo_mono (bkN_self p) _
theorem cntB_some {m : Nat → Bool} {s n : Nat} (hs : s < n) (h : m s = true) : 1 ≤ cntB n m := by
  have := cntB_lt (m := fun _ => false) (m' := m) (fun k hk => by simp at hk) (t := s) (by simp) h n hs
  omega
theorem bkN_shut {ms : List Mv} {n s : Nat} (hs : s < n) (hT : ∀ i, i < ms.length → (mvF ms i).toNat < n) : ∀ p, ShutB ms (fun k => bkN ms s p k = true) ∨ p + 1 ≤ cntB n (bkN ms s p)
  | 0 => Or.inr (cntB_some hs (bkN_self 0))
  | p + 1 => by
    by_cases hsh : ShutB ms (fun k => bkN ms s p k = true)
    · left
      intro i hi hf
      exact bkTo_mono (hsh i hi (bkTo_sound hsh (fun k hk => hk) ms.length (Nat.le_refl _) _ hf)) _
    · rcases bkN_shut hs hT p with h | h
      · exact absurd h hsh
      · right
        have : ∃ i, i < ms.length ∧ bkN ms s p (mvT ms i).toNat = true ∧ ¬ bkN ms s p (mvF ms i).toNat = true := by
          false_or_by_contra
          rename_i hno
          refine hsh (fun i hi hf => ?_)
          false_or_by_contra
          rename_i h2
          exact hno ⟨i, hi, hf, h2⟩
        obtain ⟨i, hi, hf, ht⟩ := this
        have := cntB_lt (m' := bkN ms s (p + 1)) (fun k hk => bkTo_mono hk _) ht (bkTo_hit hi hf) n (hT i hi)
        omega
/-- from q there is a way to k -/
def bk (ms : List Mv) (n k q : Nat) : Bool := bkN ms k n q
theorem Lev_cons {L : Nat → List Int} {a b : Nat} (h : (b : Int) ∈ L a) : ∀ d k, Lev L b d k → Lev L a (d + 1) k
  | 0, k, hk => by
    have : k = b := hk
    subst this
    exact Or.inr ⟨a, rfl, h⟩
  | d + 1, k, hk => by
    rcases hk with hk | ⟨p, hp, hkp⟩
    · exact Or.inl (Lev_cons h d k hk)
    · exact Or.inr ⟨p, Lev_cons h d p hp, hkp⟩
theorem bk_iff {ms : List Mv} {n k q : Nat} (hk : k < n) (hin : ∀ i, i < ms.length → (0 ≤ mvF ms i ∧ mvF ms i < n) ∧ (0 ≤ mvT ms i ∧ mvT ms i < n)) : bk ms n k q = true ↔ ∃ d, Lev (tgL ms) q d k := by
  have hT : ∀ i, i < ms.length → (mvF ms i).toNat < n := fun i hi => by have := (hin i hi).1; omega
  constructor
  · intro h
    refine bkN_sound (S := fun q => ∃ d, Lev (tgL ms) q d k) ?_ ⟨0, rfl⟩ n q h
    rintro i hi ⟨d, hd⟩
    refine ⟨d + 1, Lev_cons ?_ d k hd⟩
    refine (mem_tgTo _).2 ⟨i, hi, rfl, ?_⟩
    have := (hin i hi).2
    omega
  · rintro ⟨d, hd⟩
    have hsh : ShutB ms (fun q => bkN ms k n q = true) := by
      rcases bkN_shut hk hT n with h | h
      · exact h
      · have := cntB_le n (bkN ms k n); omega
    have main : ∀ d x, Lev (tgL ms) q d x → bkN ms k n x = true → bkN ms k n q = true := by
      intro d
      induction d with
      | zero => intro x hx h; have : x = q := hx; subst this; exact h
      | succ d ih =>
        intro x hx h
        rcases hx with hx | ⟨p, hp, hxp⟩
        · exact ih x hx h
        · obtain ⟨i, hi, h1, h2⟩ := (mem_tgTo _).1 hxp
          refine ih p hp ?_
          have := hsh i hi (by rw [h2]; simpa using h)
          rw [h1] at this
          exact this
    exact main d k hd (bkN_self n)
theorem dist_bk {ms : List Mv} {n k q : Nat} {D : Nat → Int} (hk : k < n) (hin : ∀ i, i < ms.length → (0 ≤ mvF ms i ∧ mvF ms i < n) ∧ (0 ≤ mvT ms i ∧ mvT ms i < n)) (hD : Dist n (tgL ms) q D) : bk ms n k q = decide (0 ≤ D k) := by
  rw [Bool.eq_iff_iff, bk_iff hk hin, decide_eq_true_eq]
  exact ⟨fun ⟨d, hd⟩ => ((hD k hk).2.2.2 d hd).1, fun h => ⟨_, (hD k hk).2.2.1 h⟩⟩
theorem cntB_full {n : Nat} {g : Nat → Bool} : decide (cntB n g = n) = (List.range n).all g := by
  rw [Bool.eq_iff_iff, decide_eq_true_eq, List.all_eq_true]
  constructor
  · intro h k hk
    false_or_by_contra
    rename_i hn
    have := cntB_lt (m := g) (m' := fun _ => true) (fun _ _ => rfl) hn rfl n (by simpa using hk)
    have := cntB_le n (fun _ => true)
    omega
  · intro h
    have h2 : ∀ m, m ≤ n → cntB m g = m := by
      intro m
      induction m with
      | zero => intro _; rfl
      | succ m ih => intro hm; rw [cntB_succ, ih (by omega), if_pos (h m (by simp; omega))]
    exact h2 n (Nat.le_refl _)

/-- the home states -/
def hmF (r : RgD) (k : Nat) : Bool := (List.range r.marks.length).all (bk r.moves r.marks.length k)
def hmL (r : RgD) : List Int := if goodR r = true then enTo (hmF r) r.marks.length else []
theorem hmL_no {r : RgD} (h : goodR r = false) : hmL r = [] := by unfold hmL; rw [h]; rfl
theorem hmL_yes {r : RgD} (h : goodR r = true) : hmL r = enTo (hmF r) r.marks.length := by unfold hmL; rw [h]; rfl
theorem hmL_small {r : RgD} (h : SmallRg r) : (hmL r).length ≤ 1048576 := by
  unfold hmL
  by_cases hb : goodR r = true
  · rw [if_pos hb]; exact Nat.le_trans (enTo_length _ _) h.1.1
  · rw [if_neg hb]; exact Nat.zero_le _

end Go.Proofs.YtnmoocgocnjdjaaGreat
