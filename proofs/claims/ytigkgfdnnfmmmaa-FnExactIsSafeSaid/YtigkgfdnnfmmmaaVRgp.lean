/- PLAIN PART: which mark stands first, whether all marks differ (told by the size of a set of them), which moves are in bounds: what a valid reachability graph is. No program is named here. -/
import Derived.Test.YtigkgfdnnfmmmaaVRgd
import Derived.Maps.Views
namespace Go.Proofs.Ytigkgfdnnfmmmaa
open Go.RowKit Go.Maps

/-! the first place of a string -/
def findN (ss : List ByteArray) (m : ByteArray) : Nat := ss.findIdx (fun x => decide (x = m))
def findI (ss : List ByteArray) (m : ByteArray) : Int := if findN ss m < ss.length then (findN ss m : Int) else -1
theorem findI_at {ss : List ByteArray} {m : ByteArray} {k : Nat} (hk : k < ss.length) (h : ∀ j, j < k → stN ss j ≠ m) (he : stN ss k = m) : findI ss m = k := by
  have : findN ss m = k := by
    unfold findN
    rw [List.findIdx_eq hk]
    refine ⟨by rw [← stN_getD hk]; simpa using he, fun j hj => ?_⟩
    rw [← stN_getD (by omega)]
    simpa using h j hj
  unfold findI
  rw [this, if_pos hk]
theorem findI_none {ss : List ByteArray} {m : ByteArray} (h : ∀ j, j < ss.length → stN ss j ≠ m) : findI ss m = -1 := by
  have : findN ss m = ss.length := by
    unfold findN
    rw [List.findIdx_eq_length]
    intro x hx
    obtain ⟨j, hj, rfl⟩ := List.getElem_of_mem hx
    have := h j hj
    rw [stN_getD hj] at this
    simpa using this
  unfold findI
  rw [this, if_neg (Nat.lt_irrefl _)]
theorem findI_bd (ss : List ByteArray) (m : ByteArray) : -1 ≤ findI ss m ∧ findI ss m < ss.length := by
  unfold findI
  split <;> omega
theorem findI_pos_iff {ss : List ByteArray} {m : ByteArray} : 0 ≤ findI ss m ↔ ∃ j, j < ss.length ∧ stN ss j = m := by
  constructor
  · intro h
    false_or_by_contra
    rename_i hn
    rw [findI_none (fun j hj he => hn ⟨j, hj, he⟩)] at h
    omega
  · rintro ⟨j, hj, he⟩
    unfold findI
    have : findN ss m < ss.length := by
      unfold findN
      rw [List.findIdx_lt_length]
      exact ⟨ss[j], List.getElem_mem hj, by rw [← stN_getD hj]; simpa using he⟩
    rw [if_pos this]
    omega

/-! all differ -/
/-- the mark k is none of those before it -/
def freshB (ss : List ByteArray) (k : Nat) : Bool := !(List.range k).any (fun j => decide (stN ss j = stN ss k))
def distB (ss : List ByteArray) : Bool := (List.range ss.length).all (freshB ss)
theorem freshB_iff {ss : List ByteArray} {k : Nat} : freshB ss k = true ↔ ∀ j, j < k → stN ss j ≠ stN ss k := by
  simp [freshB]
theorem stN_take {ss : List ByteArray} {k j : Nat} (h : j < k) : stN (ss.take k) j = stN ss j := by
  simp [stN, List.getD, List.getElem?_take, h]
theorem fresh_find {ss : List ByteArray} {k : Nat} (hk : k ≤ ss.length) : freshB ss k = decide (findI (ss.take k) (stN ss k) < 0) := by
  rw [Bool.eq_iff_iff, freshB_iff, decide_eq_true_eq]
  have hl : (ss.take k).length = k := by simp; omega
  constructor
  · intro h
    rw [findI_none (fun j hj => by rw [hl] at hj; rw [stN_take hj]; exact h j hj)]
    omega
  · intro h j hj he
    have : 0 ≤ findI (ss.take k) (stN ss k) := findI_pos_iff.2 ⟨j, by omega, by rw [stN_take hj]; exact he⟩
    omega
theorem distB_true {ss : List ByteArray} (h : ∀ i, i < ss.length → freshB ss i = true) : distB ss = true := by
  simpa [distB] using h
theorem distB_false {ss : List ByteArray} {k : Nat} (hk : k < ss.length) (h : freshB ss k = false) : distB ss = false := by
  unfold distB
  rw [List.all_eq_false]
  exact ⟨k, by simpa using hk, by simp [h]⟩

/-- the set of the first k marks -/
def keyS (s : ByteArray) : Lit := .string s.data.toList
theorem keyS_ne {s t : ByteArray} (h : s ≠ t) : keyS s ≠ keyS t := fun e => h (by
  cases s; cases t
  simp [keyS] at e
  simp [e])
def markSet {H : Type} (ss : List ByteArray) (k : Nat) : DataW H := setOf (.lit (.bool true)) ((ss.take k).map keyS)
theorem markSet_zero {H : Type} (ss : List ByteArray) : markSet (H := H) ss 0 = .map [] := rfl
theorem markSet_succ {H : Type} {ss : List ByteArray} {k : Nat} (hk : k < ss.length) : markSet (H := H) ss (k + 1) = (markSet ss k).put (keyS (stN ss k)) (.lit (.bool true)) := by
  unfold markSet
  rw [List.take_succ_eq_append_getElem hk, List.map_append, ← setOf_snoc]
  rw [stN_getD hk]
  rfl
theorem keys_ok (l : List ByteArray) : ∀ x ∈ l.map keyS, WideAt.IsKeyLit x := by
  intro x hx
  obtain ⟨s, _, rfl⟩ := List.mem_map.1 hx
  trivial
theorem markSet_has {H : Type} {ss : List ByteArray} {k : Nat} (hk : k ≤ ss.length) : has (markSet (H := H) ss k) (keyS (stN ss k)) = !freshB ss k := by
  unfold markSet
  rw [has_setOf _ _ _ (keys_ok _), Bool.eq_iff_iff, List.any_eq_true, Bool.not_eq_true', ← Bool.not_eq_true, freshB_iff]
  constructor
  · rintro ⟨x, hx, hs⟩ hf
    obtain ⟨s, hs2, rfl⟩ := List.mem_map.1 hx
    obtain ⟨j, hj, rfl⟩ := List.getElem_of_mem hs2
    have hjk : j < k := by simp at hj; omega
    have hjl : j < ss.length := by omega
    refine hf j hjk ?_
    rw [List.getElem_take, ← stN_getD hjl] at hs
    false_or_by_contra
    rename_i hn
    rw [sameKey_ne (keyS_ne hn)] at hs
    cases hs
  · intro h
    false_or_by_contra
    rename_i hn
    refine h (fun j hj he => hn ⟨keyS (stN ss j), List.mem_map.2 ⟨stN ss j, ?_, rfl⟩, ?_⟩)
    · have hjl : j < ss.length := by omega
      rw [stN_getD hjl]
      have : j < (ss.take k).length := by simp; omega
      rw [← List.getElem_take (h := this)]
      exact List.getElem_mem _
    · rw [he, WideAt.sameKey_self (a := keyS (stN ss k)) trivial]
theorem markSet_size {H : Type} {ss : List ByteArray} : ∀ k, k ≤ ss.length → size (markSet (H := H) ss k) ≤ k ∧ (size (markSet (H := H) ss k) = k ↔ ∀ i, i < k → freshB ss i = true)
  | 0, _ => ⟨Nat.le_refl _, ⟨fun _ i hi => absurd hi (Nat.not_lt_zero _), fun _ => rfl⟩⟩
  | k + 1, hk => by
    obtain ⟨h1, h2⟩ := markSet_size (H := H) (ss := ss) k (by omega)
    have hs : size (markSet (H := H) ss (k + 1)) = if has (markSet (H := H) ss k) (keyS (stN ss k)) then size (markSet (H := H) ss k) else size (markSet (H := H) ss k) + 1 := by
      rw [markSet_succ (by omega)]
      exact size_put (tidy_setOf _ _ (keys_ok _)) _
    rw [hs, markSet_has (by omega)]
    cases hf : freshB ss k with
    | false =>
      simp only [Bool.not_false, if_true]
      refine ⟨by omega, ⟨fun h => by omega, fun h => ?_⟩⟩
      have := h k (by omega)
      rw [hf] at this
      cases this
    | true =>
      simp only [Bool.not_true, Bool.false_eq_true, if_false]
      refine ⟨by omega, ⟨fun h i hi => ?_, fun h => ?_⟩⟩
      · by_cases e : i = k
        · subst e; exact hf
        · exact h2.1 (by omega) i (by omega)
      · have := h2.2 (fun i hi => h i (by omega))
        omega
theorem markSet_dist {H : Type} (ss : List ByteArray) : decide (size (markSet (H := H) ss ss.length) = ss.length) = distB ss := by
  rw [Bool.eq_iff_iff, decide_eq_true_eq, (markSet_size (H := H) (ss := ss) ss.length (Nat.le_refl _)).2]
  simp [distB]

/-! the moves -/
def mvOk (n : Nat) (ms : List Mv) (i : Nat) : Bool := decide ((0 ≤ mvF ms i ∧ mvF ms i < n) ∧ (0 ≤ mvT ms i ∧ mvT ms i < n) ∧ (0 ≤ mvB ms i ∧ mvB ms i < 24))
def movesB (n : Nat) (ms : List Mv) : Bool := (List.range ms.length).all (mvOk n ms)
theorem movesB_true {n : Nat} {ms : List Mv} (h : ∀ i, i < ms.length → mvOk n ms i = true) : movesB n ms = true := by
  simpa [movesB] using h
theorem movesB_false {n k : Nat} {ms : List Mv} (hk : k < ms.length) (h : mvOk n ms k = false) : movesB n ms = false := by
  unfold movesB
  rw [List.all_eq_false]
  exact ⟨k, by simpa using hk, by simp [h]⟩
theorem movesB_at {n k : Nat} {ms : List Mv} (h : movesB n ms = true) (hk : k < ms.length) : mvOk n ms k = true := by
  unfold movesB at h
  rw [List.all_eq_true] at h
  exact h k (by simpa using hk)

/-- a valid reachability graph -/
def goodR (r : RgD) : Bool := decide (1 ≤ r.marks.length ∧ r.marks.length ≤ 300 ∧ r.moves.length ≤ 4000) && (distB r.marks && movesB r.marks.length r.moves)
theorem goodR_len {r : RgD} (h : goodR r = true) : 1 ≤ r.marks.length ∧ r.marks.length ≤ 300 ∧ r.moves.length ≤ 4000 := by
  unfold goodR at h
  simp only [Bool.and_eq_true, decide_eq_true_eq] at h
  exact h.1
theorem goodR_moves {r : RgD} (h : goodR r = true) {k : Nat} (hk : k < r.moves.length) : (0 ≤ mvF r.moves k ∧ mvF r.moves k < r.marks.length) ∧ (0 ≤ mvT r.moves k ∧ mvT r.moves k < r.marks.length) ∧ (0 ≤ mvB r.moves k ∧ mvB r.moves k < 24) := by
  unfold goodR at h
  simp only [Bool.and_eq_true, decide_eq_true_eq] at h
  have := movesB_at h.2.2 hk
  unfold mvOk at this
  exact of_decide_eq_true this

end Go.Proofs.Ytigkgfdnnfmmmaa
