/- PLAIN PART: slices of strings, slices of triples of cells (moves), a row of triples that is filled from the front; a reachability graph as data. No program is named here.
   PLAIN PART: which mark stands first, whether all marks differ (told by the size of a set of them), which moves are in bounds: what a valid reachability graph is. No program is named here. -/
import Derived.Test.YtigkgfdnnfmmmaaVPair
import Derived.Maps.Views
namespace Go.Proofs.Ytigkgfdnnfmmmaa
open Go.RowKit

/-! strings -/
def stN (ss : List ByteArray) (i : Nat) : ByteArray := ss.getD i ByteArray.empty
theorem stN_getD {ss : List ByteArray} {i : Nat} (h : i < ss.length) : stN ss i = ss[i] := by simp [stN, List.getD, h]

/-- what a slice of strings reads as; its cells lie from block lo on -/
def TextsAt (lo : Nat) (w : World) (v : Value) (ss : List ByteArray) : Prop :=
  ∃ (ao : Option Addr) (cap : Nat), v = .slice ao ss.length cap ∧ ss.length ≤ cap ∧
    (ss.length = 0 ∨ ∃ b off, ao = some ⟨b, off, none⟩ ∧ lo ≤ b ∧ ∀ i, i < ss.length → w.cell? ⟨b, off + i, none⟩ = some (.string (stN ss i)))
theorem TextsAt.keep {lo : Nat} {w w' : World} {v : Value} {ss : List ByteArray} (h : TextsAt lo w v ss) (hb : Carries lo w w') : TextsAt lo w' v ss := by
  obtain ⟨ao, cap, hv, hc, hz⟩ := h
  refine ⟨ao, cap, hv, hc, ?_⟩
  rcases hz with hz | ⟨b, off, ha, hlo, hcell⟩
  · exact Or.inl hz
  · exact Or.inr ⟨b, off, ha, hlo, fun i hi => hb _ _ hlo (hcell i hi)⟩
theorem TextsAt.low {lo lo' : Nat} {w : World} {v : Value} {ss : List ByteArray} (h : TextsAt lo w v ss) (hl : lo' ≤ lo) : TextsAt lo' w v ss := by
  obtain ⟨ao, cap, hv, hc, hz⟩ := h
  refine ⟨ao, cap, hv, hc, ?_⟩
  rcases hz with hz | ⟨b, off, ha, hlo, hcell⟩
  · exact Or.inl hz
  · exact Or.inr ⟨b, off, ha, Nat.le_trans hl hlo, hcell⟩
theorem TextsAt.form {lo : Nat} {w : World} {v : Value} {ss : List ByteArray} (h : TextsAt lo w v ss) : ∃ a c, v = .slice a ss.length c := by
  obtain ⟨a, c, rfl, _, _⟩ := h
  exact ⟨a, c, rfl⟩
theorem texts_of_row {w : World} {b : Nat} {t : TypeId} {ss : List ByteArray} {f : Nat → Value} (h : w.rowIs b t ss.length f) (hf : ∀ i, i < ss.length → f i = .string (stN ss i)) : TextsAt b w (.slice (some ⟨b, 0, none⟩) ss.length ss.length) ss :=
  ⟨_, _, rfl, Nat.le_refl _, Or.inr ⟨b, 0, rfl, Nat.le_refl _, fun i hi => by rw [Nat.zero_add, h.cell hi, hf i hi]⟩⟩
def scopied (ss : List ByteArray) (k : Nat) : Nat → Value := fun j => if j < k then .string (stN ss j) else .string ByteArray.empty
theorem scopied_step (ss : List ByteArray) (k : Nat) : (fun j => if j = k then Value.string (stN ss k) else scopied ss k j) = scopied ss (k + 1) := by
  funext j
  unfold scopied
  by_cases h : j = k
  · subst h; simp
  · rw [if_neg h]; by_cases h2 : j < k
    · rw [if_pos h2, if_pos (by omega)]
    · rw [if_neg h2, if_neg (by omega)]
def RetTexts (w : World) (ss : List ByteArray) (e : Ending) (w' : World) : Prop := ∃ v, e = .returned v ∧ TextsAt w.heap.size w' v ss ∧ Below w.heap.size w w'

/-! triples -/
/-- what a slice of n triples reads as; its cells lie from block lo on -/
def TripsAt (lo : Nat) (w : World) (v : Value) (n : Nat) (x y z : Nat → Value) : Prop :=
  ∃ (ao : Option Addr) (cap : Nat), v = .slice ao n cap ∧ n ≤ cap ∧
    (n = 0 ∨ ∃ b off, ao = some ⟨b, off, none⟩ ∧ lo ≤ b ∧ ∀ i, i < n → w.cell? ⟨b, off + i * 3, none⟩ = some (x i) ∧ w.cell? ⟨b, off + i * 3 + 1, none⟩ = some (y i) ∧ w.cell? ⟨b, off + i * 3 + 2, none⟩ = some (z i))
theorem TripsAt.keep {lo : Nat} {w w' : World} {v : Value} {n : Nat} {x y z : Nat → Value} (h : TripsAt lo w v n x y z) (hb : Carries lo w w') : TripsAt lo w' v n x y z := by
  obtain ⟨ao, cap, hv, hc, hz⟩ := h
  refine ⟨ao, cap, hv, hc, ?_⟩
  rcases hz with hz | ⟨b, off, ha, hlo, hcell⟩
  · exact Or.inl hz
  · exact Or.inr ⟨b, off, ha, hlo, fun i hi => ⟨hb _ _ hlo (hcell i hi).1, hb _ _ hlo (hcell i hi).2.1, hb _ _ hlo (hcell i hi).2.2⟩⟩
theorem TripsAt.low {lo lo' : Nat} {w : World} {v : Value} {n : Nat} {x y z : Nat → Value} (h : TripsAt lo w v n x y z) (hl : lo' ≤ lo) : TripsAt lo' w v n x y z := by
  obtain ⟨ao, cap, hv, hc, hz⟩ := h
  refine ⟨ao, cap, hv, hc, ?_⟩
  rcases hz with hz | ⟨b, off, ha, hlo, hcell⟩
  · exact Or.inl hz
  · exact Or.inr ⟨b, off, ha, Nat.le_trans hl hlo, hcell⟩
/-- the first k triples of the row b of n triples are there -/
def TripRow (b : Nat) (t : TypeId) (w : World) (n k : Nat) (x y z : Nat → Value) : Prop := ∃ f, w.rowIs b t (n * 3) f ∧ ∀ i, i < k → f (i * 3) = x i ∧ f (i * 3 + 1) = y i ∧ f (i * 3 + 2) = z i
theorem TripRow.keep {b : Nat} {t : TypeId} {w w' : World} {n k : Nat} {x y z : Nat → Value} (h : TripRow b t w n k x y z) (hb : w'.heap[b]? = w.heap[b]?) : TripRow b t w' n k x y z := by
  obtain ⟨f, hr, ht⟩ := h
  exact ⟨f, hr.of_block hb, ht⟩
theorem TripRow.cells {b : Nat} {t : TypeId} {w : World} {n k : Nat} {x y z : Nat → Value} (h : TripRow b t w n k x y z) {i : Nat} (hi : i < n) : ∃ v0 v1 v2, w.cell? ⟨b, i * 3, none⟩ = some v0 ∧ w.cell? ⟨b, i * 3 + 1, none⟩ = some v1 ∧ w.cell? ⟨b, i * 3 + 2, none⟩ = some v2 ∧ w.frozen? ⟨b, i * 3, none⟩ = false ∧ w.frozen? ⟨b, i * 3 + 1, none⟩ = false ∧ w.frozen? ⟨b, i * 3 + 2, none⟩ = false := by
  obtain ⟨f, hr, ht⟩ := h
  exact ⟨_, _, _, hr.cell (by omega), hr.cell (by omega), hr.cell (by omega), hr.frozen _, hr.frozen _, hr.frozen _⟩
theorem TripRow.put {b : Nat} {t : TypeId} {w : World} {n k : Nat} {x y z : Nat → Value} (h : TripRow b t w n k x y z) {v0 v1 v2 : Value} (hk : k < n) (h0 : v0 = x k) (h1 : v1 = y k) (h2 : v2 = z k) :
    TripRow b t (((w.setCell ⟨b, k * 3, none⟩ v0).setCell ⟨b, k * 3 + 1, none⟩ v1).setCell ⟨b, k * 3 + 2, none⟩ v2) n (k + 1) x y z := by
  obtain ⟨f, hr, hx⟩ := h
  refine ⟨_, ((hr.set (k * 3) v0).set (k * 3 + 1) v1).set (k * 3 + 2) v2, fun i hi => ?_⟩
  by_cases e : i = k
  · subst e
    simp [show ¬ i * 3 = i * 3 + 1 by omega, show ¬ i * 3 = i * 3 + 2 by omega, h0, h1, h2]
  · have a1 : ¬ i * 3 = k * 3 + 2 := by omega
    have a2 : ¬ i * 3 = k * 3 + 1 := by omega
    have a3 : ¬ i * 3 = k * 3 := by omega
    have a4 : ¬ i * 3 + 1 = k * 3 + 2 := by omega
    have a5 : ¬ i * 3 + 1 = k * 3 + 1 := by omega
    have a6 : ¬ i * 3 + 1 = k * 3 := by omega
    have a7 : ¬ i * 3 + 2 = k * 3 + 2 := by omega
    have a8 : ¬ i * 3 + 2 = k * 3 + 1 := by omega
    have a9 : ¬ i * 3 + 2 = k * 3 := by omega
    simp only [if_neg a1, if_neg a2, if_neg a3, if_neg a4, if_neg a5, if_neg a6, if_neg a7, if_neg a8, if_neg a9]
    exact hx i (by omega)
theorem TripRow.read {b : Nat} {t : TypeId} {w : World} {n : Nat} {x y z : Nat → Value} (h : TripRow b t w n n x y z) : TripsAt b w (.slice (some ⟨b, 0, none⟩) n n) n x y z := by
  obtain ⟨f, hr, ht⟩ := h
  refine ⟨_, _, rfl, Nat.le_refl _, Or.inr ⟨b, 0, rfl, Nat.le_refl _, fun i hi => ⟨?_, ?_, ?_⟩⟩⟩
  · rw [Nat.zero_add, hr.cell (by omega), (ht i hi).1]
  · rw [Nat.zero_add, hr.cell (by omega), (ht i hi).2.1]
  · rw [Nat.zero_add, hr.cell (by omega), (ht i hi).2.2]

/-- a move: from, by, to -/
abbrev Mv := Int × Int × Int
def mvF (ms : List Mv) (i : Nat) : Int := (ms.getD i (0, 0, 0)).1
def mvB (ms : List Mv) (i : Nat) : Int := (ms.getD i (0, 0, 0)).2.1
def mvT (ms : List Mv) (i : Nat) : Int := (ms.getD i (0, 0, 0)).2.2
theorem mv_getD {zs : List Mv} {i : Nat} (h : i < zs.length) : (mvF zs i, mvB zs i, mvT zs i) = zs[i] := by simp [mvF, mvB, mvT, List.getD, h]
def MovesAt (lo : Nat) (w : World) (v : Value) (ms : List Mv) : Prop := TripsAt lo w v ms.length (fun i => .int .i64 (mvF ms i)) (fun i => .int .i64 (mvB ms i)) (fun i => .int .i64 (mvT ms i))
theorem MovesAt.keep {lo : Nat} {w w' : World} {v : Value} {ss : List Mv} (h : MovesAt lo w v ss) (hb : Carries lo w w') : MovesAt lo w' v ss := TripsAt.keep h hb
theorem MovesAt.low {lo lo' : Nat} {w : World} {v : Value} {ss : List Mv} (h : MovesAt lo w v ss) (hl : lo' ≤ lo) : MovesAt lo' w v ss := TripsAt.low h hl
theorem MovesAt.form {lo : Nat} {w : World} {v : Value} {ss : List Mv} (h : MovesAt lo w v ss) : ∃ a c, v = .slice a ss.length c := by
  obtain ⟨a, c, rfl, _, _⟩ := h
  exact ⟨a, c, rfl⟩
def RetMoves (w : World) (ms : List Mv) (e : Ending) (w' : World) : Prop := ∃ v, e = .returned v ∧ MovesAt w.heap.size w' v ms ∧ Below w.heap.size w w'

/-- a reachability graph as data -/
structure RgD where
  marks : List ByteArray
  moves : List Mv

/-- numbers that fit, marks that are no longer than any string -/
def OkTexts (ss : List ByteArray) : Prop := ss.length ≤ 9223372036854775807 ∧ ∀ i, i < ss.length → (stN ss i).size ≤ 9223372036854775807
def SmallTexts (ss : List ByteArray) : Prop := ss.length ≤ 1048576 ∧ ∀ i, i < ss.length → (stN ss i).size ≤ 1048576
def OkRg (r : RgD) : Prop := OkTexts r.marks ∧ r.moves.length ≤ 9223372036854775807 ∧ ∀ i, i < r.moves.length → (-9223372036854775808 ≤ mvF r.moves i ∧ mvF r.moves i ≤ 9223372036854775807) ∧ (-9223372036854775808 ≤ mvB r.moves i ∧ mvB r.moves i ≤ 9223372036854775807) ∧ (-9223372036854775808 ≤ mvT r.moves i ∧ mvT r.moves i ≤ 9223372036854775807)
def SmallRg (r : RgD) : Prop := SmallTexts r.marks ∧ r.moves.length ≤ 1048576

def RgAt (lo : Nat) (w : World) (v : Value) (r : RgD) : Prop := ∃ vs vm, v = .agg #[vs, vm] ∧ TextsAt lo w vs r.marks ∧ MovesAt lo w vm r.moves
theorem RgAt.keep {lo : Nat} {w w' : World} {v : Value} {r : RgD} (h : RgAt lo w v r) (hb : Carries lo w w') : RgAt lo w' v r := by
  obtain ⟨vs, vm, hv, h1, h2⟩ := h
  exact ⟨vs, vm, hv, h1.keep hb, h2.keep hb⟩
theorem RgAt.low {lo lo' : Nat} {w : World} {v : Value} {r : RgD} (h : RgAt lo w v r) (hl : lo' ≤ lo) : RgAt lo' w v r := by
  obtain ⟨vs, vm, hv, h1, h2⟩ := h
  exact ⟨vs, vm, hv, h1.low hl, h2.low hl⟩
theorem RgAt.form {lo : Nat} {w : World} {v : Value} {r : RgD} (h : RgAt lo w v r) : ∃ a0 c0 a1 c1, v = .agg #[.slice a0 r.marks.length c0, .slice a1 r.moves.length c1] ∧ TextsAt lo w (.slice a0 r.marks.length c0) r.marks ∧ MovesAt lo w (.slice a1 r.moves.length c1) r.moves := by
  obtain ⟨vs, vm, rfl, h1, h2⟩ := h
  obtain ⟨a0, c0, rfl⟩ := h1.form
  obtain ⟨a1, c1, rfl⟩ := h2.form
  exact ⟨a0, c0, a1, c1, rfl, h1, h2⟩
def RetRg (w : World) (r : RgD) (e : Ending) (w' : World) : Prop := ∃ v, e = .returned v ∧ RgAt w.heap.size w' v r ∧ Below w.heap.size w w'

end Go.Proofs.Ytigkgfdnnfmmmaa

namespace Go.Proofs.Ytigkgfdnnfmmmaa
open Go.RowKit Go.Maps

/-! the first place of a string -/
def findN (ss : List ByteArray) (m : ByteArray) : Nat := ss.findIdx (fun x => decide (x = m))
def findI (ss : List ByteArray) (m : ByteArray) : Int := if findN ss m < ss.length then (findN ss m : Int) else -1
theorem findI_at {ss : List ByteArray} {m : ByteArray} {k : Nat} (hk : k < ss.length) (h : ∀ j, j < k → stN ss j ≠ m) (he : stN ss k = m) : findI ss m = k := by
  have : findN ss m = k := by
    unfold findN
    rw [List.findIdx_eq hk]
    refine ⟨by rw [← stN_getD hk]; simpa using he, fun j hj => ?_⟩
    rw [← stN_getD (by omega)]
    simpa using h j hj
  unfold findI
  rw [this, if_pos hk]
theorem findI_none {ss : List ByteArray} {m : ByteArray} (h : ∀ j, j < ss.length → stN ss j ≠ m) : findI ss m = -1 := by
  have : findN ss m = ss.length := by
    unfold findN
    rw [List.findIdx_eq_length]
    intro x hx
    obtain ⟨j, hj, rfl⟩ := List.getElem_of_mem hx
    have := h j hj
    rw [stN_getD hj] at this
    simpa using this
  unfold findI
  rw [this, if_neg (Nat.lt_irrefl _)]
theorem findI_bd (ss : List ByteArray) (m : ByteArray) : -1 ≤ findI ss m ∧ findI ss m < ss.length := by
  unfold findI
  split <;> omega
theorem findI_pos_iff {ss : List ByteArray} {m : ByteArray} : 0 ≤ findI ss m ↔ ∃ j, j < ss.length ∧ stN ss j = m := by
  constructor
  · intro h
    false_or_by_contra
    rename_i hn
    rw [findI_none (fun j hj he => hn ⟨j, hj, he⟩)] at h
    omega
  · rintro ⟨j, hj, he⟩
    unfold findI
    have : findN ss m < ss.length := by
      unfold findN
      rw [List.findIdx_lt_length]
      exact ⟨ss[j], List.getElem_mem hj, by rw [← stN_getD hj]; simpa using he⟩
    rw [if_pos this]
    omega

/-! all differ -/
/-- the mark k is none of those before it -/
def freshB (ss : List ByteArray) (k : Nat) : Bool := !(List.range k).any (fun j => decide (stN ss j = stN ss k))
def distB (ss : List ByteArray) : Bool := (List.range ss.length).all (freshB ss)
theorem freshB_iff {ss : List ByteArray} {k : Nat} : freshB ss k = true ↔ ∀ j, j < k → stN ss j ≠ stN ss k := by
  simp [freshB]
theorem stN_take {ss : List ByteArray} {k j : Nat} (h : j < k) : stN (ss.take k) j = stN ss j := by
  simp [stN, List.getD, List.getElem?_take, h]
theorem fresh_find {ss : List ByteArray} {k : Nat} (hk : k ≤ ss.length) : freshB ss k = decide (findI (ss.take k) (stN ss k) < 0) := by
  rw [Bool.eq_iff_iff, freshB_iff, decide_eq_true_eq]
  have hl : (ss.take k).length = k := by simp; omega
  constructor
  · intro h
    rw [findI_none (fun j hj => by rw [hl] at hj; rw [stN_take hj]; exact h j hj)]
    omega
  · intro h j hj he
    have : 0 ≤ findI (ss.take k) (stN ss k) := findI_pos_iff.2 ⟨j, by omega, by rw [stN_take hj]; exact he⟩
    omega
theorem distB_true {ss : List ByteArray} (h : ∀ i, i < ss.length → freshB ss i = true) : distB ss = true := by
  simpa [distB] using h
theorem distB_false {ss : List ByteArray} {k : Nat} (hk : k < ss.length) (h : freshB ss k = false) : distB ss = false := by
  unfold distB
  rw [List.all_eq_false]
  exact ⟨k, by simpa using hk, by simp [h]⟩

/-- the set of the first k marks -/
def keyS (s : ByteArray) : Lit := .string s.data.toList
theorem keyS_ne {s t : ByteArray} (h : s ≠ t) : keyS s ≠ keyS t := fun e => h (by
  cases s; cases t
  simp [keyS] at e
  simp [e])
def markSet {H : Type} (ss : List ByteArray) (k : Nat) : DataW H := setOf (.lit (.bool true)) ((ss.take k).map keyS)
theorem markSet_zero {H : Type} (ss : List ByteArray) : markSet (H := H) ss 0 = .map [] := rfl
theorem markSet_succ {H : Type} {ss : List ByteArray} {k : Nat} (hk : k < ss.length) : markSet (H := H) ss (k + 1) = (markSet ss k).put (keyS (stN ss k)) (.lit (.bool true)) := by
  unfold markSet
  rw [List.take_succ_eq_append_getElem hk, List.map_append, ← setOf_snoc]
  rw [stN_getD hk]
  rfl
theorem keys_ok (l : List ByteArray) : ∀ x ∈ l.map keyS, WideAt.IsKeyLit x := by
  intro x hx
  obtain ⟨s, _, rfl⟩ := List.mem_map.1 hx
  trivial
theorem markSet_has {H : Type} {ss : List ByteArray} {k : Nat} (hk : k ≤ ss.length) : has (markSet (H := H) ss k) (keyS (stN ss k)) = !freshB ss k := by
  unfold markSet
  rw [has_setOf _ _ _ (keys_ok _), Bool.eq_iff_iff, List.any_eq_true, Bool.not_eq_true', ← Bool.not_eq_true, freshB_iff]
  constructor
  · rintro ⟨x, hx, hs⟩ hf
    obtain ⟨s, hs2, rfl⟩ := List.mem_map.1 hx
    obtain ⟨j, hj, rfl⟩ := List.getElem_of_mem hs2
    have hjk : j < k := by simp at hj; omega
    have hjl : j < ss.length := by omega
    refine hf j hjk ?_
    rw [List.getElem_take, ← stN_getD hjl] at hs
    false_or_by_contra
    rename_i hn
    rw [sameKey_ne (keyS_ne hn)] at hs
    cases hs
  · intro h
    false_or_by_contra
    rename_i hn
    refine h (fun j hj he => hn ⟨keyS (stN ss j), List.mem_map.2 ⟨stN ss j, ?_, rfl⟩, ?_⟩)
    · have hjl : j < ss.length := by omega
      rw [stN_getD hjl]
      have : j < (ss.take k).length := by simp; omega
      rw [← List.getElem_take (h := this)]
      exact List.getElem_mem _
    · rw [he, WideAt.sameKey_self (a := keyS (stN ss k)) trivial]
theorem markSet_size {H : Type} {ss : List ByteArray} : ∀ k, k ≤ ss.length → size (markSet (H := H) ss k) ≤ k ∧ (size (markSet (H := H) ss k) = k ↔ ∀ i, i < k → freshB ss i = true)
  | 0, _ => ⟨Nat.le_refl _, ⟨fun _ i hi => absurd hi (Nat.not_lt_zero _), fun _ => rfl⟩⟩
  | k + 1, hk => by
    obtain ⟨h1, h2⟩ := markSet_size (H := H) (ss := ss) k (by omega)
    have hs : size (markSet (H := H) ss (k + 1)) = if has (markSet (H := H) ss k) (keyS (stN ss k)) then size (markSet (H := H) ss k) else size (markSet (H := H) ss k) + 1 := by
      rw [markSet_succ (by omega)]
      exact size_put (tidy_setOf _ _ (keys_ok _)) _
    rw [hs, markSet_has (by omega)]
    cases hf : freshB ss k with
    | false =>
      simp only [Bool.not_false, if_true]
      refine ⟨by omega, ⟨fun h => by omega, fun h => ?_⟩⟩
      have := h k (by omega)
      rw [hf] at this
      cases this
    | true =>
      simp only [Bool.not_true, Bool.false_eq_true, if_false]
      refine ⟨by omega, ⟨fun h i hi => ?_, fun h => ?_⟩⟩
      · by_cases e : i = k
        · subst e; exact hf
        · exact h2.1 (by omega) i (by omega)
      · have := h2.2 (fun i hi => h i (by omega))
        omega
theorem markSet_dist {H : Type} (ss : List ByteArray) : decide (size (markSet (H := H) ss ss.length) = ss.length) = distB ss := by
  rw [Bool.eq_iff_iff, decide_eq_true_eq, (markSet_size (H := H) (ss := ss) ss.length (Nat.le_refl _)).2]
  simp [distB]

/-! the moves -/
def mvOk (n : Nat) (ms : List Mv) (i : Nat) : Bool := decide ((0 ≤ mvF ms i ∧ mvF ms i < n) ∧ (0 ≤ mvT ms i ∧ mvT ms i < n) ∧ (0 ≤ mvB ms i ∧ mvB ms i < 24))
def movesB (n : Nat) (ms : List Mv) : Bool := (List.range ms.length).all (mvOk n ms)
theorem movesB_true {n : Nat} {ms : List Mv} (h : ∀ i, i < ms.length → mvOk n ms i = true) : movesB n ms = true := by
  simpa [movesB] using h
theorem movesB_false {n k : Nat} {ms : List Mv} (hk : k < ms.length) (h : mvOk n ms k = false) : movesB n ms = false := by
  unfold movesB
  rw [List.all_eq_false]
  exact ⟨k, by simpa using hk, by simp [h]⟩
theorem movesB_at {n k : Nat} {ms : List Mv} (h : movesB n ms = true) (hk : k < ms.length) : mvOk n ms k = true := by
  unfold movesB at h
  rw [List.all_eq_true] at h
  exact h k (by simpa using hk)

/-- a valid reachability graph -/
def goodR (r : RgD) : Bool := decide (1 ≤ r.marks.length ∧ r.marks.length ≤ 300 ∧ r.moves.length ≤ 4000) && (distB r.marks && movesB r.marks.length r.moves)
theorem goodR_len {r : RgD} (h : goodR r = true) : 1 ≤ r.marks.length ∧ r.marks.length ≤ 300 ∧ r.moves.length ≤ 4000 := by
  unfold goodR at h
  simp only [Bool.and_eq_true, decide_eq_true_eq] at h
  exact h.1
theorem goodR_moves {r : RgD} (h : goodR r = true) {k : Nat} (hk : k < r.moves.length) : (0 ≤ mvF r.moves k ∧ mvF r.moves k < r.marks.length) ∧ (0 ≤ mvT r.moves k ∧ mvT r.moves k < r.marks.length) ∧ (0 ≤ mvB r.moves k ∧ mvB r.moves k < 24) := by
  unfold goodR at h
  simp only [Bool.and_eq_true, decide_eq_true_eq] at h
  have := movesB_at h.2.2 hk
  unfold mvOk at this
  exact of_decide_eq_true this

end Go.Proofs.Ytigkgfdnnfmmmaa
