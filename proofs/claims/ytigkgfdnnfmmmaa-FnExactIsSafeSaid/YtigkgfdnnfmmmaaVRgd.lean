/- PLAIN PART: slices of strings, slices of triples of cells (moves), a row of triples that is filled from the front; a reachability graph as data. No program is named here. -/
import Derived.Test.YtigkgfdnnfmmmaaVPair
namespace Go.Proofs.Ytigkgfdnnfmmmaa
open Go.RowKit

/-! strings -/
def stN (ss : List ByteArray) (i : Nat) : ByteArray := ss.getD i ByteArray.empty
theorem stN_getD {ss : List ByteArray} {i : Nat} (h : i < ss.length) : stN ss i = ss[i] := by simp [stN, List.getD, h]

/-- what a slice of strings reads as; its cells lie from block lo on -/
def TextsAt (lo : Nat) (w : World) (v : Value) (ss : List ByteArray) : Prop :=
  ∃ (ao : Option Addr) (cap : Nat), v = .slice ao ss.length cap ∧ ss.length ≤ cap ∧
    (ss.length = 0 ∨ ∃ b off, ao = some ⟨b, off, none⟩ ∧ lo ≤ b ∧ ∀ i, i < ss.length → w.cell? ⟨b, off + i, none⟩ = some (.string (stN ss i)))
theorem TextsAt.keep {lo : Nat} {w w' : World} {v : Value} {ss : List ByteArray} (h : TextsAt lo w v ss) (hb : Carries lo w w') : TextsAt lo w' v ss := by
  obtain ⟨ao, cap, hv, hc, hz⟩ := h
  refine ⟨ao, cap, hv, hc, ?_⟩
  rcases hz with hz | ⟨b, off, ha, hlo, hcell⟩
  · exact Or.inl hz
  · exact Or.inr ⟨b, off, ha, hlo, fun i hi => hb _ _ hlo (hcell i hi)⟩
theorem TextsAt.low {lo lo' : Nat} {w : World} {v : Value} {ss : List ByteArray} (h : TextsAt lo w v ss) (hl : lo' ≤ lo) : TextsAt lo' w v ss := by
  obtain ⟨ao, cap, hv, hc, hz⟩ := h
  refine ⟨ao, cap, hv, hc, ?_⟩
  rcases hz with hz | ⟨b, off, ha, hlo, hcell⟩
  · exact Or.inl hz
  · exact Or.inr ⟨b, off, ha, Nat.le_trans hl hlo, hcell⟩
theorem TextsAt.form {lo : Nat} {w : World} {v : Value} {ss : List ByteArray} (h : TextsAt lo w v ss) : ∃ a c, v = .slice a ss.length c := by
  obtain ⟨a, c, rfl, _, _⟩ := h
  exact ⟨a, c, rfl⟩
theorem texts_of_row {w : World} {b : Nat} {t : TypeId} {ss : List ByteArray} {f : Nat → Value} (h : w.rowIs b t ss.length f) (hf : ∀ i, i < ss.length → f i = .string (stN ss i)) : TextsAt b w (.slice (some ⟨b, 0, none⟩) ss.length ss.length) ss :=
  ⟨_, _, rfl, Nat.le_refl _, Or.inr ⟨b, 0, rfl, Nat.le_refl _, fun i hi => by rw [Nat.zero_add, h.cell hi, hf i hi]⟩⟩
def scopied (ss : List ByteArray) (k : Nat) : Nat → Value := fun j => if j < k then .string (stN ss j) else .string ByteArray.empty
theorem scopied_step (ss : List ByteArray) (k : Nat) : (fun j => if j = k then Value.string (stN ss k) else scopied ss k j) = scopied ss (k + 1) := by
  funext j
  unfold scopied
  by_cases h : j = k
  · subst h; simp
  · rw [if_neg h]; by_cases h2 : j < k
    · rw [if_pos h2, if_pos (by omega)]
    · rw [if_neg h2, if_neg (by omega)]
def RetTexts (w : World) (ss : List ByteArray) (e : Ending) (w' : World) : Prop := ∃ v, e = .returned v ∧ TextsAt w.heap.size w' v ss ∧ Below w.heap.size w w'

/-! triples -/
/-- what a slice of n triples reads as; its cells lie from block lo on -/
def TripsAt (lo : Nat) (w : World) (v : Value) (n : Nat) (x y z : Nat → Value) : Prop :=
  ∃ (ao : Option Addr) (cap : Nat), v = .slice ao n cap ∧ n ≤ cap ∧
    (n = 0 ∨ ∃ b off, ao = some ⟨b, off, none⟩ ∧ lo ≤ b ∧ ∀ i, i < n → w.cell? ⟨b, off + i * 3, none⟩ = some (x i) ∧ w.cell? ⟨b, off + i * 3 + 1, none⟩ = some (y i) ∧ w.cell? ⟨b, off + i * 3 + 2, none⟩ = some (z i))
theorem TripsAt.keep {lo : Nat} {w w' : World} {v : Value} {n : Nat} {x y z : Nat → Value} (h : TripsAt lo w v n x y z) (hb : Carries lo w w') : TripsAt lo w' v n x y z := by
  obtain ⟨ao, cap, hv, hc, hz⟩ := h
  refine ⟨ao, cap, hv, hc, ?_⟩
  rcases hz with hz | ⟨b, off, ha, hlo, hcell⟩
  · exact Or.inl hz
  · exact Or.inr ⟨b, off, ha, hlo, fun i hi => ⟨hb _ _ hlo (hcell i hi).1, hb _ _ hlo (hcell i hi).2.1, hb _ _ hlo (hcell i hi).2.2⟩⟩
theorem TripsAt.low {lo lo' : Nat} {w : World} {v : Value} {n : Nat} {x y z : Nat → Value} (h : TripsAt lo w v n x y z) (hl : lo' ≤ lo) : TripsAt lo' w v n x y z := by
  obtain ⟨ao, cap, hv, hc, hz⟩ := h
  refine ⟨ao, cap, hv, hc, ?_⟩
  rcases hz with hz | ⟨b, off, ha, hlo, hcell⟩
  · exact Or.inl hz
  · exact Or.inr ⟨b, off, ha, Nat.le_trans hl hlo, hcell⟩
/-- the first k triples of the row b of n triples are there -/
def TripRow (b : Nat) (t : TypeId) (w : World) (n k : Nat) (x y z : Nat → Value) : Prop := ∃ f, w.rowIs b t (n * 3) f ∧ ∀ i, i < k → f (i * 3) = x i ∧ f (i * 3 + 1) = y i ∧ f (i * 3 + 2) = z i
theorem TripRow.keep {b : Nat} {t : TypeId} {w w' : World} {n k : Nat} {x y z : Nat → Value} (h : TripRow b t w n k x y z) (hb : w'.heap[b]? = w.heap[b]?) : TripRow b t w' n k x y z := by
  obtain ⟨f, hr, ht⟩ := h
  exact ⟨f, hr.of_block hb, ht⟩
theorem TripRow.cells {b : Nat} {t : TypeId} {w : World} {n k : Nat} {x y z : Nat → Value} (h : TripRow b t w n k x y z) {i : Nat} (hi : i < n) : ∃ v0 v1 v2, w.cell? ⟨b, i * 3, none⟩ = some v0 ∧ w.cell? ⟨b, i * 3 + 1, none⟩ = some v1 ∧ w.cell? ⟨b, i * 3 + 2, none⟩ = some v2 ∧ w.frozen? ⟨b, i * 3, none⟩ = false ∧ w.frozen? ⟨b, i * 3 + 1, none⟩ = false ∧ w.frozen? ⟨b, i * 3 + 2, none⟩ = false := by
  obtain ⟨f, hr, ht⟩ := h
  exact ⟨_, _, _, hr.cell (by omega), hr.cell (by omega), hr.cell (by omega), hr.frozen _, hr.frozen _, hr.frozen _⟩
theorem TripRow.put {b : Nat} {t : TypeId} {w : World} {n k : Nat} {x y z : Nat → Value} (h : TripRow b t w n k x y z) {v0 v1 v2 : Value} (hk : k < n) (h0 : v0 = x k) (h1 : v1 = y k) (h2 : v2 = z k) :
    TripRow b t (((w.setCell ⟨b, k * 3, none⟩ v0).setCell ⟨b, k * 3 + 1, none⟩ v1).setCell ⟨b, k * 3 + 2, none⟩ v2) n (k + 1) x y z := by
  obtain ⟨f, hr, hx⟩ := h
  refine ⟨_, ((hr.set (k * 3) v0).set (k * 3 + 1) v1).set (k * 3 + 2) v2, fun i hi => ?_⟩
  by_cases e : i = k
  · subst e
    simp [show ¬ i * 3 = i * 3 + 1 by omega, show ¬ i * 3 = i * 3 + 2 by omega, h0, h1, h2]
  · have a1 : ¬ i * 3 = k * 3 + 2 := by omega
    have a2 : ¬ i * 3 = k * 3 + 1 := by omega
    have a3 : ¬ i * 3 = k * 3 := by omega
    have a4 : ¬ i * 3 + 1 = k * 3 + 2 := by omega
    have a5 : ¬ i * 3 + 1 = k * 3 + 1 := by omega
    have a6 : ¬ i * 3 + 1 = k * 3 := by omega
    have a7 : ¬ i * 3 + 2 = k * 3 + 2 := by omega
    have a8 : ¬ i * 3 + 2 = k * 3 + 1 := by omega
    have a9 : ¬ i * 3 + 2 = k * 3 := by omega
    simp only [if_neg a1, if_neg a2, if_neg a3, if_neg a4, if_neg a5, if_neg a6, if_neg a7, if_neg a8, if_neg a9]
    exact hx i (by omega)
theorem TripRow.read {b : Nat} {t : TypeId} {w : World} {n : Nat} {x y z : Nat → Value} (h : TripRow b t w n n x y z) : TripsAt b w (.slice (some ⟨b, 0, none⟩) n n) n x y z := by
  obtain ⟨f, hr, ht⟩ := h
  refine ⟨_, _, rfl, Nat.le_refl _, Or.inr ⟨b, 0, rfl, Nat.le_refl _, fun i hi => ⟨?_, ?_, ?_⟩⟩⟩
  · rw [Nat.zero_add, hr.cell (by omega), (ht i hi).1]
  · rw [Nat.zero_add, hr.cell (by omega), (ht i hi).2.1]
  · rw [Nat.zero_add, hr.cell (by omega), (ht i hi).2.2]

/-- a move: from, by, to -/
abbrev Mv := Int × Int × Int
def mvF (ms : List Mv) (i : Nat) : Int := (ms.getD i (0, 0, 0)).1
def mvB (ms : List Mv) (i : Nat) : Int := (ms.getD i (0, 0, 0)).2.1
def mvT (ms : List Mv) (i : Nat) : Int := (ms.getD i (0, 0, 0)).2.2
theorem mv_getD {zs : List Mv} {i : Nat} (h : i < zs.length) : (mvF zs i, mvB zs i, mvT zs i) = zs[i] := by simp [mvF, mvB, mvT, List.getD, h]
def MovesAt (lo : Nat) (w : World) (v : Value) (ms : List Mv) : Prop := TripsAt lo w v ms.length (fun i => .int .i64 (mvF ms i)) (fun i => .int .i64 (mvB ms i)) (fun i => .int .i64 (mvT ms i))
theorem MovesAt.keep {lo : Nat} {w w' : World} {v : Value} {ss : List Mv} (h : MovesAt lo w v ss) (hb : Carries lo w w') : MovesAt lo w' v ss := TripsAt.keep h hb
theorem MovesAt.low {lo lo' : Nat} {w : World} {v : Value} {ss : List Mv} (h : MovesAt lo w v ss) (hl : lo' ≤ lo) : MovesAt lo' w v ss := TripsAt.low h hl
theorem MovesAt.form {lo : Nat} {w : World} {v : Value} {ss : List Mv} (h : MovesAt lo w v ss) : ∃ a c, v = .slice a ss.length c := by
  obtain ⟨a, c, rfl, _, _⟩ := h
  exact ⟨a, c, rfl⟩
def RetMoves (w : World) (ms : List Mv) (e : Ending) (w' : World) : Prop := ∃ v, e = .returned v ∧ MovesAt w.heap.size w' v ms ∧ Below w.heap.size w w'

/-- a reachability graph as data -/
structure RgD where
  marks : List ByteArray
  moves : List Mv

/-- numbers that fit, marks that are no longer than any string -/
def OkTexts (ss : List ByteArray) : Prop := ss.length ≤ 9223372036854775807 ∧ ∀ i, i < ss.length → (stN ss i).size ≤ 9223372036854775807
def SmallTexts (ss : List ByteArray) : Prop := ss.length ≤ 1048576 ∧ ∀ i, i < ss.length → (stN ss i).size ≤ 1048576
def OkRg (r : RgD) : Prop := OkTexts r.marks ∧ r.moves.length ≤ 9223372036854775807 ∧ ∀ i, i < r.moves.length → (-9223372036854775808 ≤ mvF r.moves i ∧ mvF r.moves i ≤ 9223372036854775807) ∧ (-9223372036854775808 ≤ mvB r.moves i ∧ mvB r.moves i ≤ 9223372036854775807) ∧ (-9223372036854775808 ≤ mvT r.moves i ∧ mvT r.moves i ≤ 9223372036854775807)
def SmallRg (r : RgD) : Prop := SmallTexts r.marks ∧ r.moves.length ≤ 1048576

def RgAt (lo : Nat) (w : World) (v : Value) (r : RgD) : Prop := ∃ vs vm, v = .agg #[vs, vm] ∧ TextsAt lo w vs r.marks ∧ MovesAt lo w vm r.moves
theorem RgAt.keep {lo : Nat} {w w' : World} {v : Value} {r : RgD} (h : RgAt lo w v r) (hb : Carries lo w w') : RgAt lo w' v r := by
  obtain ⟨vs, vm, hv, h1, h2⟩ := h
  exact ⟨vs, vm, hv, h1.keep hb, h2.keep hb⟩
theorem RgAt.low {lo lo' : Nat} {w : World} {v : Value} {r : RgD} (h : RgAt lo w v r) (hl : lo' ≤ lo) : RgAt lo' w v r := by
  obtain ⟨vs, vm, hv, h1, h2⟩ := h
  exact ⟨vs, vm, hv, h1.low hl, h2.low hl⟩
theorem RgAt.form {lo : Nat} {w : World} {v : Value} {r : RgD} (h : RgAt lo w v r) : ∃ a0 c0 a1 c1, v = .agg #[.slice a0 r.marks.length c0, .slice a1 r.moves.length c1] ∧ TextsAt lo w (.slice a0 r.marks.length c0) r.marks ∧ MovesAt lo w (.slice a1 r.moves.length c1) r.moves := by
  obtain ⟨vs, vm, rfl, h1, h2⟩ := h
  obtain ⟨a0, c0, rfl⟩ := h1.form
  obtain ⟨a1, c1, rfl⟩ := h2.form
  exact ⟨a0, c0, a1, c1, rfl, h1, h2⟩
def RetRg (w : World) (r : RgD) (e : Ending) (w' : World) : Prop := ∃ v, e = .returned v ∧ RgAt w.heap.size w' v r ∧ Below w.heap.size w w'

end Go.Proofs.Ytigkgfdnnfmmmaa
