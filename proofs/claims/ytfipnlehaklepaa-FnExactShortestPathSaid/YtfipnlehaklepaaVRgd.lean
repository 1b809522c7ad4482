/- WALK: markText answers some string. What may be stirred: blocks from lo on, before hi.
   PLAIN PART: slices of strings, slices of triples of cells (moves), a row of triples that is filled from the front; a reachability graph as data. No program is named here. -/
import Derived.Test.YtfipnlehaklepaaVSep
import Derived.Test.YtfipnlehaklepaaVStga
import Derived.Laws.BytesString
import Derived.Test.YtfipnlehaklepaaVSiga
namespace Go.Proofs.Ytfipnlehaklepaa
open Go.RowKit

theorem conv_one (w : World) (e : TypeId) (z : Int) : (convert 196 9 (.slice (some ⟨w.heap.size, 0, none⟩) 1 1)).run Try.prog (w.alloc (.cells #[.int .u8 z] e)) = .ok (.string (ByteArray.empty.push (UInt8.ofNat z.toNat))) (w.alloc (.cells #[.int .u8 z] e)) := by
  rw [run_convert_bytes_string _ 196 9 5 _ _ _ Try.underlying196 Try.underlying5 Try.underlying9]
  have hl := run_loadCells_list (P := Try.prog) (w.alloc (.cells #[.int .u8 z] e)) ⟨w.heap.size, 0, none⟩ [.int .u8 z] (fun j v hv => by
    match j, hv with
    | 0, hv => simp only [List.getElem?_cons_zero, Option.some.injEq] at hv; subst hv; simp [Addr.add]
    | (j + 1), hv => simp at hv)
  exact run_bytesToString _ ⟨w.heap.size, 0, none⟩ 1 1 [z] hl

set_option maxHeartbeats 1000000 in
theorem markText_any (k : Int) (w : World) (h0 : 0 ≤ k) (h1 : k ≤ 1099511627776000) :
    Calls Try.prog 128 #[.int .i64 k] w (fun e w' => ∃ s, e = .returned (.string s) ∧ Below w.heap.size w w') := by
  have kc := conv_one
  go_enter Try.func128, Try.ntmps128
  by_cases hk : k ≤ 0
  · go_wp2_with fail
    go_ret
    exact ⟨_, rfl, Below.refl _ _⟩
  go_wp2_with fail
  go_loopw [0, 3] (fun nv sv wr => ∃ (x : Int) (s : ByteArray), 0 ≤ x ∧ (s.size : Int) + x ≤ k ∧ nv = .int .i64 x ∧ sv = .string s ∧ Below w.heap.size w wr) (fun nv _ _ => (intOf nv).toNat)
  case atStart => exact ⟨k, ByteArray.empty, h0, by show ((0 : Nat) : Int) + k ≤ k; omega, rfl, rfl, Below.refl _ _⟩
  case round =>
    obtain ⟨x, s, hx0, hx1, rfl, rfl, hb1⟩ := hrel
    have zz1 := hb1.size
    by_cases hlt : 0 < x
    · have e1 : x.tdiv 10 = x / 10 := Int.tdiv_eq_ediv_of_nonneg hx0
      have e2 : x.tmod 10 = x % 10 := Int.tmod_eq_emod_of_nonneg hx0
      have q0 : 0 ≤ x / 10 := by omega
      have q1 : x / 10 ≤ x := by omega
      have q2 : x / 10 < x := by omega
      have r0 : 0 ≤ x % 10 := by omega
      have r1 : x % 10 ≤ 9 := by omega
      have hsz : (ByteArray.empty.push (UInt8.ofNat (48 + x % 10).toNat) ++ s).size = 1 + s.size := by rw [ByteArray.size_append]; rfl
      have hsz2 : (ByteArray.empty.push (UInt8.ofNat (48 + x % 10).toNat)).size = 1 := rfl
      go_wp2_with fail
      go_roundw
      case rel => exact ⟨x / 10, _, q0, by rw [hsz]; omega, by go_num, rfl, by (repeat' (first | (with_reducible exact Below.refl _ _) | (with_reducible assumption) | (with_reducible refine Below.alloc ?_ ?_ _) | (with_reducible refine Below.drew ?_) | (with_reducible refine below_drewN ?_ _) | (with_reducible refine Below.setCell ?_ ?_ _) | go_size))⟩
      case measure => simp [intOf]; omega
    · have hsz3 : (s.size : Int) ≤ k := by omega
      go_wp2_with fail
      go_ret
      first
        | exact ⟨_, rfl, hb1⟩
        | exact ⟨⟨_, rfl⟩, hb1⟩

/-- the blocks from lo on, before hi, may have changed; of the others that were there none -/
structure Stir (lo hi : Nat) (w w' : World) : Prop where
  os : w'.os = w.os
  tape : w'.tape = w.tape
  output : w'.output = w.output
  size : w.heap.size ≤ w'.heap.size
  block : ∀ b, b < w.heap.size → (b < lo ∨ hi ≤ b) → w'.heap[b]? = w.heap[b]?
theorem Stir.of {w w' : World} (lo hi : Nat) (h : Below w.heap.size w w') : Stir lo hi w w' := ⟨h.os, h.tape, h.output, h.size, fun b hb _ => h.block b hb⟩
theorem Stir.refl (lo hi : Nat) (w : World) : Stir lo hi w w := Stir.of lo hi (Below.refl _ _)
theorem Stir.trans {lo hi : Nat} {a b c : World} (h : Stir lo hi a b) (k : Stir lo hi b c) : Stir lo hi a c :=
  ⟨k.os.trans h.os, k.tape.trans h.tape, k.output.trans h.output, Nat.le_trans h.size k.size, fun x hx hc => (k.block x (Nat.lt_of_lt_of_le hx h.size) hc).trans (h.block x hx hc)⟩
theorem Stir.wide {lo hi lo' hi' : Nat} {w w' : World} (h : Stir lo hi w w') (h1 : lo' ≤ lo) (h2 : hi ≤ hi') : Stir lo' hi' w w' :=
  ⟨h.os, h.tape, h.output, h.size, fun b hb hc => h.block b hb (by omega)⟩
theorem Stir.set {lo hi : Nat} {a w : World} (h : Stir lo hi a w) {p : Addr} (h1 : lo ≤ p.block) (h2 : p.block < hi) (u : Value) : Stir lo hi a (w.setCell p u) :=
  h.trans ⟨rfl, rfl, rfl, by simp, fun b _ hc => Below.heap_setCell _ _ _ _ (by omega)⟩
theorem Marks.stir {lo hi : Nat} {w w' : World} (h : Marks lo hi w w') : Stir lo hi w w' := ⟨h.os, h.tape, h.output, by rw [h.size]; exact Nat.le_refl _, fun b _ hc => h.block b hc⟩
theorem Stir.cell {lo hi : Nat} {w w' : World} {a : Addr} {v : Value} (h : Stir lo hi w w') (ha : a.block < lo ∨ hi ≤ a.block) (hc : w.cell? a = some v) : w'.cell? a = some v :=
  (World.cell?_of_block (h.block a.block (cell_old hc) ha)).trans hc
theorem Stir.frozen {lo hi : Nat} {w w' : World} {a : Addr} (h : Stir lo hi w w') (ha : a.block < lo ∨ hi ≤ a.block) (hb : a.block < w.heap.size) : w'.frozen? a = w.frozen? a :=
  World.frozen?_of_block (h.block a.block hb ha)
theorem Stir.below {lo hi B : Nat} {a w w' : World} (h : Stir lo hi w w') (hb : Below B a w) (hB : B ≤ lo) (hB2 : B ≤ w.heap.size) : Below B a w' :=
  hb.trans ⟨h.os, h.tape, h.output, h.size, fun k hk => h.block k (Nat.lt_of_lt_of_le hk hB2) (Or.inl (by omega))⟩

/-- n pairs of cells that may be written, in a block from lo on, before hi -/
def PairBox (lo hi : Nat) (w : World) (v : Value) (n : Nat) : Prop :=
  ∃ (ao : Option Addr) (cap : Nat), v = .slice ao n cap ∧
    (n = 0 ∨ ∃ b off, ao = some ⟨b, off, none⟩ ∧ lo ≤ b ∧ b < hi ∧ ∀ i, i < n * 2 → (∃ u, w.cell? ⟨b, off + i, none⟩ = some u) ∧ w.frozen? ⟨b, off + i, none⟩ = false)
theorem PairBox.form {lo hi : Nat} {w : World} {v : Value} {n : Nat} (h : PairBox lo hi w v n) : ∃ a c, v = .slice a n c := by
  obtain ⟨a, c, rfl, _⟩ := h
  exact ⟨a, c, rfl⟩
theorem PairBox.stir {lo hi l k : Nat} {w w' : World} {v : Value} {n : Nat} (h : PairBox lo hi w v n) (hs : Stir l k w w') (hc : hi ≤ l ∨ k ≤ lo) : PairBox lo hi w' v n := by
  obtain ⟨ao, cap, hv, hz⟩ := h
  refine ⟨ao, cap, hv, ?_⟩
  rcases hz with hz | ⟨b, off, ha, h1, h2, hcell⟩
  · exact Or.inl hz
  · refine Or.inr ⟨b, off, ha, h1, h2, fun i hi => ?_⟩
    obtain ⟨⟨u, hu⟩, hf⟩ := hcell i hi
    have hb := cell_old hu
    exact ⟨⟨u, hs.cell (by simp; omega) hu⟩, (hs.frozen (by simp; omega) hb).trans hf⟩

end Go.Proofs.Ytfipnlehaklepaa

namespace Go.Proofs.Ytfipnlehaklepaa
open Go.RowKit

/-! strings -/
def stN (ss : List ByteArray) (i : Nat) : ByteArray := ss.getD i ByteArray.empty
theorem stN_getD {ss : List ByteArray} {i : Nat} (h : i < ss.length) : stN ss i = ss[i] := by simp [stN, List.getD, h]

/-- what a slice of strings reads as; its cells lie from block lo on -/
def TextsAt (lo : Nat) (w : World) (v : Value) (ss : List ByteArray) : Prop :=
  ∃ (ao : Option Addr) (cap : Nat), v = .slice ao ss.length cap ∧ ss.length ≤ cap ∧
    (ss.length = 0 ∨ ∃ b off, ao = some ⟨b, off, none⟩ ∧ lo ≤ b ∧ ∀ i, i < ss.length → w.cell? ⟨b, off + i, none⟩ = some (.string (stN ss i)))
theorem TextsAt.keep {lo : Nat} {w w' : World} {v : Value} {ss : List ByteArray} (h : TextsAt lo w v ss) (hb : Carries lo w w') : TextsAt lo w' v ss := by
  obtain ⟨ao, cap, hv, hc, hz⟩ := h
  refine ⟨ao, cap, hv, hc, ?_⟩
  rcases hz with hz | ⟨b, off, ha, hlo, hcell⟩
  · exact Or.inl hz
  · exact Or.inr ⟨b, off, ha, hlo, fun i hi => hb _ _ hlo (hcell i hi)⟩
theorem TextsAt.low {lo lo' : Nat} {w : World} {v : Value} {ss : List ByteArray} (h : TextsAt lo w v ss) (hl : lo' ≤ lo) : TextsAt lo' w v ss := by
  obtain ⟨ao, cap, hv, hc, hz⟩ := h
  refine ⟨ao, cap, hv, hc, ?_⟩
  rcases hz with hz | ⟨b, off, ha, hlo, hcell⟩
  · exact Or.inl hz
  · exact Or.inr ⟨b, off, ha, Nat.le_trans hl hlo, hcell⟩
theorem TextsAt.form {lo : Nat} {w : World} {v : Value} {ss : List ByteArray} (h : TextsAt lo w v ss) : ∃ a c, v = .slice a ss.length c := by
  obtain ⟨a, c, rfl, _, _⟩ := h
  exact ⟨a, c, rfl⟩
theorem texts_of_row {w : World} {b : Nat} {t : TypeId} {ss : List ByteArray} {f : Nat → Value} (h : w.rowIs b t ss.length f) (hf : ∀ i, i < ss.length → f i = .string (stN ss i)) : TextsAt b w (.slice (some ⟨b, 0, none⟩) ss.length ss.length) ss :=
  ⟨_, _, rfl, Nat.le_refl _, Or.inr ⟨b, 0, rfl, Nat.le_refl _, fun i hi => by rw [Nat.zero_add, h.cell hi, hf i hi]⟩⟩
def scopied (ss : List ByteArray) (k : Nat) : Nat → Value := fun j => if j < k then .string (stN ss j) else .string ByteArray.empty
theorem scopied_step (ss : List ByteArray) (k : Nat) : (fun j => if j = k then Value.string (stN ss k) else scopied ss k j) = scopied ss (k + 1) := by
  funext j
  unfold scopied
  by_cases h : j = k
  · subst h; simp
  · rw [if_neg h]; by_cases h2 : j < k
    · rw [if_pos h2, if_pos (by omega)]
    · rw [if_neg h2, if_neg (by omega)]
def RetTexts (w : World) (ss : List ByteArray) (e : Ending) (w' : World) : Prop := ∃ v, e = .returned v ∧ TextsAt w.heap.size w' v ss ∧ Below w.heap.size w w'

/-! triples -/
/-- what a slice of n triples reads as; its cells lie from block lo on -/
def TripsAt (lo : Nat) (w : World) (v : Value) (n : Nat) (x y z : Nat → Value) : Prop :=
  ∃ (ao : Option Addr) (cap : Nat), v = .slice ao n cap ∧ n ≤ cap ∧
    (n = 0 ∨ ∃ b off, ao = some ⟨b, off, none⟩ ∧ lo ≤ b ∧ ∀ i, i < n → w.cell? ⟨b, off + i * 3, none⟩ = some (x i) ∧ w.cell? ⟨b, off + i * 3 + 1, none⟩ = some (y i) ∧ w.cell? ⟨b, off + i * 3 + 2, none⟩ = some (z i))
theorem TripsAt.keep {lo : Nat} {w w' : World} {v : Value} {n : Nat} {x y z : Nat → Value} (h : TripsAt lo w v n x y z) (hb : Carries lo w w') : TripsAt lo w' v n x y z := by
  obtain ⟨ao, cap, hv, hc, hz⟩ := h
  refine ⟨ao, cap, hv, hc, ?_⟩
  rcases hz with hz | ⟨b, off, ha, hlo, hcell⟩
  · exact Or.inl hz
  · exact Or.inr ⟨b, off, ha, hlo, fun i hi => ⟨hb _ _ hlo (hcell i hi).1, hb _ _ hlo (hcell i hi).2.1, hb _ _ hlo (hcell i hi).2.2⟩⟩
theorem TripsAt.low {lo lo' : Nat} {w : World} {v : Value} {n : Nat} {x y z : Nat → Value} (h : TripsAt lo w v n x y z) (hl : lo' ≤ lo) : TripsAt lo' w v n x y z := by
  obtain ⟨ao, cap, hv, hc, hz⟩ := h
  refine ⟨ao, cap, hv, hc, ?_⟩
  rcases hz with hz | ⟨b, off, ha, hlo, hcell⟩
  · exact Or.inl hz
  · exact Or.inr ⟨b, off, ha, Nat.le_trans hl hlo, hcell⟩
/-- the first k triples of the row b of n triples are there -/
def TripRow (b : Nat) (t : TypeId) (w : World) (n k : Nat) (x y z : Nat → Value) : Prop := ∃ f, w.rowIs b t (n * 3) f ∧ ∀ i, i < k → f (i * 3) = x i ∧ f (i * 3 + 1) = y i ∧ f (i * 3 + 2) = z i
theorem TripRow.keep {b : Nat} {t : TypeId} {w w' : World} {n k : Nat} {x y z : Nat → Value} (h : TripRow b t w n k x y z) (hb : w'.heap[b]? = w.heap[b]?) : TripRow b t w' n k x y z := by
  obtain ⟨f, hr, ht⟩ := h
  exact ⟨f, hr.of_block hb, ht⟩
theorem TripRow.cells {b : Nat} {t : TypeId} {w : World} {n k : Nat} {x y z : Nat → Value} (h : TripRow b t w n k x y z) {i : Nat} (hi : i < n) : ∃ v0 v1 v2, w.cell? ⟨b, i * 3, none⟩ = some v0 ∧ w.cell? ⟨b, i * 3 + 1, none⟩ = some v1 ∧ w.cell? ⟨b, i * 3 + 2, none⟩ = some v2 ∧ w.frozen? ⟨b, i * 3, none⟩ = false ∧ w.frozen? ⟨b, i * 3 + 1, none⟩ = false ∧ w.frozen? ⟨b, i * 3 + 2, none⟩ = false := by
  obtain ⟨f, hr, ht⟩ := h
  exact ⟨_, _, _, hr.cell (by omega), hr.cell (by omega), hr.cell (by omega), hr.frozen _, hr.frozen _, hr.frozen _⟩
theorem TripRow.put {b : Nat} {t : TypeId} {w : World} {n k : Nat} {x y z : Nat → Value} (h : TripRow b t w n k x y z) {v0 v1 v2 : Value} (hk : k < n) (h0 : v0 = x k) (h1 : v1 = y k) (h2 : v2 = z k) :
    TripRow b t (((w.setCell ⟨b, k * 3, none⟩ v0).setCell ⟨b, k * 3 + 1, none⟩ v1).setCell ⟨b, k * 3 + 2, none⟩ v2) n (k + 1) x y z := by
  obtain ⟨f, hr, hx⟩ := h
  refine ⟨_, ((hr.set (k * 3) v0).set (k * 3 + 1) v1).set (k * 3 + 2) v2, fun i hi => ?_⟩
  by_cases e : i = k
  · subst e
    simp [show ¬ i * 3 = i * 3 + 1 by omega, show ¬ i * 3 = i * 3 + 2 by omega, h0, h1, h2]
  · have a1 : ¬ i * 3 = k * 3 + 2 := by omega
    have a2 : ¬ i * 3 = k * 3 + 1 := by omega
    have a3 : ¬ i * 3 = k * 3 := by omega
    have a4 : ¬ i * 3 + 1 = k * 3 + 2 := by omega
    have a5 : ¬ i * 3 + 1 = k * 3 + 1 := by omega
    have a6 : ¬ i * 3 + 1 = k * 3 := by omega
    have a7 : ¬ i * 3 + 2 = k * 3 + 2 := by omega
    have a8 : ¬ i * 3 + 2 = k * 3 + 1 := by omega
    have a9 : ¬ i * 3 + 2 = k * 3 := by omega
    simp only [if_neg a1, if_neg a2, if_neg a3, if_neg a4, if_neg a5, if_neg a6, if_neg a7, if_neg a8, if_neg a9]
    exact hx i (by omega)
theorem TripRow.read {b : Nat} {t : TypeId} {w : World} {n : Nat} {x y z : Nat → Value} (h : TripRow b t w n n x y z) : TripsAt b w (.slice (some ⟨b, 0, none⟩) n n) n x y z := by
  obtain ⟨f, hr, ht⟩ := h
  refine ⟨_, _, rfl, Nat.le_refl _, Or.inr ⟨b, 0, rfl, Nat.le_refl _, fun i hi => ⟨?_, ?_, ?_⟩⟩⟩
  · rw [Nat.zero_add, hr.cell (by omega), (ht i hi).1]
  · rw [Nat.zero_add, hr.cell (by omega), (ht i hi).2.1]
  · rw [Nat.zero_add, hr.cell (by omega), (ht i hi).2.2]

/-- a move: from, by, to -/
abbrev Mv := Int × Int × Int
def mvF (ms : List Mv) (i : Nat) : Int := (ms.getD i (0, 0, 0)).1
def mvB (ms : List Mv) (i : Nat) : Int := (ms.getD i (0, 0, 0)).2.1
def mvT (ms : List Mv) (i : Nat) : Int := (ms.getD i (0, 0, 0)).2.2
theorem mv_getD {zs : List Mv} {i : Nat} (h : i < zs.length) : (mvF zs i, mvB zs i, mvT zs i) = zs[i] := by simp [mvF, mvB, mvT, List.getD, h]
def MovesAt (lo : Nat) (w : World) (v : Value) (ms : List Mv) : Prop := TripsAt lo w v ms.length (fun i => .int .i64 (mvF ms i)) (fun i => .int .i64 (mvB ms i)) (fun i => .int .i64 (mvT ms i))
theorem MovesAt.keep {lo : Nat} {w w' : World} {v : Value} {ss : List Mv} (h : MovesAt lo w v ss) (hb : Carries lo w w') : MovesAt lo w' v ss := TripsAt.keep h hb
theorem MovesAt.low {lo lo' : Nat} {w : World} {v : Value} {ss : List Mv} (h : MovesAt lo w v ss) (hl : lo' ≤ lo) : MovesAt lo' w v ss := TripsAt.low h hl
theorem MovesAt.form {lo : Nat} {w : World} {v : Value} {ss : List Mv} (h : MovesAt lo w v ss) : ∃ a c, v = .slice a ss.length c := by
  obtain ⟨a, c, rfl, _, _⟩ := h
  exact ⟨a, c, rfl⟩
def RetMoves (w : World) (ms : List Mv) (e : Ending) (w' : World) : Prop := ∃ v, e = .returned v ∧ MovesAt w.heap.size w' v ms ∧ Below w.heap.size w w'

/-- a reachability graph as data -/
structure RgD where
  marks : List ByteArray
  moves : List Mv

/-- numbers that fit, marks that are no longer than any string -/
def OkTexts (ss : List ByteArray) : Prop := ss.length ≤ 9223372036854775807 ∧ ∀ i, i < ss.length → (stN ss i).size ≤ 9223372036854775807
def SmallTexts (ss : List ByteArray) : Prop := ss.length ≤ 1048576 ∧ ∀ i, i < ss.length → (stN ss i).size ≤ 1048576
def OkRg (r : RgD) : Prop := OkTexts r.marks ∧ r.moves.length ≤ 9223372036854775807 ∧ ∀ i, i < r.moves.length → (-9223372036854775808 ≤ mvF r.moves i ∧ mvF r.moves i ≤ 9223372036854775807) ∧ (-9223372036854775808 ≤ mvB r.moves i ∧ mvB r.moves i ≤ 9223372036854775807) ∧ (-9223372036854775808 ≤ mvT r.moves i ∧ mvT r.moves i ≤ 9223372036854775807)
def SmallRg (r : RgD) : Prop := SmallTexts r.marks ∧ r.moves.length ≤ 1048576

def RgAt (lo : Nat) (w : World) (v : Value) (r : RgD) : Prop := ∃ vs vm, v = .agg #[vs, vm] ∧ TextsAt lo w vs r.marks ∧ MovesAt lo w vm r.moves
theorem RgAt.keep {lo : Nat} {w w' : World} {v : Value} {r : RgD} (h : RgAt lo w v r) (hb : Carries lo w w') : RgAt lo w' v r := by
  obtain ⟨vs, vm, hv, h1, h2⟩ := h
  exact ⟨vs, vm, hv, h1.keep hb, h2.keep hb⟩
theorem RgAt.low {lo lo' : Nat} {w : World} {v : Value} {r : RgD} (h : RgAt lo w v r) (hl : lo' ≤ lo) : RgAt lo' w v r := by
  obtain ⟨vs, vm, hv, h1, h2⟩ := h
  exact ⟨vs, vm, hv, h1.low hl, h2.low hl⟩
theorem RgAt.form {lo : Nat} {w : World} {v : Value} {r : RgD} (h : RgAt lo w v r) : ∃ a0 c0 a1 c1, v = .agg #[.slice a0 r.marks.length c0, .slice a1 r.moves.length c1] ∧ TextsAt lo w (.slice a0 r.marks.length c0) r.marks ∧ MovesAt lo w (.slice a1 r.moves.length c1) r.moves := by
  obtain ⟨vs, vm, rfl, h1, h2⟩ := h
  obtain ⟨a0, c0, rfl⟩ := h1.form
  obtain ⟨a1, c1, rfl⟩ := h2.form
  exact ⟨a0, c0, a1, c1, rfl, h1, h2⟩
def RetRg (w : World) (r : RgD) (e : Ending) (w' : World) : Prop := ∃ v, e = .returned v ∧ RgAt w.heap.size w' v r ∧ Below w.heap.size w w'

end Go.Proofs.Ytfipnlehaklepaa
