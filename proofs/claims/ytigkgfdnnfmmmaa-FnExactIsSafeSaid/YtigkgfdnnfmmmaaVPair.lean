/- PLAIN PART: a slice of pairs of cells (signals, labels), a row of pairs that is filled from the front; signals and labels as data. No program is named here. -/
import Derived.Test.YtigkgfdnnfmmmaaVNetd
namespace Go.Proofs.Ytigkgfdnnfmmmaa
open Go.RowKit

/-- what a slice of n pairs reads as; its cells lie from block lo on -/
def PairsAt (lo : Nat) (w : World) (v : Value) (n : Nat) (x y : Nat → Value) : Prop :=
  ∃ (ao : Option Addr) (cap : Nat), v = .slice ao n cap ∧ n ≤ cap ∧
    (n = 0 ∨ ∃ b off, ao = some ⟨b, off, none⟩ ∧ lo ≤ b ∧ ∀ i, i < n → w.cell? ⟨b, off + i * 2, none⟩ = some (x i) ∧ w.cell? ⟨b, off + i * 2 + 1, none⟩ = some (y i))

theorem PairsAt.keep {lo : Nat} {w w' : World} {v : Value} {n : Nat} {x y : Nat → Value} (h : PairsAt lo w v n x y) (hb : Carries lo w w') : PairsAt lo w' v n x y := by
  obtain ⟨ao, cap, hv, hc, hz⟩ := h
  refine ⟨ao, cap, hv, hc, ?_⟩
  rcases hz with hz | ⟨b, off, ha, hlo, hcell⟩
  · exact Or.inl hz
  · exact Or.inr ⟨b, off, ha, hlo, fun i hi => ⟨hb _ _ hlo (hcell i hi).1, hb _ _ hlo (hcell i hi).2⟩⟩

theorem PairsAt.low {lo lo' : Nat} {w : World} {v : Value} {n : Nat} {x y : Nat → Value} (h : PairsAt lo w v n x y) (hl : lo' ≤ lo) : PairsAt lo' w v n x y := by
  obtain ⟨ao, cap, hv, hc, hz⟩ := h
  refine ⟨ao, cap, hv, hc, ?_⟩
  rcases hz with hz | ⟨b, off, ha, hlo, hcell⟩
  · exact Or.inl hz
  · exact Or.inr ⟨b, off, ha, Nat.le_trans hl hlo, hcell⟩

/-- the first k pairs of the row b of n pairs are there -/
def PairRow (b : Nat) (t : TypeId) (w : World) (n k : Nat) (x y : Nat → Value) : Prop := ∃ f, w.rowIs b t (n * 2) f ∧ ∀ i, i < k → f (i * 2) = x i ∧ f (i * 2 + 1) = y i

theorem PairRow.keep {b : Nat} {t : TypeId} {w w' : World} {n k : Nat} {x y : Nat → Value} (h : PairRow b t w n k x y) (hb : w'.heap[b]? = w.heap[b]?) : PairRow b t w' n k x y := by
  obtain ⟨f, hr, ht⟩ := h
  exact ⟨f, hr.of_block hb, ht⟩

theorem PairRow.cells {b : Nat} {t : TypeId} {w : World} {n k : Nat} {x y : Nat → Value} (h : PairRow b t w n k x y) {i : Nat} (hi : i < n) : ∃ v0 v1, w.cell? ⟨b, i * 2, none⟩ = some v0 ∧ w.cell? ⟨b, i * 2 + 1, none⟩ = some v1 ∧ w.frozen? ⟨b, i * 2, none⟩ = false ∧ w.frozen? ⟨b, i * 2 + 1, none⟩ = false := by
  obtain ⟨f, hr, ht⟩ := h
  exact ⟨_, _, hr.cell (by omega), hr.cell (by omega), hr.frozen _, hr.frozen _⟩

theorem PairRow.put {b : Nat} {t : TypeId} {w : World} {n k : Nat} {x y : Nat → Value} (h : PairRow b t w n k x y) {v0 v1 : Value} (hk : k < n) (h0 : v0 = x k) (h1 : v1 = y k) :
    PairRow b t ((w.setCell ⟨b, k * 2, none⟩ v0).setCell ⟨b, k * 2 + 1, none⟩ v1) n (k + 1) x y := by
  obtain ⟨f, hr, hx⟩ := h
  refine ⟨_, (hr.set (k * 2) v0).set (k * 2 + 1) v1, fun i hi => ?_⟩
  by_cases e : i = k
  · subst e
    simp [show ¬ i * 2 = i * 2 + 1 by omega, h0, h1]
  · have h1 : ¬ i * 2 = k * 2 + 1 := by omega
    have h2 : ¬ i * 2 = k * 2 := by omega
    have h3 : ¬ i * 2 + 1 = k * 2 + 1 := by omega
    have h4 : ¬ i * 2 + 1 = k * 2 := by omega
    simp only [if_neg h1, if_neg h2, if_neg h3, if_neg h4]
    exact hx i (by omega)

theorem PairRow.read {b : Nat} {t : TypeId} {w : World} {n : Nat} {x y : Nat → Value} (h : PairRow b t w n n x y) : PairsAt b w (.slice (some ⟨b, 0, none⟩) n n) n x y := by
  obtain ⟨f, hr, ht⟩ := h
  refine ⟨_, _, rfl, Nat.le_refl _, Or.inr ⟨b, 0, rfl, Nat.le_refl _, fun i hi => ⟨?_, ?_⟩⟩⟩
  · rw [Nat.zero_add, hr.cell (by omega), (ht i hi).1]
  · rw [Nat.zero_add, hr.cell (by omega), (ht i hi).2]

/-! two strings are equal where their lists of bytes are -/
theorem bytes_loop_eq (s : ByteArray) : ∀ n i r, s.size - i = n → ByteArray.toList.loop s i r = r.reverse ++ s.data.toList.drop i := by
  intro n
  induction n with
  | zero =>
    intro i r h
    rw [ByteArray.toList.loop]
    have h2 : ¬ i < s.size := by omega
    rw [if_neg h2, List.drop_eq_nil_of_le]
    · simp
    · have : s.data.toList.length = s.size := Array.length_toList (xs := s.data)
      omega
  | succ n ih =>
    intro i r h
    rw [ByteArray.toList.loop]
    have h2 : i < s.size := by omega
    rw [if_pos h2, ih _ _ (by omega)]
    have hl : i < s.data.toList.length := by have : s.data.toList.length = s.size := Array.length_toList (xs := s.data)
                                             omega
    rw [List.drop_eq_getElem_cons hl]
    have hg : s.get! i = s.data.toList[i] := by
      show s.data[i]! = s.data.toList[i]
      rw [getElem!_pos s.data i (by simpa using hl)]
      simp
    simp [hg]
theorem bytes_toList_data (s : ByteArray) : s.toList = s.data.toList := by
  unfold ByteArray.toList
  rw [bytes_loop_eq s s.size 0 [] (by omega)]; simp
theorem bytes_toList_beq (s t : ByteArray) : (s.toList == t.toList) = decide (s = t) := by
  rw [bytes_toList_data, bytes_toList_data, Bool.eq_iff_iff]
  simp only [beq_iff_eq, decide_eq_true_eq]
  constructor
  · intro h
    cases s; cases t
    simp at h
    simp [h]
  · rintro rfl; rfl

/-- a signal: its name and its kind; a label: a signal's number, up or down -/
abbrev Sig := ByteArray × Int
abbrev Lab := Int × Bool
def sgN (ss : List Sig) (i : Nat) : ByteArray := (ss.getD i (ByteArray.empty, 0)).1
def sgK (ss : List Sig) (i : Nat) : Int := (ss.getD i (ByteArray.empty, 0)).2
def lbS (ls : List Lab) (i : Nat) : Int := (ls.getD i (0, false)).1
def lbU (ls : List Lab) (i : Nat) : Bool := (ls.getD i (0, false)).2

def SigsAt (lo : Nat) (w : World) (v : Value) (ss : List Sig) : Prop := PairsAt lo w v ss.length (fun i => .string (sgN ss i)) (fun i => .int .i64 (sgK ss i))
def LabsAt (lo : Nat) (w : World) (v : Value) (ls : List Lab) : Prop := PairsAt lo w v ls.length (fun i => .int .i64 (lbS ls i)) (fun i => .bool (lbU ls i))
theorem SigsAt.keep {lo : Nat} {w w' : World} {v : Value} {ss : List Sig} (h : SigsAt lo w v ss) (hb : Carries lo w w') : SigsAt lo w' v ss := PairsAt.keep h hb
theorem SigsAt.low {lo lo' : Nat} {w : World} {v : Value} {ss : List Sig} (h : SigsAt lo w v ss) (hl : lo' ≤ lo) : SigsAt lo' w v ss := PairsAt.low h hl
theorem LabsAt.keep {lo : Nat} {w w' : World} {v : Value} {ss : List Lab} (h : LabsAt lo w v ss) (hb : Carries lo w w') : LabsAt lo w' v ss := PairsAt.keep h hb
theorem LabsAt.low {lo lo' : Nat} {w : World} {v : Value} {ss : List Lab} (h : LabsAt lo w v ss) (hl : lo' ≤ lo) : LabsAt lo' w v ss := PairsAt.low h hl

def RetSigs (w : World) (ss : List Sig) (e : Ending) (w' : World) : Prop := ∃ v, e = .returned v ∧ SigsAt w.heap.size w' v ss ∧ Below w.heap.size w w'
def RetLabs (w : World) (ls : List Lab) (e : Ending) (w' : World) : Prop := ∃ v, e = .returned v ∧ LabsAt w.heap.size w' v ls ∧ Below w.heap.size w w'

/-- numbers that fit, names that are no longer than any string -/
def OkSigs (ss : List Sig) : Prop := ss.length ≤ 9223372036854775807 ∧ ∀ i, i < ss.length → (sgN ss i).size ≤ 9223372036854775807
def SmallSigs (ss : List Sig) : Prop := ss.length ≤ 1048576 ∧ ∀ i, i < ss.length → (sgN ss i).size ≤ 1048576

/-- a graph as data -/
structure StgD where
  net : NetD
  sigs : List Sig
  labs : List Lab
  start : ByteArray

/-- what a graph's value reads as -/
def StgAt (lo : Nat) (w : World) (v : Value) (s : StgD) : Prop :=
  ∃ vt vs vl, v = .agg #[.int .i64 s.net.places, vt, vs, vl, .string s.start] ∧ NetAt lo w (.agg #[.int .i64 s.net.places, vt]) s.net ∧ SigsAt lo w vs s.sigs ∧ LabsAt lo w vl s.labs
theorem StgAt.keep {lo : Nat} {w w' : World} {v : Value} {s : StgD} (h : StgAt lo w v s) (hb : Carries lo w w') : StgAt lo w' v s := by
  obtain ⟨vt, vs, vl, hv, h1, h2, h3⟩ := h
  exact ⟨vt, vs, vl, hv, h1.keep hb, h2.keep hb, h3.keep hb⟩
theorem StgAt.low {lo lo' : Nat} {w : World} {v : Value} {s : StgD} (h : StgAt lo w v s) (hl : lo' ≤ lo) : StgAt lo' w v s := by
  obtain ⟨vt, vs, vl, hv, h1, h2, h3⟩ := h
  exact ⟨vt, vs, vl, hv, h1.low hl, h2.low hl, h3.low hl⟩
def RetStg (w : World) (s : StgD) (e : Ending) (w' : World) : Prop := ∃ v, e = .returned v ∧ StgAt w.heap.size w' v s ∧ Below w.heap.size w w'

end Go.Proofs.Ytigkgfdnnfmmmaa
