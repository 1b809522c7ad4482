/- PLAIN PART: what a valid name, valid signals, valid labels are. No program is named here. -/
import Derived.Test.YtnmoocgocnjdjaaVPair
import Derived.Test.YtnmoocgocnjdjaaVGeteq
namespace Go.Proofs.Ytnmoocgocnjdjaa
open Go.RowKit

/-- a byte of a name at place i -/
def NameAt (s : ByteArray) (i : Nat) : Prop := (97 ≤ (s.get! i).toNat ∧ (s.get! i).toNat ≤ 122) ∨ (0 < i ∧ 48 ≤ (s.get! i).toNat ∧ (s.get! i).toNat ≤ 57)
instance (s : ByteArray) (i : Nat) : Decidable (NameAt s i) := by unfold NameAt; infer_instance
def NameTo (s : ByteArray) (k : Nat) : Prop := ∀ i, i < k → NameAt s i
instance (s : ByteArray) (k : Nat) : Decidable (NameTo s k) := by unfold NameTo; infer_instance
def nameB (s : ByteArray) : Bool := decide (NameTo s s.size) && decide (1 ≤ s.size ∧ s.size ≤ 6)
theorem NameTo.zero (s : ByteArray) : NameTo s 0 := fun _ h => absurd h (Nat.not_lt_zero _)
theorem NameTo.succ {s : ByteArray} {k : Nat} (h : NameTo s k) (hk : k < s.size) (hd : (97 ≤ s[k].toNat ∧ s[k].toNat ≤ 122) ∨ (0 < k ∧ 48 ≤ s[k].toNat ∧ s[k].toNat ≤ 57)) : NameTo s (k + 1) := by
  intro i hi
  by_cases e : i = k
  · subst e; unfold NameAt; rw [get!_eq hk]; exact hd
  · exact h i (by omega)
theorem nameB_bad {s : ByteArray} {k : Nat} (hk : k < s.size) (hd : ¬ ((97 ≤ s[k].toNat ∧ s[k].toNat ≤ 122) ∨ (0 < k ∧ 48 ≤ s[k].toNat ∧ s[k].toNat ≤ 57))) : nameB s = false := by
  have : decide (NameTo s s.size) = false := decide_eq_false fun h => hd (by have := h k hk; unfold NameAt at this; rw [get!_eq hk] at this; exact this)
  unfold nameB; rw [this]; rfl
theorem nameB_size {s : ByteArray} (h : ¬ (1 ≤ s.size ∧ s.size ≤ 6)) : nameB s = false := by
  unfold nameB; rw [decide_eq_false h]; simp
theorem nameB_good {s : ByteArray} (h : NameTo s s.size) (h2 : 1 ≤ s.size ∧ s.size ≤ 6) : nameB s = true := by
  unfold nameB; rw [decide_eq_true h, decide_eq_true h2]; rfl

/-- signal i fits: its name, its kind, no signal ahead of it has its name -/
def SigOk (ss : List Sig) (i : Nat) : Prop := nameB (sgN ss i) = true ∧ (1 ≤ sgK ss i ∧ sgK ss i ≤ 3) ∧ ∀ j, j < i → sgN ss i ≠ sgN ss j
instance (ss : List Sig) (i : Nat) : Decidable (SigOk ss i) := by unfold SigOk; infer_instance
def SigTo (ss : List Sig) (k : Nat) : Prop := ∀ i, i < k → SigOk ss i
instance (ss : List Sig) (k : Nat) : Decidable (SigTo ss k) := by unfold SigTo; infer_instance
def sigsB (ss : List Sig) : Bool := decide (SigTo ss ss.length) && decide (1 ≤ ss.length ∧ ss.length ≤ 8)
theorem sigsB_bad {ss : List Sig} {k : Nat} (hk : k < ss.length) (h : ¬ SigOk ss k) : sigsB ss = false := by
  have : decide (SigTo ss ss.length) = false := decide_eq_false fun hh => h (hh k hk)
  unfold sigsB; rw [this]; rfl
theorem sigsB_size {ss : List Sig} (h : ¬ (1 ≤ ss.length ∧ ss.length ≤ 8)) : sigsB ss = false := by
  unfold sigsB; rw [decide_eq_false h]; simp
theorem sigsB_good {ss : List Sig} (h : SigTo ss ss.length) (h2 : 1 ≤ ss.length ∧ ss.length ≤ 8) : sigsB ss = true := by
  unfold sigsB; rw [decide_eq_true h, decide_eq_true h2]; rfl

/-- label i fits m signals -/
def LabOk (m : Nat) (ls : List Lab) (i : Nat) : Prop := (0 ≤ lbS ls i ∧ lbS ls i < m) ∨ (lbS ls i = -1 ∧ lbU ls i = false)
instance (m : Nat) (ls : List Lab) (i : Nat) : Decidable (LabOk m ls i) := by unfold LabOk; infer_instance
def LabTo (m : Nat) (ls : List Lab) (k : Nat) : Prop := ∀ i, i < k → LabOk m ls i
instance (m : Nat) (ls : List Lab) (k : Nat) : Decidable (LabTo m ls k) := by unfold LabTo; infer_instance
def labsB (m : Nat) (ls : List Lab) : Bool := decide (LabTo m ls ls.length)
theorem labsB_bad {m : Nat} {ls : List Lab} {k : Nat} (hk : k < ls.length) (h : ¬ LabOk m ls k) : labsB m ls = false := decide_eq_false fun hh => h (hh k hk)

/-- a label fits, by its two parts -/
def labV (m : Nat) (a : Int) (u : Bool) : Bool := decide (0 ≤ a ∧ a < (m : Int)) || (decide (a = -1) && !u)
theorem labV_eq (m : Nat) (ls : List Lab) (i : Nat) : decide (LabOk m ls i) = labV m (lbS ls i) (lbU ls i) := by
  rw [Bool.eq_iff_iff, decide_eq_true_iff]
  unfold LabOk labV
  simp
theorem labV_in {m : Nat} {a : Int} {u : Bool} (h : 0 ≤ a ∧ a < (m : Int)) : labV m a u = true := by unfold labV; rw [decide_eq_true h]; rfl
theorem labV_out {m : Nat} {a : Int} {u : Bool} (h : ¬ (0 ≤ a ∧ a < (m : Int))) : labV m a u = (decide (a = -1) && !u) := by unfold labV; rw [decide_eq_false h]; rfl

end Go.Proofs.Ytnmoocgocnjdjaa
