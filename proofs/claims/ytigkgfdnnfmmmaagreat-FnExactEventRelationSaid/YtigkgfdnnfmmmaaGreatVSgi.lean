/- PLAIN PART: byte k of a string, by its two readings. No program is named here.
   PLAIN PART: what a valid name, valid signals, valid labels are. No program is named here.
   PLAIN PART: codes of zeros and ones, a code with one bit set, what arcs of a valid state graph are, what a valid state graph is. No program is named here.
   WALKS: isCode of the program (a range over a string); slices.IndexFunc and slices.ContainsFunc of strings and of arcs, at any closure whose answers are known; hasCodes. -/
import Derived.Test.YtigkgfdnnfmmmaaGreatVPair
import Derived.Test.YtigkgfdnnfmmmaaGreatVSgr
import Derived.Laws.RangeAny
namespace Go.Proofs.YtigkgfdnnfmmmaaGreat
open Go.RowKit

theorem get!_eq {s : ByteArray} {k : Nat} (h : k < s.size) : s.get! k = s[k] := by
  show s.data[k]! = s.data[k]
  exact getElem!_pos s.data k h

end Go.Proofs.YtigkgfdnnfmmmaaGreat

namespace Go.Proofs.YtigkgfdnnfmmmaaGreat
open Go.RowKit

/-- a byte of a name at place i -/
def NameAt (s : ByteArray) (i : Nat) : Prop := (97 ≤ (s.get! i).toNat ∧ (s.get! i).toNat ≤ 122) ∨ (0 < i ∧ 48 ≤ (s.get! i).toNat ∧ (s.get! i).toNat ≤ 57)
instance (s : ByteArray) (i : Nat) : Decidable (NameAt s i) := by unfold NameAt; infer_instance
def NameTo (s : ByteArray) (k : Nat) : Prop := ∀ i, i < k → NameAt s i
instance (s : ByteArray) (k : Nat) : Decidable (NameTo s k) := by unfold NameTo; infer_instance
def nameB (s : ByteArray) : Bool := decide (NameTo s s.size) && decide (1 ≤ s.size ∧ s.size ≤ 6)
theorem NameTo.zero (s : ByteArray) : NameTo s 0 := fun _ h => absurd h (Nat.not_lt_zero _)
theorem NameTo.succ {s : ByteArray} {k : Nat} (h : NameTo s k) (hk : k < s.size) (hd : (97 ≤ s[k].toNat ∧ s[k].toNat ≤ 122) ∨ (0 < k ∧ 48 ≤ s[k].toNat ∧ s[k].toNat ≤ 57)) : NameTo s (k + 1) := by
  intro i hi
  by_cases e : i = k
  · subst e; unfold NameAt; rw [get!_eq hk]; exact hd
  · exact h i (by omega)
theorem nameB_bad {s : ByteArray} {k : Nat} (hk : k < s.size) (hd : ¬ ((97 ≤ s[k].toNat ∧ s[k].toNat ≤ 122) ∨ (0 < k ∧ 48 ≤ s[k].toNat ∧ s[k].toNat ≤ 57))) : nameB s = false := by
  have : decide (NameTo s s.size) = false := decide_eq_false fun h => hd (by have := h k hk; unfold NameAt at this; rw [get!_eq hk] at this; exact this)
  unfold nameB; rw [this]; rfl
theorem nameB_size {s : ByteArray} (h : ¬ (1 ≤ s.size ∧ s.size ≤ 6)) : nameB s = false := by
  unfold nameB; rw [decide_eq_false h]; simp
theorem nameB_good {s : ByteArray} (h : NameTo s s.size) (h2 : 1 ≤ s.size ∧ s.size ≤ 6) : nameB s = true := by
  unfold nameB; rw [decide_eq_true h, decide_eq_true h2]; rfl

/-- signal i fits: its name, its kind, no signal ahead of it has its name -/
def SigOk (ss : List Sig) (i : Nat) : Prop := nameB (sgN ss i) = true ∧ (1 ≤ sgK ss i ∧ sgK ss i ≤ 3) ∧ ∀ j, j < i → sgN ss i ≠ sgN ss j
instance (ss : List Sig) (i : Nat) : Decidable (SigOk ss i) := by unfold SigOk; infer_instance
def SigTo (ss : List Sig) (k : Nat) : Prop := ∀ i, i < k → SigOk ss i
instance (ss : List Sig) (k : Nat) : Decidable (SigTo ss k) := by unfold SigTo; infer_instance
def sigsB (ss : List Sig) : Bool := decide (SigTo ss ss.length) && decide (1 ≤ ss.length ∧ ss.length ≤ 8)
theorem sigsB_bad {ss : List Sig} {k : Nat} (hk : k < ss.length) (h : ¬ SigOk ss k) : sigsB ss = false := by
  have : decide (SigTo ss ss.length) = false := decide_eq_false fun hh => h (hh k hk)
  unfold sigsB; rw [this]; rfl
theorem sigsB_size {ss : List Sig} (h : ¬ (1 ≤ ss.length ∧ ss.length ≤ 8)) : sigsB ss = false := by
  unfold sigsB; rw [decide_eq_false h]; simp
theorem sigsB_good {ss : List Sig} (h : SigTo ss ss.length) (h2 : 1 ≤ ss.length ∧ ss.length ≤ 8) : sigsB ss = true := by
  unfold sigsB; rw [decide_eq_true h, decide_eq_true h2]; rfl

/-- label i fits m signals -/
def LabOk (m : Nat) (ls : List Lab) (i : Nat) : Prop := (0 ≤ lbS ls i ∧ lbS ls i < m) ∨ (lbS ls i = -1 ∧ lbU ls i = false)
instance (m : Nat) (ls : List Lab) (i : Nat) : Decidable (LabOk m ls i) := by unfold LabOk; infer_instance
def LabTo (m : Nat) (ls : List Lab) (k : Nat) : Prop := ∀ i, i < k → LabOk m ls i
instance (m : Nat) (ls : List Lab) (k : Nat) : Decidable (LabTo m ls k) := by unfold LabTo; infer_instance
def labsB (m : Nat) (ls : List Lab) : Bool := decide (LabTo m ls ls.length)
theorem labsB_bad {m : Nat} {ls : List Lab} {k : Nat} (hk : k < ls.length) (h : ¬ LabOk m ls k) : labsB m ls = false := decide_eq_false fun hh => h (hh k hk)

/-- a label fits, by its two parts -/
def labV (m : Nat) (a : Int) (u : Bool) : Bool := decide (0 ≤ a ∧ a < (m : Int)) || (decide (a = -1) && !u)
theorem labV_eq (m : Nat) (ls : List Lab) (i : Nat) : decide (LabOk m ls i) = labV m (lbS ls i) (lbU ls i) := by
  rw [Bool.eq_iff_iff, decide_eq_true_iff]
  unfold LabOk labV
  simp
theorem labV_in {m : Nat} {a : Int} {u : Bool} (h : 0 ≤ a ∧ a < (m : Int)) : labV m a u = true := by unfold labV; rw [decide_eq_true h]; rfl
theorem labV_out {m : Nat} {a : Int} {u : Bool} (h : ¬ (0 ≤ a ∧ a < (m : Int))) : labV m a u = (decide (a = -1) && !u) := by unfold labV; rw [decide_eq_false h]; rfl

end Go.Proofs.YtigkgfdnnfmmmaaGreat

namespace Go.Proofs.YtigkgfdnnfmmmaaGreat
open Go.RowKit

/-- byte i of a string -/
def byN (s : ByteArray) (i : Nat) : Nat := (s.data.getD i 0).toNat
theorem byN_get {s : ByteArray} {i : Nat} (h : i < s.size) : byN s i = (s[i]'h).toNat := by
  have h' : i < s.data.size := h
  unfold byN
  rw [Array.getD_eq_getD_getElem?, Array.getElem?_eq_getElem h']
  rfl
theorem byN_lt (s : ByteArray) (i : Nat) : byN s i < 256 := (s.data.getD i 0).toNat_lt
theorem bytes_ext {s t : ByteArray} (h : s.size = t.size) (hb : ∀ i, i < s.size → byN s i = byN t i) : s = t := by
  cases s with | mk a => cases t with | mk b =>
  have hs : a.size = b.size := h
  congr 1
  refine Array.ext hs (fun i h1 h2 => ?_)
  have := hb i h1
  rw [byN_get (s := ⟨a⟩) h1, byN_get (s := ⟨b⟩) h2] at this
  exact UInt8.toNat_inj.1 this

/-- a code of m bits -/
def CodeTo (s : ByteArray) (k : Nat) : Prop := ∀ i, i < k → byN s i = 48 ∨ byN s i = 49
def codeB (m : Nat) (s : ByteArray) : Bool := decide ((∀ i, i < s.size → byN s i = 48 ∨ byN s i = 49) ∧ s.size = m)
theorem codeB_bad {m : Nat} {s : ByteArray} {k : Nat} (hk : k < s.size) (h : ¬ (byN s k = 48 ∨ byN s k = 49)) : codeB m s = false := decide_eq_false fun hh => h (hh.1 k hk)
theorem codeB_all {m : Nat} {s : ByteArray} (h : CodeTo s s.size) : codeB m s = decide (s.size = m) := by
  unfold codeB
  rw [Bool.eq_iff_iff, decide_eq_true_eq, decide_eq_true_eq]
  exact ⟨fun hh => hh.2, fun hh => ⟨h, hh⟩⟩
theorem codeB_size {m : Nat} {s : ByteArray} (h : codeB m s = true) : s.size = m := (of_decide_eq_true h).2
theorem codeB_bit {m : Nat} {s : ByteArray} (h : codeB m s = true) {i : Nat} (hi : i < m) : byN s i = 48 ∨ byN s i = 49 := by
  have h2 := of_decide_eq_true h
  exact h2.1 i (by rw [h2.2]; exact hi)

def codesB (m : Nat) (ss : List ByteArray) : Bool := (List.range ss.length).all (fun i => codeB m (stN ss i))
theorem codesB_true {m : Nat} {ss : List ByteArray} (h : ∀ i, i < ss.length → codeB m (stN ss i) = true) : codesB m ss = true := by
  unfold codesB
  rw [List.all_eq_true]
  intro i hi
  exact h i (by simpa using hi)
theorem codesB_false {m k : Nat} {ss : List ByteArray} (hk : k < ss.length) (h : codeB m (stN ss k) = false) : codesB m ss = false := by
  unfold codesB
  rw [List.all_eq_false]
  exact ⟨k, by simpa using hk, by simp [h]⟩
theorem codesB_at {m k : Nat} {ss : List ByteArray} (h : codesB m ss = true) (hk : k < ss.length) : codeB m (stN ss k) = true := by
  unfold codesB at h
  rw [List.all_eq_true] at h
  exact h k (by simpa using hk)

/-! one arc -/
def bitN (u : Bool) : Nat := if u then 49 else 48
/-- signal q over an arc of signal s, edge u, from code x to code y -/
def FlipAt (s : Int) (u : Bool) (x y : ByteArray) (q : Nat) : Prop := byN y q = (if s = q then bitN u else byN x q) ∧ (s = q → byN x q ≠ byN y q)
instance (s : Int) (u : Bool) (x y : ByteArray) (q : Nat) : Decidable (FlipAt s u x y q) := by unfold FlipAt; exact inferInstance
def flipB (m : Nat) (s : Int) (u : Bool) (x y : ByteArray) : Bool := decide (∀ q, q < m → FlipAt s u x y q)
theorem flipB_bad {m : Nat} {s : Int} {u : Bool} {x y : ByteArray} {q : Nat} (hq : q < m) (h : ¬ FlipAt s u x y q) : flipB m s u x y = false := decide_eq_false fun hh => h (hh q hq)
theorem flipB_good {m : Nat} {s : Int} {u : Bool} {x y : ByteArray} (h : ∀ q, q < m → FlipAt s u x y q) : flipB m s u x y = true := decide_eq_true h

/-- an arc's numbers -/
def arcIn (n : Nat) (f t : Int) : Bool := decide ((0 ≤ f ∧ f < n) ∧ (0 ≤ t ∧ t < n))
def arcV (m : Nat) (ss : List ByteArray) (f s : Int) (u : Bool) (t : Int) : Bool :=
  arcIn ss.length f t && (labV m s u && flipB m s u (stN ss f.toNat) (stN ss t.toNat))
def arcsB (m : Nat) (ss : List ByteArray) (ms : List Ar) : Bool := (List.range ms.length).all (fun i => arcV m ss (arF ms i) (arS ms i) (arU ms i) (arT ms i))
theorem arcsB_true {m : Nat} {ss : List ByteArray} {ms : List Ar} (h : ∀ i, i < ms.length → arcV m ss (arF ms i) (arS ms i) (arU ms i) (arT ms i) = true) : arcsB m ss ms = true := by
  unfold arcsB
  rw [List.all_eq_true]
  intro i hi
  exact h i (by simpa using hi)
theorem arcsB_false {m k : Nat} {ss : List ByteArray} {ms : List Ar} (hk : k < ms.length) (h : arcV m ss (arF ms k) (arS ms k) (arU ms k) (arT ms k) = false) : arcsB m ss ms = false := by
  unfold arcsB
  rw [List.all_eq_false]
  exact ⟨k, by simpa using hk, by simp [h]⟩
theorem arcsB_at {m k : Nat} {ss : List ByteArray} {ms : List Ar} (h : arcsB m ss ms = true) (hk : k < ms.length) : arcV m ss (arF ms k) (arS ms k) (arU ms k) (arT ms k) = true := by
  unfold arcsB at h
  rw [List.all_eq_true] at h
  exact h k (by simpa using hk)
theorem arcV_in {m : Nat} {ss : List ByteArray} {f s : Int} {u : Bool} {t : Int} (h : arcV m ss f s u t = true) : (0 ≤ f ∧ f < ss.length) ∧ (0 ≤ t ∧ t < ss.length) := by
  unfold arcV arcIn at h
  simp only [Bool.and_eq_true, decide_eq_true_eq] at h
  exact h.1
theorem arcV_lab {m : Nat} {ss : List ByteArray} {f s : Int} {u : Bool} {t : Int} (h : arcV m ss f s u t = true) : labV m s u = true := by
  unfold arcV at h
  simp only [Bool.and_eq_true] at h
  exact h.2.1

/-- the sizes of a state graph -/
def SgLen (r : SgD) : Prop := (1 ≤ r.codes.length ∧ r.codes.length ≤ 300) ∧ r.arcs.length ≤ 4000
instance (r : SgD) : Decidable (SgLen r) := by unfold SgLen; exact inferInstance
/-- a valid state graph -/
def goodG (r : SgD) : Bool := sigsB r.sigs && (decide (SgLen r) && (codesB r.sigs.length r.codes && (arcsB r.sigs.length r.codes r.arcs && allMet r.codes.length r.arcs)))
theorem goodG_sigs {r : SgD} (h : sigsB r.sigs = false) : goodG r = false := by unfold goodG; rw [h]; rfl
theorem goodG_len {r : SgD} (h : ¬ SgLen r) : goodG r = false := by unfold goodG; rw [decide_eq_false h]; simp
theorem goodG_codes {r : SgD} (h : codesB r.sigs.length r.codes = false) : goodG r = false := by unfold goodG; rw [h]; simp
theorem goodG_arcs {r : SgD} (h : arcsB r.sigs.length r.codes r.arcs = false) : goodG r = false := by unfold goodG; rw [h]; simp
theorem goodG_all {r : SgD} (h1 : sigsB r.sigs = true) (h2 : SgLen r) (h3 : codesB r.sigs.length r.codes = true) (h4 : arcsB r.sigs.length r.codes r.arcs = true) : goodG r = allMet r.codes.length r.arcs := by
  unfold goodG; rw [h1, decide_eq_true h2, h3, h4]; rfl
theorem goodG_get {r : SgD} (h : goodG r = true) : sigsB r.sigs = true ∧ SgLen r ∧ codesB r.sigs.length r.codes = true ∧ arcsB r.sigs.length r.codes r.arcs = true ∧ allMet r.codes.length r.arcs = true := by
  unfold goodG at h
  simp only [Bool.and_eq_true, decide_eq_true_eq] at h
  exact ⟨h.1, h.2.1, h.2.2.1, h.2.2.2.1, h.2.2.2.2⟩

end Go.Proofs.YtigkgfdnnfmmmaaGreat

namespace Go.Proofs.YtigkgfdnnfmmmaaGreat
open Go.RowKit

theorem CodeTo.succ {s : ByteArray} {k : Nat} (h : CodeTo s k) (hb : byN s k = 48 ∨ byN s k = 49) : CodeTo s (k + 1) := by
  intro i hi
  by_cases e : i = k
  · subst e; exact hb
  · exact h i (by omega)
theorem Below.iter {w : World} (s : ByteArray) (p : Nat) : Below w.heap.size w (w.iter s p) := (Below.refl _ _).alloc (Nat.le_refl _) _

/-! IndexFunc, ContainsFunc at a closure whose answers are known -/
def anyTo (n : Nat) (g : Nat → Bool) : Bool := (List.range n).any g
theorem anyTo_true {n k : Nat} {g : Nat → Bool} (hk : k < n) (h : g k = true) : anyTo n g = true := by
  unfold anyTo
  rw [List.any_eq_true]
  exact ⟨k, by simpa using hk, h⟩
theorem anyTo_false {n : Nat} {g : Nat → Bool} (h : ∀ k, k < n → g k = false) : anyTo n g = false := by
  unfold anyTo
  rw [List.any_eq_false]
  intro k hk
  rw [h k (by simpa using hk)]
  simp
theorem anyTo_not (n : Nat) (g : Nat → Bool) : anyTo n (fun k => !g k) = !(List.range n).all g := by
  unfold anyTo
  rw [List.not_all_eq_any_not]
/-- a call returns a number that is at least 0 where some element is found -/
def RetIx (w : World) (g : Bool) (e : Ending) (w' : World) : Prop := ∃ r : Int, e = .returned (.int .i64 r) ∧ -1 ≤ r ∧ r ≤ 1048576 ∧ g = decide (0 ≤ r) ∧ Below w.heap.size w w'

end Go.Proofs.YtigkgfdnnfmmmaaGreat
