/- PLAIN PART: codes of zeros and ones, a code with one bit set, what arcs of a valid state graph are, what a valid state graph is. No program is named here. -/
import Derived.Test.YtnmoocgocnjdjaaVSgr
import Derived.Test.YtnmoocgocnjdjaaVStgv
namespace Go.Proofs.Ytnmoocgocnjdjaa
open Go.RowKit

/-- byte i of a string -/
def byN (s : ByteArray) (i : Nat) : Nat := (s.data.getD i 0).toNat
theorem byN_get {s : ByteArray} {i : Nat} (h : i < s.size) : byN s i = (s[i]'h).toNat := by
  have h' : i < s.data.size := h
  unfold byN
  rw [Array.getD_eq_getD_getElem?, Array.getElem?_eq_getElem h']
  rfl
theorem byN_lt (s : ByteArray) (i : Nat) : byN s i < 256 := (s.data.getD i 0).toNat_lt
theorem bytes_ext {s t : ByteArray} (h : s.size = t.size) (hb : ∀ i, i < s.size → byN s i = byN t i) : s = t := by
  cases s with | mk a => cases t with | mk b =>
  have hs : a.size = b.size := h
  congr 1
  refine Array.ext hs (fun i h1 h2 => ?_)
  have := hb i h1
  rw [byN_get (s := ⟨a⟩) h1, byN_get (s := ⟨b⟩) h2] at this
  exact UInt8.toNat_inj.1 this

/-- a code of m bits -/
def CodeTo (s : ByteArray) (k : Nat) : Prop := ∀ i, i < k → byN s i = 48 ∨ byN s i = 49
def codeB (m : Nat) (s : ByteArray) : Bool := decide ((∀ i, i < s.size → byN s i = 48 ∨ byN s i = 49) ∧ s.size = m)
theorem codeB_bad {m : Nat} {s : ByteArray} {k : Nat} (hk : k < s.size) (h : ¬ (byN s k = 48 ∨ byN s k = 49)) : codeB m s = false := decide_eq_false fun hh => h (hh.1 k hk)
theorem codeB_all {m : Nat} {s : ByteArray} (h : CodeTo s s.size) : codeB m s = decide (s.size = m) := by
  unfold codeB
  rw [Bool.eq_iff_iff, decide_eq_true_eq, decide_eq_true_eq]
  exact ⟨fun hh => hh.2, fun hh => ⟨h, hh⟩⟩
theorem codeB_size {m : Nat} {s : ByteArray} (h : codeB m s = true) : s.size = m := (of_decide_eq_true h).2
theorem codeB_bit {m : Nat} {s : ByteArray} (h : codeB m s = true) {i : Nat} (hi : i < m) : byN s i = 48 ∨ byN s i = 49 := by
  have h2 := of_decide_eq_true h
  exact h2.1 i (by rw [h2.2]; exact hi)

def codesB (m : Nat) (ss : List ByteArray) : Bool := (List.range ss.length).all (fun i => codeB m (stN ss i))
theorem codesB_true {m : Nat} {ss : List ByteArray} (h : ∀ i, i < ss.length → codeB m (stN ss i) = true) : codesB m ss = true := by
  unfold codesB
  rw [List.all_eq_true]
  intro i hi
  exact h i (by simpa using hi)
theorem codesB_false {m k : Nat} {ss : List ByteArray} (hk : k < ss.length) (h : codeB m (stN ss k) = false) : codesB m ss = false := by
  unfold codesB
  rw [List.all_eq_false]
  exact ⟨k, by simpa using hk, by simp [h]⟩
theorem codesB_at {m k : Nat} {ss : List ByteArray} (h : codesB m ss = true) (hk : k < ss.length) : codeB m (stN ss k) = true := by
  unfold codesB at h
  rw [List.all_eq_true] at h
  exact h k (by simpa using hk)

/-! one arc -/
def bitN (u : Bool) : Nat := if u then 49 else 48
/-- signal q over an arc of signal s, edge u, from code x to code y -/
def FlipAt (s : Int) (u : Bool) (x y : ByteArray) (q : Nat) : Prop := byN y q = (if s = q then bitN u else byN x q) ∧ (s = q → byN x q ≠ byN y q)
instance (s : Int) (u : Bool) (x y : ByteArray) (q : Nat) : Decidable (FlipAt s u x y q) := by unfold FlipAt; exact inferInstance
def flipB (m : Nat) (s : Int) (u : Bool) (x y : ByteArray) : Bool := decide (∀ q, q < m → FlipAt s u x y q)
theorem flipB_bad {m : Nat} {s : Int} {u : Bool} {x y : ByteArray} {q : Nat} (hq : q < m) (h : ¬ FlipAt s u x y q) : flipB m s u x y = false := decide_eq_false fun hh => h (hh q hq)
theorem flipB_good {m : Nat} {s : Int} {u : Bool} {x y : ByteArray} (h : ∀ q, q < m → FlipAt s u x y q) : flipB m s u x y = true := decide_eq_true h

/-- an arc's numbers -/
def arcIn (n : Nat) (f t : Int) : Bool := decide ((0 ≤ f ∧ f < n) ∧ (0 ≤ t ∧ t < n))
def arcV (m : Nat) (ss : List ByteArray) (f s : Int) (u : Bool) (t : Int) : Bool :=
  arcIn ss.length f t && (labV m s u && flipB m s u (stN ss f.toNat) (stN ss t.toNat))
def arcsB (m : Nat) (ss : List ByteArray) (ms : List Ar) : Bool := (List.range ms.length).all (fun i => arcV m ss (arF ms i) (arS ms i) (arU ms i) (arT ms i))
theorem arcsB_true {m : Nat} {ss : List ByteArray} {ms : List Ar} (h : ∀ i, i < ms.length → arcV m ss (arF ms i) (arS ms i) (arU ms i) (arT ms i) = true) : arcsB m ss ms = true := by
  unfold arcsB
  rw [List.all_eq_true]
  intro i hi
  exact h i (by simpa using hi)
theorem arcsB_false {m k : Nat} {ss : List ByteArray} {ms : List Ar} (hk : k < ms.length) (h : arcV m ss (arF ms k) (arS ms k) (arU ms k) (arT ms k) = false) : arcsB m ss ms = false := by
  unfold arcsB
  rw [List.all_eq_false]
  exact ⟨k, by simpa using hk, by simp [h]⟩
theorem arcsB_at {m k : Nat} {ss : List ByteArray} {ms : List Ar} (h : arcsB m ss ms = true) (hk : k < ms.length) : arcV m ss (arF ms k) (arS ms k) (arU ms k) (arT ms k) = true := by
  unfold arcsB at h
  rw [List.all_eq_true] at h
  exact h k (by simpa using hk)
theorem arcV_in {m : Nat} {ss : List ByteArray} {f s : Int} {u : Bool} {t : Int} (h : arcV m ss f s u t = true) : (0 ≤ f ∧ f < ss.length) ∧ (0 ≤ t ∧ t < ss.length) := by
  unfold arcV arcIn at h
  simp only [Bool.and_eq_true, decide_eq_true_eq] at h
  exact h.1
theorem arcV_lab {m : Nat} {ss : List ByteArray} {f s : Int} {u : Bool} {t : Int} (h : arcV m ss f s u t = true) : labV m s u = true := by
  unfold arcV at h
  simp only [Bool.and_eq_true] at h
  exact h.2.1

/-- the sizes of a state graph -/
def SgLen (r : SgD) : Prop := (1 ≤ r.codes.length ∧ r.codes.length ≤ 300) ∧ r.arcs.length ≤ 4000
instance (r : SgD) : Decidable (SgLen r) := by unfold SgLen; exact inferInstance
/-- a valid state graph -/
def goodG (r : SgD) : Bool := sigsB r.sigs && (decide (SgLen r) && (codesB r.sigs.length r.codes && (arcsB r.sigs.length r.codes r.arcs && allMet r.codes.length r.arcs)))
theorem goodG_sigs {r : SgD} (h : sigsB r.sigs = false) : goodG r = false := by unfold goodG; rw [h]; rfl
theorem goodG_len {r : SgD} (h : ¬ SgLen r) : goodG r = false := by unfold goodG; rw [decide_eq_false h]; simp
theorem goodG_codes {r : SgD} (h : codesB r.sigs.length r.codes = false) : goodG r = false := by unfold goodG; rw [h]; simp
theorem goodG_arcs {r : SgD} (h : arcsB r.sigs.length r.codes r.arcs = false) : goodG r = false := by unfold goodG; rw [h]; simp
theorem goodG_all {r : SgD} (h1 : sigsB r.sigs = true) (h2 : SgLen r) (h3 : codesB r.sigs.length r.codes = true) (h4 : arcsB r.sigs.length r.codes r.arcs = true) : goodG r = allMet r.codes.length r.arcs := by
  unfold goodG; rw [h1, decide_eq_true h2, h3, h4]; rfl
theorem goodG_get {r : SgD} (h : goodG r = true) : sigsB r.sigs = true ∧ SgLen r ∧ codesB r.sigs.length r.codes = true ∧ arcsB r.sigs.length r.codes r.arcs = true ∧ allMet r.codes.length r.arcs = true := by
  unfold goodG at h
  simp only [Bool.and_eq_true, decide_eq_true_eq] at h
  exact ⟨h.1, h.2.1, h.2.2.1, h.2.2.2.1, h.2.2.2.2⟩

end Go.Proofs.Ytnmoocgocnjdjaa
