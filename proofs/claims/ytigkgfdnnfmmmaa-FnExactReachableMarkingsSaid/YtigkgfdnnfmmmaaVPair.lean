/- PLAIN PART: the program's firing on padded arrays is the model's on bytes.
   PLAIN PART: a slice of pairs of cells (signals, labels), a row of pairs that is filled from the front; signals and labels as data. No program is named here. -/
import Derived.Test.YtigkgfdnnfmmmaaVFireT
import Derived.Test.YtigkgfdnnfmmmaaVInts
namespace Go.Proofs.Ytigkgfdnnfmmmaa
open Go.RowKit

theorem InS.nonneg {N : Int} {l : List Int} (h : InS N l) : ∀ p ∈ l, 0 ≤ p := fun p hp => by
  obtain ⟨i, hi, rfl⟩ := List.mem_iff_getElem.1 hp
  have := (h i hi).1; rwa [getD_eq hi] at this
theorem InS.lt {N : Int} {l : List Int} (h : InS N l) : ∀ p ∈ l, p < N := fun p hp => by
  obtain ⟨i, hi, rfl⟩ := List.mem_iff_getElem.1 hp
  have := (h i hi).2; rwa [getD_eq hi] at this

theorem pad_putAll (v : UInt8) : ∀ (ps : List Int) (bs : List UInt8), (∀ p ∈ ps, 0 ≤ p ∧ p < bs.length) → putAll v (pad bs) ps = pad (putAll v bs ps)
  | [], _, _ => rfl
  | p :: ps, bs, h => by
    have h0 := h p (List.mem_cons_self ..)
    have e1 : putAll v (pad bs) (p :: ps) = putAll v ((pad bs).set p.toNat v) ps := rfl
    have e2 : putAll v bs (p :: ps) = putAll v (bs.set p.toNat v) ps := rfl
    have e3 : (pad bs).set p.toNat v = pad (bs.set p.toNat v) := by
      unfold pad
      rw [List.set_append_left _ _ (by omega), List.length_set]
    rw [e1, e2, e3]
    exact pad_putAll v ps (bs.set p.toNat v) (fun q hq => by rw [List.length_set]; exact h q (List.mem_cons_of_mem _ hq))

theorem pad_getD {bs : List UInt8} {i : Nat} (h : i < bs.length) : (pad bs).getD i 0 = bs.getD i 0 := by
  unfold pad
  simp [List.getD, List.getElem?_append_left h]

theorem putAll_same {v : UInt8} {xs : List UInt8} {b : List Int} (hb : ∀ p ∈ b, 0 ≤ p ∧ p < xs.length) : (putAll v xs b == xs) = decide (∀ p ∈ b, xs.getD p.toNat 0 = v) := by
  by_cases h : ∀ p ∈ b, xs.getD p.toNat 0 = v
  · rw [decide_eq_true h]
    refine beq_iff_eq.2 (bytes_ext (putAll_length _ _ _) fun i hi => ?_)
    rw [putAll_length] at hi
    rw [putAll_getD v b xs i (fun p hp => (hb p hp).1) hi]
    by_cases c : (i : Int) ∈ b
    · rw [if_pos c]; exact (h i c).symm
    · rw [if_neg c]
  · rw [decide_eq_false h]
    refine beq_eq_false_iff_ne.2 fun he => h fun p hp => ?_
    have h0 := hb p hp
    have h2 := putAll_getD v b xs p.toNat (fun p hp => (hb p hp).1) (by omega)
    rw [he, if_pos (by rw [Int.toNat_of_nonneg h0.1]; exact hp)] at h2
    exact h2

theorem all_decide (bs : List UInt8) (ps : List Int) (v : UInt8) : (ps.all fun p => bs.getD p.toNat 0 == v) = decide (∀ p ∈ ps, bs.getD p.toNat 0 = v) := by
  rw [Bool.eq_iff_iff]
  simp only [List.all_eq_true, beq_iff_eq, decide_eq_true_eq]

/-- only '0' and '1' -/
def Dig (bs : List UInt8) : Prop := ∀ i, i < bs.length → bs.getD i 0 = 48 ∨ bs.getD i 0 = 49
theorem Dig.put {bs : List UInt8} (h : Dig bs) {v : UInt8} (hv : v = 48 ∨ v = 49) {ps : List Int} (hp : ∀ p ∈ ps, 0 ≤ p) : Dig (putAll v bs ps) := fun i hi => by
  rw [putAll_length] at hi
  rw [putAll_getD v ps bs i hp hi]
  by_cases c : (i : Int) ∈ ps
  · rw [if_pos c]; exact hv
  · rw [if_neg c]; exact h i hi
theorem mark_dig {n : NetD} {s : ByteArray} (h : markB n s = true) : Dig (bytes s) := fun i hi => by
  unfold markB digB at h
  simp only [Bool.and_eq_true, decide_eq_true_eq] at h
  rw [bytes_length] at hi
  have h1 := h.1 i hi
  rw [get!_eq hi, ← byte_at hi] at h1
  rcases h1 with h1 | h1
  · left; exact UInt8.toNat_inj.1 h1
  · right; exact UInt8.toNat_inj.1 h1

theorem postB_eq {bs : List UInt8} (hd : Dig bs) {ps : List Int} (hp : ∀ p ∈ ps, 0 ≤ p ∧ p < bs.length) : postB bs ps = decide (∀ p ∈ ps, bs.getD p.toNat 0 = 48) := by
  unfold postB
  rw [Bool.eq_iff_iff]
  simp only [List.all_eq_true, Bool.not_eq_true', beq_eq_false_iff_ne, decide_eq_true_eq]
  refine ⟨fun h p hm => ?_, fun h p hm => ?_⟩
  · rcases hd p.toNat (by have := hp p hm; omega) with c | c
    · exact c
    · exact absurd c (h p hm)
  · rw [h p hm]; decide

theorem fire_parts {n : NetD} {s : ByteArray} {t : Int} (hg : goodN n = true) (hm : markB n s = true) (ht : inT n t = true) :
    ftOk (pad (bytes s)) (trOf n t) = fireOk n s t ∧ (fireOk n s t = true → (ftA (pad (bytes s)) (trOf n t)).take s.size = fireS n s t) ∧ (fireOk n s t = false → fireS n s t = []) := by
  have ht3 : 0 ≤ t ∧ t < n.ts.length := of_decide_eq_true ht
  obtain ⟨i1, i2, _, _⟩ := good_tr hg (t := t.toNat) (by omega)
  have hX : n.ts.getD t.toNat ([], []) = trOf n t := rfl
  rw [hX, ← mark_size hm] at i1 i2
  have hl := bytes_length s
  have b1 : ∀ p ∈ (trOf n t).1, 0 ≤ p ∧ p < (bytes s).length := fun p hp => ⟨i1.nonneg p hp, by rw [hl]; exact i1.lt p hp⟩
  have b2 : ∀ p ∈ (trOf n t).2, 0 ≤ p ∧ p < (restB s (trOf n t)).length := fun p hp => ⟨i2.nonneg p hp, by unfold restB; rw [putAll_length, hl]; exact i2.lt p hp⟩
  have h30 : (bytes s).length ≤ 30 := by
    have := mark_size hm
    have := (goodN_parts hg).2.1
    rw [hl]; omega
  have hdr : Dig (restB s (trOf n t)) := (mark_dig hm).put (Or.inl rfl) i1.nonneg
  have r1 : (putAll 49 (pad (bytes s)) (trOf n t).1 == pad (bytes s)) = readyB (bytes s) (trOf n t).1 := by
    rw [putAll_same (fun p hp => ⟨(b1 p hp).1, by have := b1 p hp; rw [pad_length h30]; omega⟩)]
    unfold readyB
    rw [all_decide]
    exact decide_eq_decide.2 ⟨fun h p hp => by have := h p hp; rwa [pad_getD (by have := b1 p hp; omega)] at this, fun h p hp => by rw [pad_getD (by have := b1 p hp; omega)]; exact h p hp⟩
  have r2 : putAll 48 (pad (bytes s)) (trOf n t).1 = pad (restB s (trOf n t)) := pad_putAll 48 _ _ b1
  have hrl : (restB s (trOf n t)).length ≤ 30 := by unfold restB; rw [putAll_length]; exact h30
  have r3 : (putAll 48 (pad (restB s (trOf n t))) (trOf n t).2 == pad (restB s (trOf n t))) = postB (restB s (trOf n t)) (trOf n t).2 := by
    rw [putAll_same (fun p hp => ⟨(b2 p hp).1, by have := b2 p hp; rw [pad_length hrl]; omega⟩), postB_eq hdr b2]
    exact decide_eq_decide.2 ⟨fun h p hp => by have := h p hp; rwa [pad_getD (by have := b2 p hp; omega)] at this, fun h p hp => by rw [pad_getD (by have := b2 p hp; omega)]; exact h p hp⟩
  have hok : ftOk (pad (bytes s)) (trOf n t) = fireOk n s t := by
    unfold ftOk fireOk canB
    rw [r1, r2, r3, hg, hm, ht]
    simp
  refine ⟨hok, fun h => ?_, fun h => ?_⟩
  · unfold ftA
    rw [hok, if_pos h, r2, pad_putAll 49 _ _ b2]
    have h' := h
    unfold fireOk at h'
    simp only [Bool.and_eq_true] at h'
    unfold fireS fired
    rw [if_pos h'.1, if_pos h'.2]
    have hlen : (putAll 49 (restB s (trOf n t)) (trOf n t).2).length = s.size := by
      rw [putAll_length]; unfold restB; rw [putAll_length, hl]
    unfold pad
    rw [← hlen, List.take_left']
    rfl
  · unfold fireOk at h
    unfold fireS fired
    by_cases c : canB n s t = true
    · rw [c, Bool.true_and] at h
      rw [if_pos c, if_neg (by rw [h]; simp)]
    · rw [if_neg c]

end Go.Proofs.Ytigkgfdnnfmmmaa

namespace Go.Proofs.Ytigkgfdnnfmmmaa
open Go.RowKit

/-- what a slice of n pairs reads as; its cells lie from block lo on -/
def PairsAt (lo : Nat) (w : World) (v : Value) (n : Nat) (x y : Nat → Value) : Prop :=
  ∃ (ao : Option Addr) (cap : Nat), v = .slice ao n cap ∧ n ≤ cap ∧
    (n = 0 ∨ ∃ b off, ao = some ⟨b, off, none⟩ ∧ lo ≤ b ∧ ∀ i, i < n → w.cell? ⟨b, off + i * 2, none⟩ = some (x i) ∧ w.cell? ⟨b, off + i * 2 + 1, none⟩ = some (y i))

theorem PairsAt.keep {lo : Nat} {w w' : World} {v : Value} {n : Nat} {x y : Nat → Value} (h : PairsAt lo w v n x y) (hb : Carries lo w w') : PairsAt lo w' v n x y := by
  obtain ⟨ao, cap, hv, hc, hz⟩ := h
  refine ⟨ao, cap, hv, hc, ?_⟩
  rcases hz with hz | ⟨b, off, ha, hlo, hcell⟩
  · exact Or.inl hz
  · exact Or.inr ⟨b, off, ha, hlo, fun i hi => ⟨hb _ _ hlo (hcell i hi).1, hb _ _ hlo (hcell i hi).2⟩⟩

theorem PairsAt.low {lo lo' : Nat} {w : World} {v : Value} {n : Nat} {x y : Nat → Value} (h : PairsAt lo w v n x y) (hl : lo' ≤ lo) : PairsAt lo' w v n x y := by
  obtain ⟨ao, cap, hv, hc, hz⟩ := h
  refine ⟨ao, cap, hv, hc, ?_⟩
  rcases hz with hz | ⟨b, off, ha, hlo, hcell⟩
  · exact Or.inl hz
  · exact Or.inr ⟨b, off, ha, Nat.le_trans hl hlo, hcell⟩

/-- the first k pairs of the row b of n pairs are there -/
def PairRow (b : Nat) (t : TypeId) (w : World) (n k : Nat) (x y : Nat → Value) : Prop := ∃ f, w.rowIs b t (n * 2) f ∧ ∀ i, i < k → f (i * 2) = x i ∧ f (i * 2 + 1) = y i

theorem PairRow.keep {b : Nat} {t : TypeId} {w w' : World} {n k : Nat} {x y : Nat → Value} (h : PairRow b t w n k x y) (hb : w'.heap[b]? = w.heap[b]?) : PairRow b t w' n k x y := by
  obtain ⟨f, hr, ht⟩ := h
  exact ⟨f, hr.of_block hb, ht⟩

theorem PairRow.cells {b : Nat} {t : TypeId} {w : World} {n k : Nat} {x y : Nat → Value} (h : PairRow b t w n k x y) {i : Nat} (hi : i < n) : ∃ v0 v1, w.cell? ⟨b, i * 2, none⟩ = some v0 ∧ w.cell? ⟨b, i * 2 + 1, none⟩ = some v1 ∧ w.frozen? ⟨b, i * 2, none⟩ = false ∧ w.frozen? ⟨b, i * 2 + 1, none⟩ = false := by
  obtain ⟨f, hr, ht⟩ := h
  exact ⟨_, _, hr.cell (by omega), hr.cell (by omega), hr.frozen _, hr.frozen _⟩

theorem PairRow.put {b : Nat} {t : TypeId} {w : World} {n k : Nat} {x y : Nat → Value} (h : PairRow b t w n k x y) {v0 v1 : Value} (hk : k < n) (h0 : v0 = x k) (h1 : v1 = y k) :
    PairRow b t ((w.setCell ⟨b, k * 2, none⟩ v0).setCell ⟨b, k * 2 + 1, none⟩ v1) n (k + 1) x y := by
  obtain ⟨f, hr, hx⟩ := h
  refine ⟨_, (hr.set (k * 2) v0).set (k * 2 + 1) v1, fun i hi => ?_⟩
  by_cases e : i = k
  · subst e
    simp [show ¬ i * 2 = i * 2 + 1 by omega, h0, h1]
  · have h1 : ¬ i * 2 = k * 2 + 1 := by omega
    have h2 : ¬ i * 2 = k * 2 := by omega
    have h3 : ¬ i * 2 + 1 = k * 2 + 1 := by omega
    have h4 : ¬ i * 2 + 1 = k * 2 := by omega
    simp only [if_neg h1, if_neg h2, if_neg h3, if_neg h4]
    exact hx i (by omega)

theorem PairRow.read {b : Nat} {t : TypeId} {w : World} {n : Nat} {x y : Nat → Value} (h : PairRow b t w n n x y) : PairsAt b w (.slice (some ⟨b, 0, none⟩) n n) n x y := by
  obtain ⟨f, hr, ht⟩ := h
  refine ⟨_, _, rfl, Nat.le_refl _, Or.inr ⟨b, 0, rfl, Nat.le_refl _, fun i hi => ⟨?_, ?_⟩⟩⟩
  · rw [Nat.zero_add, hr.cell (by omega), (ht i hi).1]
  · rw [Nat.zero_add, hr.cell (by omega), (ht i hi).2]

/-! two strings are equal where their lists of bytes are -/
theorem bytes_loop_eq (s : ByteArray) : ∀ n i r, s.size - i = n → ByteArray.toList.loop s i r = r.reverse ++ s.data.toList.drop i := by
  intro n
  induction n with
  | zero =>
    intro i r h
    rw [ByteArray.toList.loop]
    have h2 : ¬ i < s.size := by omega
    rw [if_neg h2, List.drop_eq_nil_of_le]
    · simp
    · have : s.data.toList.length = s.size := Array.length_toList (xs := s.data)
      omega
  | succ n ih =>
    intro i r h
    rw [ByteArray.toList.loop]
    have h2 : i < s.size := by omega
    rw [if_pos h2, ih _ _ (by omega)]
    have hl : i < s.data.toList.length := by have : s.data.toList.length = s.size := Array.length_toList (xs := s.data)
                                             omega
    rw [List.drop_eq_getElem_cons hl]
    have hg : s.get! i = s.data.toList[i] := by
      show s.data[i]! = s.data.toList[i]
      rw [getElem!_pos s.data i (by simpa using hl)]
      simp
    simp [hg]
theorem bytes_toList_data (s : ByteArray) : s.toList = s.data.toList := by
  unfold ByteArray.toList
  rw [bytes_loop_eq s s.size 0 [] (by omega)]; simp
theorem bytes_toList_beq (s t : ByteArray) : (s.toList == t.toList) = decide (s = t) := by
  rw [bytes_toList_data, bytes_toList_data, Bool.eq_iff_iff]
  simp only [beq_iff_eq, decide_eq_true_eq]
  constructor
  · intro h
    cases s; cases t
    simp at h
    simp [h]
  · rintro rfl; rfl

/-- a signal: its name and its kind; a label: a signal's number, up or down -/
abbrev Sig := ByteArray × Int
abbrev Lab := Int × Bool
def sgN (ss : List Sig) (i : Nat) : ByteArray := (ss.getD i (ByteArray.empty, 0)).1
def sgK (ss : List Sig) (i : Nat) : Int := (ss.getD i (ByteArray.empty, 0)).2
def lbS (ls : List Lab) (i : Nat) : Int := (ls.getD i (0, false)).1
def lbU (ls : List Lab) (i : Nat) : Bool := (ls.getD i (0, false)).2

def SigsAt (lo : Nat) (w : World) (v : Value) (ss : List Sig) : Prop := PairsAt lo w v ss.length (fun i => .string (sgN ss i)) (fun i => .int .i64 (sgK ss i))
def LabsAt (lo : Nat) (w : World) (v : Value) (ls : List Lab) : Prop := PairsAt lo w v ls.length (fun i => .int .i64 (lbS ls i)) (fun i => .bool (lbU ls i))
theorem SigsAt.keep {lo : Nat} {w w' : World} {v : Value} {ss : List Sig} (h : SigsAt lo w v ss) (hb : Carries lo w w') : SigsAt lo w' v ss := PairsAt.keep h hb
theorem SigsAt.low {lo lo' : Nat} {w : World} {v : Value} {ss : List Sig} (h : SigsAt lo w v ss) (hl : lo' ≤ lo) : SigsAt lo' w v ss := PairsAt.low h hl
theorem LabsAt.keep {lo : Nat} {w w' : World} {v : Value} {ss : List Lab} (h : LabsAt lo w v ss) (hb : Carries lo w w') : LabsAt lo w' v ss := PairsAt.keep h hb
theorem LabsAt.low {lo lo' : Nat} {w : World} {v : Value} {ss : List Lab} (h : LabsAt lo w v ss) (hl : lo' ≤ lo) : LabsAt lo' w v ss := PairsAt.low h hl

def RetSigs (w : World) (ss : List Sig) (e : Ending) (w' : World) : Prop := ∃ v, e = .returned v ∧ SigsAt w.heap.size w' v ss ∧ Below w.heap.size w w'
def RetLabs (w : World) (ls : List Lab) (e : Ending) (w' : World) : Prop := ∃ v, e = .returned v ∧ LabsAt w.heap.size w' v ls ∧ Below w.heap.size w w'

/-- numbers that fit, names that are no longer than any string -/
def OkSigs (ss : List Sig) : Prop := ss.length ≤ 9223372036854775807 ∧ ∀ i, i < ss.length → (sgN ss i).size ≤ 9223372036854775807
def SmallSigs (ss : List Sig) : Prop := ss.length ≤ 1048576 ∧ ∀ i, i < ss.length → (sgN ss i).size ≤ 1048576

/-- a graph as data -/
structure StgD where
  net : NetD
  sigs : List Sig
  labs : List Lab
  start : ByteArray

/-- what a graph's value reads as -/
def StgAt (lo : Nat) (w : World) (v : Value) (s : StgD) : Prop :=
  ∃ vt vs vl, v = .agg #[.int .i64 s.net.places, vt, vs, vl, .string s.start] ∧ NetAt lo w (.agg #[.int .i64 s.net.places, vt]) s.net ∧ SigsAt lo w vs s.sigs ∧ LabsAt lo w vl s.labs
theorem StgAt.keep {lo : Nat} {w w' : World} {v : Value} {s : StgD} (h : StgAt lo w v s) (hb : Carries lo w w') : StgAt lo w' v s := by
  obtain ⟨vt, vs, vl, hv, h1, h2, h3⟩ := h
  exact ⟨vt, vs, vl, hv, h1.keep hb, h2.keep hb, h3.keep hb⟩
theorem StgAt.low {lo lo' : Nat} {w : World} {v : Value} {s : StgD} (h : StgAt lo w v s) (hl : lo' ≤ lo) : StgAt lo' w v s := by
  obtain ⟨vt, vs, vl, hv, h1, h2, h3⟩ := h
  exact ⟨vt, vs, vl, hv, h1.low hl, h2.low hl, h3.low hl⟩
def RetStg (w : World) (s : StgD) (e : Ending) (w' : World) : Prop := ∃ v, e = .returned v ∧ StgAt w.heap.size w' v s ∧ Below w.heap.size w w'

end Go.Proofs.Ytigkgfdnnfmmmaa
