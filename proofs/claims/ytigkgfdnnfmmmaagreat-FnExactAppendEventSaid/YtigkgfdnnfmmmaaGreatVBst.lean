/- CONFIGURATIONS, said of data: the program's bit sets and the model's lists.
   MARKINGS AS ARRAYS of thirty bytes: what a block reads as; the walks withPlaces, withoutPlaces.
   BYTES of a blank row (out of Arrb).
   What marked arrays hold (out of Pur).
   A marking as bytes (out of Byte). -/
import Derived.Test.YtigkgfdnnfmmmaaGreatVHhe
import Derived.Test.YtigkgfdnnfmmmaaGreatVHib
import Derived.Stop.BytesEq
import Derived.Deep.MidRow
import Derived.Laws.CopyOwn
import Derived.Test.YtigkgfdnnfmmmaaGreatVSteps
import Derived.Test.YtigkgfdnnfmmmaaGreatVNeta
namespace Go.Proofs.YtigkgfdnnfmmmaaGreat
open Go.RowKit

theorem anyTo_ex {n : Nat} {g : Nat → Bool} (h : anyTo n g = true) : ∃ k, k < n ∧ g k = true := by
  apply Classical.byContradiction
  intro hno
  have : anyTo n g = false := anyTo_false fun k hk => by
    cases e : g k with
    | false => rfl
    | true => exact absurd ⟨k, hk, e⟩ hno
  rw [this] at h; cases h
/-- the set of the first k events of a list -/
def setTo (L : List Int) : Nat → Nat
  | 0 => 0
  | k + 1 => setTo L k ||| 2 ^ (L.getD k 0).toNat
def setL (L : List Int) : Nat := setTo L L.length
theorem setTo_fit {L : List Int} {m : Nat} (hm : m ≤ 64) (h : ∀ k, k < L.length → (L.getD k 0).toNat < m) : ∀ k, k ≤ L.length → setTo L k < 18446744073709551616
  | 0, _ => by show 0 < 18446744073709551616; decide
  | k + 1, hk => by
    have ih := setTo_fit hm h k (by omega)
    have h1 := h k (by omega)
    have h2 : (2 : Nat) ^ (L.getD k 0).toNat < 2 ^ 64 := Nat.pow_lt_pow_right (by decide) (by omega)
    exact Nat.or_lt_two_pow (n := 64) ih (by omega)
theorem setTo_bit {L : List Int} {i : Nat} : ∀ k, (setTo L k).testBit i = true ↔ ∃ q, q < k ∧ (L.getD q 0).toNat = i
  | 0 => by simp [setTo]
  | k + 1 => by
    show (setTo L k ||| 2 ^ (L.getD k 0).toNat).testBit i = true ↔ _
    rw [Nat.testBit_or, Bool.or_eq_true, setTo_bit k, Nat.testBit_two_pow, decide_eq_true_iff]
    constructor
    · rintro (⟨q, hq, e⟩ | e)
      · exact ⟨q, by omega, e⟩
      · exact ⟨k, by omega, e⟩
    · rintro ⟨q, hq, e⟩
      by_cases h : q = k
      · subst h; exact Or.inr e
      · exact Or.inl ⟨q, by omega, e⟩
/-- one set includes the other, as the program reckons it -/
def incB (S T : Nat) : Bool := decide (T &&& (18446744073709551615 - S) = 0)
theorem incB_iff {S T : Nat} (hS : S < 18446744073709551616) (hT : T < 18446744073709551616) : incB S T = true ↔ ∀ i, T.testBit i = true → S.testBit i = true := by
  unfold incB
  rw [decide_eq_true_iff]
  have e : 18446744073709551615 - S = 2 ^ 64 - (S + 1) := by omega
  have hb : ∀ i, (18446744073709551615 - S).testBit i = (decide (i < 64) && !S.testBit i) := fun i => by
    rw [e]; exact Nat.testBit_two_pow_sub_succ (n := 64) hS i
  constructor
  · intro h i hi
    have h1 : (T &&& (18446744073709551615 - S)).testBit i = false := by rw [h]; exact Nat.zero_testBit i
    rw [Nat.testBit_and, hi, Bool.true_and, hb, decide_eq_true (bit_small hT hi), Bool.true_and] at h1
    simpa using h1
  · intro h
    apply Classical.byContradiction
    intro hne
    obtain ⟨i, hi⟩ := bit_some hne
    rw [Nat.testBit_and, hb] at hi
    simp only [Bool.and_eq_true, Bool.not_eq_true'] at hi
    rw [h i hi.1] at hi
    exact absurd hi.2.2 (by simp)
/-- the program's test of a configuration -/
def cfgB (x : His) (L : List Int) : Bool := !cfB x.us (setL L) && !anyTo L.length (fun k => !incB (setL L) (x.ps.getD (L.getD k 0).toNat 0))
/-- the model's -/
def cfgM (x : His) (L : List Int) : Bool := decide (((pastQ x.cs x.es L).map fun (e : Nat) => (e : Int)) = L) && freeB x.es (L.map Int.toNat)
theorem list_toNat {L : List Int} (h : ∀ z ∈ L, 0 ≤ z) : ((L.map Int.toNat).map fun (e : Nat) => (e : Int)) = L := by
  rw [List.map_map]
  conv => rhs; rw [← List.map_id L]
  apply List.map_congr_left
  intro z hz
  have := h z hz
  show ((z.toNat : Nat) : Int) = z
  omega
theorem mem_getD {L : List Int} {z : Int} : z ∈ L ↔ ∃ q, q < L.length ∧ L.getD q 0 = z := by
  constructor
  · intro h
    obtain ⟨q, hq, e⟩ := List.getElem_of_mem h
    exact ⟨q, hq, by simpa only [List.getD, List.getElem?_eq_getElem hq, Option.getD_some] using e⟩
  · rintro ⟨q, hq, rfl⟩
    simp only [List.getD, List.getElem?_eq_getElem hq, Option.getD_some]
    exact List.getElem_mem hq
theorem cfg_eq {x : His} (h : HisG x) (h60 : x.es.length ≤ 60) {L : List Int} (hr : riseB 0 ((x.es.length : Int) - 1) L = true) : cfgM x L = cfgB x L := by
  have hin := rise_in rfl hr
  have hlt := rise_lt hr
  have hmem : ∀ z ∈ L, 0 ≤ z ∧ z < (x.es.length : Int) := fun z hz => by
    obtain ⟨q, hq, rfl⟩ := mem_getD.1 hz
    exact hin q hq
  have hbits : ∀ i, (setL L).testBit i = true ↔ ((i : Int) ∈ L) := fun i => by
    unfold setL
    rw [setTo_bit, mem_getD]
    constructor
    · rintro ⟨q, hq, e⟩
      exact ⟨q, hq, by have := hin q hq; omega⟩
    · rintro ⟨q, hq, e⟩
      exact ⟨q, hq, by omega⟩
  have hSf : setL L < 18446744073709551616 := setTo_fit (m := 64) (Nat.le_refl _) (fun k hk => by have := hin k hk; omega) _ (Nat.le_refl _)
  have hP : (L.map Int.toNat).Pairwise (· < ·) := by
    rw [List.pairwise_map]
    exact hlt.imp_of_mem fun {a b} ha hb hab => by have := hmem a ha; have := hmem b hb; omega
  have hPl : ∀ e ∈ L.map Int.toNat, e < x.es.length := fun e he => by
    obtain ⟨z, hz, rfl⟩ := List.mem_map.1 he
    have := hmem z hz
    omega
  have hPm : ∀ i : Nat, i ∈ L.map Int.toNat ↔ (i : Int) ∈ L := fun i => by
    rw [List.mem_map]
    constructor
    · rintro ⟨z, hz, rfl⟩
      have := hmem z hz
      rw [show ((z.toNat : Nat) : Int) = z by omega]; exact hz
    · intro hi; exact ⟨_, hi, by simp⟩
  have hc := conf_eq h.m h.fu h.nd (S := setL L) hP hPl (fun i _ => (hbits i).trans (hPm i).symm)
  unfold cfgM cfgB
  rw [← hc, Bool.not_not, Bool.and_comm]
  congr 1
  have hqr : ((pastQ x.cs x.es L).map fun (e : Nat) => (e : Int)).Pairwise (· < ·) := by
    rw [List.pairwise_map]
    exact (pastQ_rise _ _ _).imp fun hab => by omega
  have hqm : ∀ f : Nat, (f : Int) ∈ ((pastQ x.cs x.es L).map fun (e : Nat) => (e : Int)) ↔ ∃ g : Nat, (g : Int) ∈ L ∧ Anc x.cs x.es g f := fun f => by
    rw [← mem_pastQ h.m.wf (fun z hz => (hmem z hz).2), List.mem_map]
    constructor
    · rintro ⟨z, hz, e⟩
      have : z = f := by omega
      subst this; exact hz
    · intro hf; exact ⟨f, hf, rfl⟩
  rw [Bool.eq_iff_iff, decide_eq_true_iff, Bool.not_eq_true', Bool.eq_false_iff]
  constructor
  · intro he hany
    obtain ⟨k, hk, hi⟩ := anyTo_ex hany
    rw [Bool.not_eq_true'] at hi
    have hk2 := hin k hk
    have : incB (setL L) (x.ps.getD (L.getD k 0).toNat 0) = true := (incB_iff hSf (h.fp _)).2 fun i hb => by
      rw [hbits, ← he, hqm]
      refine ⟨(L.getD k 0).toNat, mem_getD.2 ⟨k, hk, by omega⟩, ?_⟩
      exact (h.m.p _ (by omega) i).1 hb
    rw [this] at hi; cases hi
  · intro hno
    apply rise_ext _ _ hqr hlt
    intro z
    constructor
    · intro hz
      obtain ⟨f, _, rfl⟩ := List.mem_map.1 hz
      obtain ⟨g, hg, ha⟩ := (hqm f).1 hz
      obtain ⟨k, hk, e⟩ := mem_getD.1 hg
      have hgl := hmem _ hg
      have hi : incB (setL L) (x.ps.getD (L.getD k 0).toNat 0) = true := by
        cases hq : incB (setL L) (x.ps.getD (L.getD k 0).toNat 0) with
        | true => rfl
        | false =>
          exact absurd (anyTo_true hk (by show (!incB (setL L) (x.ps.getD (L.getD k 0).toNat 0)) = true; rw [hq]; rfl)) hno
      rw [e, Int.toNat_natCast] at hi
      exact (hbits f).1 ((incB_iff hSf (h.fp _)).1 hi f ((h.m.p g (by omega) f).2 ha))
    · intro hz
      have hz2 := hmem z hz
      have e : ((z.toNat : Nat) : Int) = z := by omega
      rw [← e]
      exact (hqm z.toNat).2 ⟨z.toNat, by rw [e]; exact hz, Anc.self _⟩

end Go.Proofs.YtigkgfdnnfmmmaaGreat

namespace Go.Proofs.YtigkgfdnnfmmmaaGreat
open Go.RowKit

/-- the cells of a marking -/
def arr (xs : List UInt8) : List Value := xs.map Extern.Stop.cell
theorem arr_length (xs : List UInt8) : (arr xs).length = xs.length := by simp [arr]
theorem arr_one (xs : List UInt8) : ∀ v ∈ arr xs, v.oneCell' = true := by
  intro v hv
  obtain ⟨b, _, rfl⟩ := List.mem_map.1 hv
  rfl
theorem arr_all (xs : List UInt8) : (arr xs).toArray.all (·.oneCell') = true := all_oneCell_toArray (arr_one xs)
theorem arr_get {xs : List UInt8} {q : Nat} (h : q < xs.length) : (arr xs)[q]? = some (.int .u8 ((xs.getD q 0).toNat : Int)) := by
  simp [arr, h, List.getD, Extern.Stop.cell]
theorem arr_set (xs : List UInt8) (q : Nat) (v : UInt8) : (arr xs).toArray.setIfInBounds q (.int .u8 (v.toNat : Int)) = (arr (xs.set q v)).toArray := by
  apply Array.ext'
  simp [arr, List.map_set, Extern.Stop.cell]
/-- nothing written -/
def zeros : List UInt8 := List.replicate 30 0
theorem zeros_length : zeros.length = 30 := rfl

/-- a call returns a marking -/
def RetA (w : World) (xs : List UInt8) (e : Ending) (w' : World) : Prop := e = .returned (.agg (arr xs).toArray) ∧ Below w.heap.size w w'

/-- marks (49) or unmarks (48) places -/
def putAll (v : UInt8) (xs : List UInt8) (ps : List Int) : List UInt8 := ps.foldl (fun m p => m.set p.toNat v) xs
theorem putAll_length (v : UInt8) (ps : List Int) : ∀ xs : List UInt8, (putAll v xs ps).length = xs.length := by
  unfold putAll
  induction ps with
  | nil => intro xs; rfl
  | cons p ps ih => intro xs; simp [List.foldl_cons, ih]
theorem putAll_take (v : UInt8) (xs : List UInt8) (ps : List Int) (k : Nat) (hk : k < ps.length) : putAll v xs (ps.take (k + 1)) = (putAll v xs (ps.take k)).set (ps.getD k 0).toNat v := by
  unfold putAll
  rw [List.take_succ_eq_append_getElem hk, List.foldl_append, ← getD_eq hk]
  rfl

/-- places are within a marking -/
def InArr (ps : List Int) : Prop := ∀ i, i < ps.length → 0 ≤ ps.getD i 0 ∧ ps.getD i 0 < 30

end Go.Proofs.YtigkgfdnnfmmmaaGreat

namespace Go.Proofs.YtigkgfdnnfmmmaaGreat
open Go.RowKit

def firsts (k : Nat) : List UInt8 := List.replicate k 48 ++ List.replicate (30 - k) 0
def blank : List UInt8 := List.replicate 30 48
theorem firsts_length {k : Nat} (h : k ≤ 30) : (firsts k).length = 30 := by simp [firsts]; omega
theorem firsts_zero : firsts 0 = zeros := rfl
theorem firsts_last : firsts 30 = blank := rfl
theorem blank_length : blank.length = 30 := rfl
theorem firsts_succ {k : Nat} (h : k < 30) : (firsts k).set k 48 = firsts (k + 1) := by
  apply List.ext_getElem?
  intro i
  simp only [firsts, List.getElem?_set, List.getElem?_append, List.length_append, List.length_replicate, List.getElem?_replicate]
  repeat' split
  all_goals first | rfl | omega


end Go.Proofs.YtigkgfdnnfmmmaaGreat

namespace Go.Proofs.YtigkgfdnnfmmmaaGreat
open Go.RowKit

theorem set_getD (xs : List UInt8) (q i : Nat) (v : UInt8) (hi : i < xs.length) : (xs.set q v).getD i 0 = if q = i then v else xs.getD i 0 := by
  simp only [List.getD, List.getElem?_set]
  by_cases h : q = i
  · subst h; simp [hi]
  · simp [h]

theorem putAll_getD (v : UInt8) : ∀ (ps : List Int) (xs : List UInt8) (i : Nat), (∀ p ∈ ps, 0 ≤ p) → i < xs.length → (putAll v xs ps).getD i 0 = if (i : Int) ∈ ps then v else xs.getD i 0
  | [], xs, i, _, _ => by simp [putAll]
  | p :: ps, xs, i, hp, hi => by
    have ih := putAll_getD v ps (xs.set p.toNat v) i (fun q hq => hp q (List.mem_cons_of_mem _ hq)) (by simpa using hi)
    have e : putAll v xs (p :: ps) = putAll v (xs.set p.toNat v) ps := rfl
    rw [e, ih, set_getD _ _ _ _ hi]
    have h0 := hp p (List.mem_cons_self ..)
    by_cases h1 : (i : Int) ∈ ps
    · simp [h1]
    · by_cases h2 : p = i
      · subst h2; simp
      · rw [if_neg h1, if_neg (by omega), if_neg (by simp only [List.mem_cons, not_or]; exact ⟨fun h => h2 h.symm, h1⟩)]

theorem InArr.nonneg {l : List Int} (h : InArr l) : ∀ p ∈ l, 0 ≤ p := fun p hp => by
  obtain ⟨i, hi, rfl⟩ := List.mem_iff_getElem.1 hp
  have := (h i hi).1; rwa [getD_eq hi] at this
theorem InArr.lt {l : List Int} (h : InArr l) : ∀ p ∈ l, p < 30 := fun p hp => by
  obtain ⟨i, hi, rfl⟩ := List.mem_iff_getElem.1 hp
  have := (h i hi).2; rwa [getD_eq hi] at this

theorem blank_getD {i : Nat} (h : i < 30) : blank.getD i 0 = 48 := by unfold blank; rw [List.getD, List.getElem?_replicate, if_pos h]; rfl

theorem marked_getD {l : List Int} (h : InArr l) {i : Nat} (hi : i < 30) : (putAll 49 blank l).getD i 0 = if (i : Int) ∈ l then 49 else 48 := by
  rw [putAll_getD 49 l blank i h.nonneg (by rw [blank_length]; exact hi), blank_getD hi]

end Go.Proofs.YtigkgfdnnfmmmaaGreat

namespace Go.Proofs.YtigkgfdnnfmmmaaGreat
open Go.RowKit

def bstr (bs : List UInt8) : ByteArray := ⟨bs.toArray⟩
theorem bstr_size (bs : List UInt8) : (bstr bs).size = bs.length := by simp [bstr, ByteArray.size]
def bytes (s : ByteArray) : List UInt8 := s.data.toList
theorem bytes_length (s : ByteArray) : (bytes s).length = s.size := by simp [bytes]
theorem bytes_bstr (bs : List UInt8) : bytes (bstr bs) = bs := by simp [bytes, bstr]
theorem bstr_bytes (s : ByteArray) : bstr (bytes s) = s := by
  obtain ⟨d⟩ := s
  simp [bytes, bstr]
theorem byte_at {s : ByteArray} {q : Nat} (h : q < s.size) : (bytes s).getD q 0 = s[q] := by
  have h' : q < s.data.toList.length := by simpa using h
  rw [bytes, List.getD, List.getElem?_eq_getElem h']
  rfl

theorem foldl_push (ns : List UInt8) : ∀ s : ByteArray, (ns.map (fun b => (b.toNat : Int))).foldl (fun r n => r.push (UInt8.ofNat n.toNat)) s = ⟨s.data ++ ns.toArray⟩ := by
  induction ns with
  | nil => intro s; simp
  | cons b ns ih =>
    intro s
    simp only [List.map_cons, List.foldl_cons]
    rw [ih]
    obtain ⟨d⟩ := s
    simp [ByteArray.push]

end Go.Proofs.YtigkgfdnnfmmmaaGreat
