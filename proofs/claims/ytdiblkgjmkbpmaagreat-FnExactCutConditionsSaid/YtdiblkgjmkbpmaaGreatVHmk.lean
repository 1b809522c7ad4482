/- CONFIGURATIONS, said of data: the program's bit sets and the model's lists.
   MARKINGS AS ARRAYS of thirty bytes: what a block reads as; the walks withPlaces, withoutPlaces.
   BYTES of a blank row (out of Arrb).
   What marked arrays hold (out of Pur).
   A marking as bytes (out of Byte).
   CUTS AND THEIR MARKINGS, said of data: the program's and the model's. -/
import Derived.Test.YtdiblkgjmkbpmaaGreatVHhe
import Derived.Test.YtdiblkgjmkbpmaaGreatVHib
import Derived.Stop.BytesEq
import Derived.Deep.MidRow
import Derived.Laws.CopyOwn
import Derived.Test.YtdiblkgjmkbpmaaGreatVSteps
import Derived.Test.YtdiblkgjmkbpmaaGreatVNeta
namespace Go.Proofs.YtdiblkgjmkbpmaaGreat
open Go.RowKit

theorem anyTo_ex {n : Nat} {g : Nat → Bool} (h : anyTo n g = true) : ∃ k, k < n ∧ g k = true := by
  apply Classical.byContradiction
  intro hno
  have : anyTo n g = false := anyTo_false fun k hk => by
    cases e : g k with
    | false => rfl
    | true => exact absurd ⟨k, hk, e⟩ hno
  rw [this] at h; cases h
/-- the set of the first k events of a list -/
def setTo (L : List Int) : Nat → Nat
  | 0 => 0
  | k + 1 => setTo L k ||| 2 ^ (L.getD k 0).toNat
def setL (L : List Int) : Nat := setTo L L.length
theorem setTo_fit {L : List Int} {m : Nat} (hm : m ≤ 64) (h : ∀ k, k < L.length → (L.getD k 0).toNat < m) : ∀ k, k ≤ L.length → setTo L k < 18446744073709551616
  | 0, _ => by show 0 < 18446744073709551616; decide
  | k + 1, hk => by
    have ih := setTo_fit hm h k (by omega)
    have h1 := h k (by omega)
    have h2 : (2 : Nat) ^ (L.getD k 0).toNat < 2 ^ 64 := Nat.pow_lt_pow_right (by decide) (by omega)
    exact Nat.or_lt_two_pow (n := 64) ih (by omega)
theorem setTo_bit {L : List Int} {i : Nat} : ∀ k, (setTo L k).testBit i = true ↔ ∃ q, q < k ∧ (L.getD q 0).toNat = i
  | 0 => by simp [setTo]
  | k + 1 => by
    show (setTo L k ||| 2 ^ (L.getD k 0).toNat).testBit i = true ↔ _
    rw [Nat.testBit_or, Bool.or_eq_true, setTo_bit k, Nat.testBit_two_pow, decide_eq_true_iff]
    constructor
    · rintro (⟨q, hq, e⟩ | e)
      · exact ⟨q, by omega, e⟩
      · exact ⟨k, by omega, e⟩
    · rintro ⟨q, hq, e⟩
      by_cases h : q = k
      · subst h; exact Or.inr e
      · exact Or.inl ⟨q, by omega, e⟩
/-- one set includes the other, as the program reckons it -/
def incB (S T : Nat) : Bool := decide (T &&& (18446744073709551615 - S) = 0)
theorem incB_iff {S T : Nat} (hS : S < 18446744073709551616) (hT : T < 18446744073709551616) : incB S T = true ↔ ∀ i, T.testBit i = true → S.testBit i = true := by
  unfold incB
  rw [decide_eq_true_iff]
  have e : 18446744073709551615 - S = 2 ^ 64 - (S + 1) := by omega
  have hb : ∀ i, (18446744073709551615 - S).testBit i = (decide (i < 64) && !S.testBit i) := fun i => by
    rw [e]; exact Nat.testBit_two_pow_sub_succ (n := 64) hS i
  constructor
  · intro h i hi
    have h1 : (T &&& (18446744073709551615 - S)).testBit i = false := by rw [h]; exact Nat.zero_testBit i
    rw [Nat.testBit_and, hi, Bool.true_and, hb, decide_eq_true (bit_small hT hi), Bool.true_and] at h1
    simpa using h1
  · intro h
    apply Classical.byContradiction
    intro hne
    obtain ⟨i, hi⟩ := bit_some hne
    rw [Nat.testBit_and, hb] at hi
    simp only [Bool.and_eq_true, Bool.not_eq_true'] at hi
    rw [h i hi.1] at hi
    exact absurd hi.2.2 (by simp)
/-- the program's test of a configuration -/
def cfgB (x : His) (L : List Int) : Bool := !cfB x.us (setL L) && !anyTo L.length (fun k => !incB (setL L) (x.ps.getD (L.getD k 0).toNat 0))
/-- the model's -/
def cfgM (x : His) (L : List Int) : Bool := decide (((pastQ x.cs x.es L).map fun (e : Nat) => (e : Int)) = L) && freeB x.es (L.map Int.toNat)
theorem list_toNat {L : List Int} (h : ∀ z ∈ L, 0 ≤ z) : ((L.map Int.toNat).map fun (e : Nat) => (e : Int)) = L := by
  rw [List.map_map]
  conv => rhs; rw [← List.map_id L]
  apply List.map_congr_left
  intro z hz
  have := h z hz
  show ((z.toNat : Nat) : Int) = z
  omega
theorem mem_getD {L : List Int} {z : Int} : z ∈ L ↔ ∃ q, q < L.length ∧ L.getD q 0 = z := by
  constructor
  · intro h
    obtain ⟨q, hq, e⟩ := List.getElem_of_mem h
    exact ⟨q, hq, by simpa only [List.getD, List.getElem?_eq_getElem hq, Option.getD_some] using e⟩
  · rintro ⟨q, hq, rfl⟩
    simp only [List.getD, List.getElem?_eq_getElem hq, Option.getD_some]
    exact List.getElem_mem hq
theorem cfg_eq {x : His} (h : HisG x) (h60 : x.es.length ≤ 60) {L : List Int} (hr : riseB 0 ((x.es.length : Int) - 1) L = true) : cfgM x L = cfgB x L := by
  have hin := rise_in rfl hr
  have hlt := rise_lt hr
  have hmem : ∀ z ∈ L, 0 ≤ z ∧ z < (x.es.length : Int) := fun z hz => by
    obtain ⟨q, hq, rfl⟩ := mem_getD.1 hz
    exact hin q hq
  have hbits : ∀ i, (setL L).testBit i = true ↔ ((i : Int) ∈ L) := fun i => by
    unfold setL
    rw [setTo_bit, mem_getD]
    constructor
    · rintro ⟨q, hq, e⟩
      exact ⟨q, hq, by have := hin q hq; omega⟩
    · rintro ⟨q, hq, e⟩
      exact ⟨q, hq, by omega⟩
  have hSf : setL L < 18446744073709551616 := setTo_fit (m := 64) (Nat.le_refl _) (fun k hk => by have := hin k hk; omega) _ (Nat.le_refl _)
  have hP : (L.map Int.toNat).Pairwise (· < ·) := by
    rw [List.pairwise_map]
    exact hlt.imp_of_mem fun {a b} ha hb hab => by have := hmem a ha; have := hmem b hb; omega
  have hPl : ∀ e ∈ L.map Int.toNat, e < x.es.length := fun e he => by
    obtain ⟨z, hz, rfl⟩ := List.mem_map.1 he
    have := hmem z hz
    omega
  have hPm : ∀ i : Nat, i ∈ L.map Int.toNat ↔ (i : Int) ∈ L := fun i => by
    rw [List.mem_map]
    constructor
    · rintro ⟨z, hz, rfl⟩
      have := hmem z hz
      rw [show ((z.toNat : Nat) : Int) = z by omega]; exact hz
    · intro hi; exact ⟨_, hi, by simp⟩
  have hc := conf_eq h.m h.fu h.nd (S := setL L) hP hPl (fun i _ => (hbits i).trans (hPm i).symm)
  unfold cfgM cfgB
  rw [← hc, Bool.not_not, Bool.and_comm]
  congr 1
  have hqr : ((pastQ x.cs x.es L).map fun (e : Nat) => (e : Int)).Pairwise (· < ·) := by
    rw [List.pairwise_map]
    exact (pastQ_rise _ _ _).imp fun hab => by omega
  have hqm : ∀ f : Nat, (f : Int) ∈ ((pastQ x.cs x.es L).map fun (e : Nat) => (e : Int)) ↔ ∃ g : Nat, (g : Int) ∈ L ∧ Anc x.cs x.es g f := fun f => by
    rw [← mem_pastQ h.m.wf (fun z hz => (hmem z hz).2), List.mem_map]
    constructor
    · rintro ⟨z, hz, e⟩
      have : z = f := by omega
      subst this; exact hz
    · intro hf; exact ⟨f, hf, rfl⟩
  rw [Bool.eq_iff_iff, decide_eq_true_iff, Bool.not_eq_true', Bool.eq_false_iff]
  constructor
  · intro he hany
    obtain ⟨k, hk, hi⟩ := anyTo_ex hany
    rw [Bool.not_eq_true'] at hi
    have hk2 := hin k hk
    have : incB (setL L) (x.ps.getD (L.getD k 0).toNat 0) = true := (incB_iff hSf (h.fp _)).2 fun i hb => by
      rw [hbits, ← he, hqm]
      refine ⟨(L.getD k 0).toNat, mem_getD.2 ⟨k, hk, by omega⟩, ?_⟩
      exact (h.m.p _ (by omega) i).1 hb
    rw [this] at hi; cases hi
  · intro hno
    apply rise_ext _ _ hqr hlt
    intro z
    constructor
    · intro hz
      obtain ⟨f, _, rfl⟩ := List.mem_map.1 hz
      obtain ⟨g, hg, ha⟩ := (hqm f).1 hz
      obtain ⟨k, hk, e⟩ := mem_getD.1 hg
      have hgl := hmem _ hg
      have hi : incB (setL L) (x.ps.getD (L.getD k 0).toNat 0) = true := by
        cases hq : incB (setL L) (x.ps.getD (L.getD k 0).toNat 0) with
        | true => rfl
        | false =>
          exact absurd (anyTo_true hk (by show (!incB (setL L) (x.ps.getD (L.getD k 0).toNat 0)) = true; rw [hq]; rfl)) hno
      rw [e, Int.toNat_natCast] at hi
      exact (hbits f).1 ((incB_iff hSf (h.fp _)).1 hi f ((h.m.p g (by omega) f).2 ha))
    · intro hz
      have hz2 := hmem z hz
      have e : ((z.toNat : Nat) : Int) = z := by omega
      rw [← e]
      exact (hqm z.toNat).2 ⟨z.toNat, by rw [e]; exact hz, Anc.self _⟩

end Go.Proofs.YtdiblkgjmkbpmaaGreat

namespace Go.Proofs.YtdiblkgjmkbpmaaGreat
open Go.RowKit

/-- the cells of a marking -/
def arr (xs : List UInt8) : List Value := xs.map Extern.Stop.cell
theorem arr_length (xs : List UInt8) : (arr xs).length = xs.length := by simp [arr]
theorem arr_one (xs : List UInt8) : ∀ v ∈ arr xs, v.oneCell' = true := by
  intro v hv
  obtain ⟨b, _, rfl⟩ := List.mem_map.1 hv
  rfl
theorem arr_all (xs : List UInt8) : (arr xs).toArray.all (·.oneCell') = true := all_oneCell_toArray (arr_one xs)
theorem arr_get {xs : List UInt8} {q : Nat} (h : q < xs.length) : (arr xs)[q]? = some (.int .u8 ((xs.getD q 0).toNat : Int)) := by
  simp [arr, h, List.getD, Extern.Stop.cell]
theorem arr_set (xs : List UInt8) (q : Nat) (v : UInt8) : (arr xs).toArray.setIfInBounds q (.int .u8 (v.toNat : Int)) = (arr (xs.set q v)).toArray := by
  apply Array.ext'
  simp [arr, List.map_set, Extern.Stop.cell]
theorem Tryz.infoArr : (Tryz.prog.info? 137).map (·.size) = some 30 := by kernel_rfl
theorem infoArr {xs : List UInt8} (h : xs.length = 30) : (Tryz.prog.info? 137).map (·.size) = some (arr xs).toArray.size := by
  rw [List.size_toArray, arr_length, h]; exact Tryz.infoArr
theorem eqlArr (xs ys : List UInt8) (hx : xs.length = 30) (hy : ys.length = 30) (w : World) :
    (Op.equalIn 10000 137 (.agg (arr xs).toArray) (.agg (arr ys).toArray)).run Tryz.prog w = .ok (xs == ys) w :=
  run_equalIn_bytes w 9998 137 5 30 Tryz.underlying137 Tryz.underlying5 (fun _ => by kernel_rfl) xs ys hx hy
/-- nothing written -/
def zeros : List UInt8 := List.replicate 30 0
theorem zeros_length : zeros.length = 30 := rfl

/-- block b holds the marking xs -/
def ArrAt (w : World) (b : Nat) (xs : List UInt8) : Prop := w.heap[b]? = some (.cells (arr xs).toArray 137 (0, 0)) ∧ xs.length = 30

theorem ArrAt.lt {w : World} {b : Nat} {xs : List UInt8} (h : ArrAt w b xs) : b < w.heap.size := (Array.getElem?_eq_some_iff.1 h.1).1
theorem ArrAt.new (w : World) {xs : List UInt8} (h : xs.length = 30) : ArrAt (w.alloc (.cells (arr xs).toArray 137)) w.heap.size xs := ⟨heap_alloc_new w _, h⟩
theorem ArrAt.below {w w' : World} {b B : Nat} {xs : List UInt8} (h : ArrAt w b xs) (hb : Below B w w') (hB : b < B) : ArrAt w' b xs := ⟨(hb.block b hB).trans h.1, h.2⟩
theorem ArrAt.after {w w' : World} {b : Nat} {xs : List UInt8} (h : ArrAt w b xs) (hb : Below w.heap.size w w') : ArrAt w' b xs := h.below hb h.lt
theorem ArrAt.other {w : World} {b : Nat} {xs : List UInt8} (h : ArrAt w b xs) (a : Addr) (v : Value) (hne : b ≠ a.block) : ArrAt (w.setCell a v) b xs := ⟨(heap_setCell_other w a b v hne).trans h.1, h.2⟩
theorem ArrAt.put {w : World} {b : Nat} {xs : List UInt8} (h : ArrAt w b xs) (q : Nat) (v : UInt8) : ArrAt (w.setCell ⟨b, q, none⟩ (.int .u8 (v.toNat : Int))) b (xs.set q v) :=
  ⟨by rw [heap_setCell_same w b q _ _ _ h.1, arr_set], by simp [h.2]⟩
theorem ArrAt.cell {w : World} {b : Nat} {xs : List UInt8} (h : ArrAt w b xs) {q : Nat} (hq : q < 30) : w.cell? ⟨b, q, none⟩ = some (.int .u8 ((xs.getD q 0).toNat : Int)) := by
  rw [cell_of_row w b q _ _ _ h.1, List.getElem?_toArray]
  exact arr_get (by rw [h.2]; exact hq)
theorem ArrAt.frozen {w : World} {b : Nat} {xs : List UInt8} (h : ArrAt w b xs) (q : Nat) : w.frozen? ⟨b, q, none⟩ = false := frozen_of_row w b q _ _ h.1
theorem ArrAt.range {w : World} {b : Nat} {xs : List UInt8} (h : ArrAt w b xs) : w.rangeAt b 0 (arr xs) := fun j v hv => by
  rw [Nat.zero_add, cell_of_row w b j _ _ _ h.1, List.getElem?_toArray]
  exact hv

/-- a call returns a marking -/
def RetA (w : World) (xs : List UInt8) (e : Ending) (w' : World) : Prop := e = .returned (.agg (arr xs).toArray) ∧ Below w.heap.size w w'

/-- marks (49) or unmarks (48) places -/
def putAll (v : UInt8) (xs : List UInt8) (ps : List Int) : List UInt8 := ps.foldl (fun m p => m.set p.toNat v) xs
theorem putAll_length (v : UInt8) (ps : List Int) : ∀ xs : List UInt8, (putAll v xs ps).length = xs.length := by
  unfold putAll
  induction ps with
  | nil => intro xs; rfl
  | cons p ps ih => intro xs; simp [List.foldl_cons, ih]
theorem putAll_take (v : UInt8) (xs : List UInt8) (ps : List Int) (k : Nat) (hk : k < ps.length) : putAll v xs (ps.take (k + 1)) = (putAll v xs (ps.take k)).set (ps.getD k 0).toNat v := by
  unfold putAll
  rw [List.take_succ_eq_append_getElem hk, List.foldl_append, ← getD_eq hk]
  rfl

/-- places are within a marking -/
def InArr (ps : List Int) : Prop := ∀ i, i < ps.length → 0 ≤ ps.getD i 0 ∧ ps.getD i 0 < 30

set_option maxRecDepth 100000 in
set_option maxHeartbeats 1000000 in
theorem withPlaces_any (xs : List UInt8) (hx : xs.length = 30) (v : Value) (ps : List Int) (w : World) (lo : Nat) (hv : IntsAt lo w v ps) (hn : ps.length ≤ 1048576) (hin : InArr ps) :
    Calls Tryz.prog 123 #[.agg (arr xs).toArray, v] w (RetA w (putAll 49 xs ps)) := by
  obtain ⟨ao, cap, rfl, hc, hz⟩ := hv
  have HF := Lib.hid hz; clear hz
  have HI := Lib.hid hin; clear hin
  have HX := Lib.hid hx; clear hx
  go_enter Tryz.func123, Tryz.ntmps123
  go_wp2_with fail
  go_loopw [9] (fun i wr => ∃ k : Nat, k ≤ ps.length ∧ i = .int .i64 k ∧ ArrAt wr w.heap.size (putAll 49 xs (ps.take k)) ∧ ArrAt wr (w.heap.size + 1) zeros ∧ Below w.heap.size w wr) (fun i _ => ps.length - (intOf i).toNat)
  case atStart =>
    refine ⟨0, Nat.zero_le _, rfl, ?_, ?_, ?_⟩
    · exact (ArrAt.new w HX.out).after ((Below.refl _ _).alloc (Nat.le_refl _) _)
    · have h := ArrAt.new (w.alloc (.cells (arr xs).toArray 137)) zeros_length
      rw [World.size_alloc] at h
      exact h
    · (repeat' (first | (with_reducible exact Below.refl _ _) | (with_reducible assumption) | (with_reducible refine Below.alloc ?_ ?_ _) | (with_reducible refine Below.drew ?_) | (with_reducible refine below_drewN ?_ _) | (with_reducible refine Below.setCell ?_ ?_ _) | go_size))
  case round =>
    obtain ⟨k, hk, rfl, ha, hb, hb1⟩ := hrel
    have HA := Lib.hid ha; clear ha
    have HB := Lib.hid hb; clear hb
    by_cases hlt : k < ps.length
    · rcases HF.out with rfl | ⟨b, off, rfl, hlo, hcell⟩
      · simp at hlt
      have c1 := Carries.of lo hb1 _ _ hlo (hcell k hlt)
      obtain ⟨i0, i1⟩ := HI.out k hlt
      obtain ⟨x, hxx⟩ : ∃ x, x = ps.getD k 0 := ⟨_, rfl⟩
      rw [← hxx] at c1 i0 i1
      obtain ⟨q, rfl⟩ := Int.eq_ofNat_of_zero_le i0
      have HQ := Lib.hid hxx; clear hxx
      clear hcell
      have i2 : q < 30 := by omega
      have c2 := HA.out.cell i2
      have c3 := HA.out.frozen q
      have HN : Hid (ArrAt (wr.setCell ⟨w.heap.size, q, none⟩ (.int .u8 49)) w.heap.size (putAll 49 xs (ps.take (k + 1)))) := by
        have h := HA.out.put q 49
        rw [putAll_take _ _ _ _ hlt, ← HQ.out]
        exact h
      have HM := Lib.hid (HB.out.other ⟨w.heap.size, q, none⟩ (.int .u8 49) (by simp))
      go_wp2_with fail
      go_roundw
      case rel => exact ⟨k + 1, by omega, by go_num, HN.out, HM.out, hb1.setCell (Nat.le_refl _) _⟩
      case measure => simp [intOf]; omega
    · have hkk : k = ps.length := by omega
      subst hkk
      rw [List.take_length] at HA
      have hl : (putAll 49 xs ps).length = 30 := by rw [putAll_length]; exact HX.out
      go_wp2_with (first | (refine wpList_load_row rfl 137 _ rfl w.heap.size rfl _ _ _ _ HA.out.1 Tryz.underlying137 rfl (infoArr hl) ?_) | (refine wpList_store_row rfl 137 _ _ rfl (w.heap.size + 1) _ rfl rfl _ _ HB.out.1 (infoArr hl) (by simp [arr_length, hl, zeros_length]) (arr_all _) ?_))
      refine bodyPost_ret (v := .agg (arr (putAll 49 xs ps)).toArray) (results_cell_row rfl _ _ (w.heap.size + 1) _ _ _ _ rfl (setRow_heap _ _ _ _ _ _ HB.out.1) Tryz.underlying137 rfl (infoArr hl)) rfl ⟨rfl, ?_⟩
      exact below_setRow hb1 (by omega) _

end Go.Proofs.YtdiblkgjmkbpmaaGreat

namespace Go.Proofs.YtdiblkgjmkbpmaaGreat
open Go.RowKit

def firsts (k : Nat) : List UInt8 := List.replicate k 48 ++ List.replicate (30 - k) 0
def blank : List UInt8 := List.replicate 30 48
theorem firsts_length {k : Nat} (h : k ≤ 30) : (firsts k).length = 30 := by simp [firsts]; omega
theorem firsts_zero : firsts 0 = zeros := rfl
theorem firsts_last : firsts 30 = blank := rfl
theorem blank_length : blank.length = 30 := rfl
theorem firsts_succ {k : Nat} (h : k < 30) : (firsts k).set k 48 = firsts (k + 1) := by
  apply List.ext_getElem?
  intro i
  simp only [firsts, List.getElem?_set, List.getElem?_append, List.length_append, List.length_replicate, List.getElem?_replicate]
  repeat' split
  all_goals first | rfl | omega


end Go.Proofs.YtdiblkgjmkbpmaaGreat

namespace Go.Proofs.YtdiblkgjmkbpmaaGreat
open Go.RowKit

theorem set_getD (xs : List UInt8) (q i : Nat) (v : UInt8) (hi : i < xs.length) : (xs.set q v).getD i 0 = if q = i then v else xs.getD i 0 := by
  simp only [List.getD, List.getElem?_set]
  by_cases h : q = i
  · subst h; simp [hi]
  · simp [h]

theorem putAll_getD (v : UInt8) : ∀ (ps : List Int) (xs : List UInt8) (i : Nat), (∀ p ∈ ps, 0 ≤ p) → i < xs.length → (putAll v xs ps).getD i 0 = if (i : Int) ∈ ps then v else xs.getD i 0
  | [], xs, i, _, _ => by simp [putAll]
  | p :: ps, xs, i, hp, hi => by
    have ih := putAll_getD v ps (xs.set p.toNat v) i (fun q hq => hp q (List.mem_cons_of_mem _ hq)) (by simpa using hi)
    have e : putAll v xs (p :: ps) = putAll v (xs.set p.toNat v) ps := rfl
    rw [e, ih, set_getD _ _ _ _ hi]
    have h0 := hp p (List.mem_cons_self ..)
    by_cases h1 : (i : Int) ∈ ps
    · simp [h1]
    · by_cases h2 : p = i
      · subst h2; simp
      · rw [if_neg h1, if_neg (by omega), if_neg (by simp only [List.mem_cons, not_or]; exact ⟨fun h => h2 h.symm, h1⟩)]

theorem InArr.nonneg {l : List Int} (h : InArr l) : ∀ p ∈ l, 0 ≤ p := fun p hp => by
  obtain ⟨i, hi, rfl⟩ := List.mem_iff_getElem.1 hp
  have := (h i hi).1; rwa [getD_eq hi] at this
theorem InArr.lt {l : List Int} (h : InArr l) : ∀ p ∈ l, p < 30 := fun p hp => by
  obtain ⟨i, hi, rfl⟩ := List.mem_iff_getElem.1 hp
  have := (h i hi).2; rwa [getD_eq hi] at this

theorem blank_getD {i : Nat} (h : i < 30) : blank.getD i 0 = 48 := by unfold blank; rw [List.getD, List.getElem?_replicate, if_pos h]; rfl

theorem marked_getD {l : List Int} (h : InArr l) {i : Nat} (hi : i < 30) : (putAll 49 blank l).getD i 0 = if (i : Int) ∈ l then 49 else 48 := by
  rw [putAll_getD 49 l blank i h.nonneg (by rw [blank_length]; exact hi), blank_getD hi]

end Go.Proofs.YtdiblkgjmkbpmaaGreat

namespace Go.Proofs.YtdiblkgjmkbpmaaGreat
open Go.RowKit

def bstr (bs : List UInt8) : ByteArray := ⟨bs.toArray⟩
theorem bstr_size (bs : List UInt8) : (bstr bs).size = bs.length := by simp [bstr, ByteArray.size]
def bytes (s : ByteArray) : List UInt8 := s.data.toList
theorem bytes_length (s : ByteArray) : (bytes s).length = s.size := by simp [bytes]
theorem bytes_bstr (bs : List UInt8) : bytes (bstr bs) = bs := by simp [bytes, bstr]
theorem bstr_bytes (s : ByteArray) : bstr (bytes s) = s := by
  obtain ⟨d⟩ := s
  simp [bytes, bstr]
theorem byte_at {s : ByteArray} {q : Nat} (h : q < s.size) : (bytes s).getD q 0 = s[q] := by
  have h' : q < s.data.toList.length := by simpa using h
  rw [bytes, List.getD, List.getElem?_eq_getElem h']
  rfl

theorem foldl_push (ns : List UInt8) : ∀ s : ByteArray, (ns.map (fun b => (b.toNat : Int))).foldl (fun r n => r.push (UInt8.ofNat n.toNat)) s = ⟨s.data ++ ns.toArray⟩ := by
  induction ns with
  | nil => intro s; simp
  | cons b ns ih =>
    intro s
    simp only [List.map_cons, List.foldl_cons]
    rw [ih]
    obtain ⟨d⟩ := s
    simp [ByteArray.push]

end Go.Proofs.YtdiblkgjmkbpmaaGreat

namespace Go.Proofs.YtdiblkgjmkbpmaaGreat
open Go.RowKit

/-- condition c is in the cut of a set of events, as the program reckons it -/
def thS (x : His) (S : Nat) (c : Nat) : Bool := (decide (cnB x.cs c = -1) || S.testBit (cnB x.cs c).toNat) && decide (x.us.getD c 0 &&& S = 0)
/-- as the model reckons it -/
def thM (cs : List Cnd) (es : List Ev) (P : List Nat) (c : Nat) : Bool := (decide (cnB cs c < 0) || hasB (P.map fun (e : Nat) => (e : Int)) (cnB cs c)) && !usedB es P (c : Int)
def cutS (x : His) (S : Nat) : List Int := outTo (thS x S) x.cs.length
def cutM (cs : List Cnd) (es : List Ev) (P : List Nat) : List Int := outTo (thM cs es P) cs.length
theorem th_eq {x : His} (h : HisG x) {S : Nat} {P : List Nat} (hS : ∀ i, S.testBit i = true ↔ i ∈ P) (hP : ∀ e ∈ P, e < x.es.length) {c : Nat} (hc : c < x.cs.length) : thM x.cs x.es P c = thS x S c := by
  unfold thM thS
  have hby := h.m.by_ c hc
  have h1 : (decide (cnB x.cs c < 0) || hasB (P.map fun (e : Nat) => (e : Int)) (cnB x.cs c)) = (decide (cnB x.cs c = -1) || S.testBit (cnB x.cs c).toNat) := by
    rcases hby with e | ⟨e1, e2⟩
    · rw [decide_eq_true e, decide_eq_true (by omega)]; simp
    · rw [decide_eq_false (by omega), decide_eq_false (by omega), Bool.false_or, Bool.false_or, Bool.eq_iff_iff, hS, hasB_mem, decide_eq_true_iff, List.mem_map]
      constructor
      · rintro ⟨a, ha, e⟩
        rw [show (cnB x.cs c).toNat = a by omega]; exact ha
      · intro ha; exact ⟨_, ha, by omega⟩
  have h2 : (!usedB x.es P (c : Int)) = decide (x.us.getD c 0 &&& S = 0) := by
    rw [Bool.eq_iff_iff, Bool.not_eq_true', decide_eq_true_iff, Bool.eq_false_iff]
    unfold usedB
    rw [Ne, List.any_eq_true]
    constructor
    · intro hno
      apply Classical.byContradiction
      intro hne
      obtain ⟨i, h3, h4⟩ := and_ne.1 hne
      have h5 := (h.m.u c hc i).1 h3
      exact hno ⟨i, (hS i).1 h4, decide_eq_true ((cons_iff h.m.wf h5.1 (c := (c : Int)) (by omega)).1 (by rw [Int.toNat_natCast]; exact h5.2))⟩
    · rintro he ⟨i, hi, hd⟩
      have hil := hP i hi
      have h5 := (cons_iff h.m.wf hil (c := (c : Int)) (by omega)).2 (of_decide_eq_true hd)
      rw [Int.toNat_natCast] at h5
      exact and_ne.2 ⟨i, (h.m.u c hc i).2 ⟨hil, h5⟩, (hS i).2 hi⟩ he
  rw [h1, h2]
theorem outTo_congr {f g : Nat → Bool} : ∀ n, (∀ k, k < n → f k = g k) → outTo f n = outTo g n := fun n h => by
  unfold outTo
  rw [List.filter_congr (fun k hk => h k (by simpa using hk))]
theorem cut_eq {x : His} (h : HisG x) {S : Nat} {P : List Nat} (hS : ∀ i, S.testBit i = true ↔ i ∈ P) (hP : ∀ e ∈ P, e < x.es.length) : cutM x.cs x.es P = cutS x S := outTo_congr _ fun k hk => th_eq h hS hP hk
theorem outTo_in {f : Nat → Bool} {n : Nat} : ∀ k, k < (outTo f n).length → 0 ≤ (outTo f n).getD k 0 ∧ (outTo f n).getD k 0 < (n : Int) := fun k hk => by
  have h0 : (outTo f n).getD k 0 ∈ outTo f n := mem_getD.2 ⟨k, hk, rfl⟩
  generalize (outTo f n).getD k 0 = z at h0 ⊢
  unfold outTo at h0
  obtain ⟨e, he, e2⟩ := List.mem_map.1 h0
  have := List.mem_range.1 (List.mem_filter.1 he).1
  omega
/-- the conditions' places are places of the net -/
theorem hisTo_pl {n : NetD} {s : ByteArray} {evs : List Ev} (hg : goodN n = true) (hs : (s.size : Int) = n.places) : ∀ k, (∀ j, j < k → stepOk n (bornTo s s.size) evs j = true) → ∀ c, c < (hisTo n (bornTo s s.size) evs k).cs.length → 0 ≤ cnP (hisTo n (bornTo s s.size) evs k).cs c ∧ cnP (hisTo n (bornTo s s.size) evs k).cs c < n.places
  | 0, _, c, hc => by
    have key : ∀ m, ∀ i, i < (bornTo s m).length → 0 ≤ cnP (bornTo s m) i ∧ cnP (bornTo s m) i < (m : Int) := by
      intro m
      induction m with
      | zero => intro i hi; exact absurd hi (Nat.not_lt_zero _)
      | succ m ih =>
        intro i hi
        by_cases e : i < (bornTo s m).length
        · have h1 : cnP (bornTo s (m + 1)) i = cnP (bornTo s m) i := by
            show cnP (bornTo s m ++ _) i = _
            simp only [cnP, List.getD, List.getElem?_append_left e]
          rw [h1]
          have := ih i e
          omega
        · have hi' : i < (bornTo s m ++ (if (s.get! m).toNat = 49 then [((m : Int), (-1 : Int))] else [])).length := hi
          rw [List.length_append] at hi'
          show 0 ≤ cnP (bornTo s m ++ (if (s.get! m).toNat = 49 then [((m : Int), (-1 : Int))] else [])) i ∧ cnP (bornTo s m ++ (if (s.get! m).toNat = 49 then [((m : Int), (-1 : Int))] else [])) i < _
          split at hi'
          · rename_i e2
            rw [if_pos e2]
            have : i = (bornTo s m).length := by simp at hi'; omega
            subst this
            simp [cnP, List.getD]
            omega
          · simp at hi'; omega
    have := key s.size c hc
    rw [← hs]; exact this
  | k + 1, h, c, hc => by
    have ih := hisTo_pl hg hs k (fun j hj => h j (by omega))
    have hr := (goodN_tr hg (stepOk_tr (h k (by omega)))).2
    show 0 ≤ cnP ((hisTo n (bornTo s s.size) evs k).cs ++ madeBy n (evT evs k) (hisTo n (bornTo s s.size) evs k).es.length) c ∧ cnP ((hisTo n (bornTo s s.size) evs k).cs ++ madeBy n (evT evs k) (hisTo n (bornTo s s.size) evs k).es.length) c < _
    have hc' : c < ((hisTo n (bornTo s s.size) evs k).cs ++ madeBy n (evT evs k) (hisTo n (bornTo s s.size) evs k).es.length).length := hc
    rw [List.length_append] at hc'
    by_cases e : c < (hisTo n (bornTo s s.size) evs k).cs.length
    · have h1 : cnP ((hisTo n (bornTo s s.size) evs k).cs ++ madeBy n (evT evs k) (hisTo n (bornTo s s.size) evs k).es.length) c = cnP (hisTo n (bornTo s s.size) evs k).cs c := by
        simp only [cnP, List.getD, List.getElem?_append_left e]
      rw [h1]; exact ih c e
    · have hd : c - (hisTo n (bornTo s s.size) evs k).cs.length < (postOf n (evT evs k)).length := by
        unfold madeBy at hc'
        rw [List.length_map] at hc'
        omega
      have h1 : cnP ((hisTo n (bornTo s s.size) evs k).cs ++ madeBy n (evT evs k) (hisTo n (bornTo s s.size) evs k).es.length) c = (postOf n (evT evs k)).getD (c - (hisTo n (bornTo s s.size) evs k).cs.length) 0 := by
        simp only [cnP, List.getD, List.getElem?_append_right (Nat.le_of_not_lt e)]
        unfold madeBy
        simp [hd]
      rw [h1]
      have := riseB_rng hr _ hd
      omega
/-- the marking of the places of some conditions -/
def mkS (p : Nat) (cs : List Cnd) (C : List Int) : ByteArray := bstr ((List.range p).map fun (q : Nat) => if (q : Int) ∈ plL cs C then (49 : UInt8) else 48)
theorem mk_prog {p : Nat} {cs : List Cnd} {C : List Int} (hp : p ≤ 30) (hin : InArr (plS cs C)) : bstr ((putAll 49 blank (plS cs C)).take p) = mkS p cs C := by
  unfold mkS
  congr 1
  have hlen : (putAll 49 blank (plS cs C)).length = 30 := by rw [putAll_length]; rfl
  apply List.ext_getElem
  · rw [List.length_take, hlen, List.length_map, List.length_range]; omega
  · intro i h1 h2
    have hi : i < p := by simpa using h2
    have h3 := marked_getD hin (i := i) (by omega)
    have h4 : (putAll 49 blank (plS cs C)).getD i 0 = (putAll 49 blank (plS cs C))[i]'(by omega) := by simp only [List.getD, List.getElem?_eq_getElem (show i < (putAll 49 blank (plS cs C)).length by omega), Option.getD_some]
    rw [List.getElem_take, List.getElem_map, List.getElem_range, ← h4, h3]
    have hm : ((i : Int) ∈ plS cs C) ↔ ((i : Int) ∈ plL cs C) := by unfold plS; rw [List.mem_mergeSort]
    by_cases h : (i : Int) ∈ plL cs C
    · rw [if_pos h, if_pos (hm.2 h)]
    · rw [if_neg h, if_neg (fun q => h (hm.1 q))]
theorem mem_plM {cs : List Cnd} {C : List Int} {z : Int} : z ∈ plM cs C ↔ z ∈ plL cs C := by
  unfold plM
  rw [mem_puts]
  simp

end Go.Proofs.YtdiblkgjmkbpmaaGreat
