/- CONFIGURATIONS, said of data: the program's bit sets and the model's lists.
   MARKINGS AS ARRAYS of thirty bytes: what a block reads as; the walks withPlaces, withoutPlaces. -/
import Derived.Test.YtdiblkgjmkbpmaaGreatVHhe
import Derived.Test.YtdiblkgjmkbpmaaGreatVHib
import Derived.Stop.BytesEq
import Derived.Deep.MidRow
import Derived.Laws.CopyOwn
namespace Go.Proofs.YtdiblkgjmkbpmaaGreat
open Go.RowKit

theorem anyTo_ex {n : Nat} {g : Nat → Bool} (h : anyTo n g = true) : ∃ k, k < n ∧ g k = true := by
  apply Classical.byContradiction
  intro hno
  have : anyTo n g = false := anyTo_false fun k hk => by
    cases e : g k with
    | false => rfl
    | true => exact absurd ⟨k, hk, e⟩ hno
  rw [this] at h; cases h
/-- the set of the first k events of a list -/
def setTo (L : List Int) : Nat → Nat
  | 0 => 0
  | k + 1 => setTo L k ||| 2 ^ (L.getD k 0).toNat
def setL (L : List Int) : Nat := setTo L L.length
theorem setTo_fit {L : List Int} {m : Nat} (hm : m ≤ 64) (h : ∀ k, k < L.length → (L.getD k 0).toNat < m) : ∀ k, k ≤ L.length → setTo L k < 18446744073709551616
  | 0, _ => by show 0 < 18446744073709551616; decide
  | k + 1, hk => by
    have ih := setTo_fit hm h k (by omega)
    have h1 := h k (by omega)
    have h2 : (2 : Nat) ^ (L.getD k 0).toNat < 2 ^ 64 := Nat.pow_lt_pow_right (by decide) (by omega)
    exact Nat.or_lt_two_pow (n := 64) ih (by omega)
theorem setTo_bit {L : List Int} {i : Nat} : ∀ k, (setTo L k).testBit i = true ↔ ∃ q, q < k ∧ (L.getD q 0).toNat = i
  | 0 => by simp [setTo]
  | k + 1 => by
    show (setTo L k ||| 2 ^ (L.getD k 0).toNat).testBit i = true ↔ _
    rw [Nat.testBit_or, Bool.or_eq_true, setTo_bit k, Nat.testBit_two_pow, decide_eq_true_iff]
    constructor
    · rintro (⟨q, hq, e⟩ | e)
      · exact ⟨q, by omega, e⟩
      · exact ⟨k, by omega, e⟩
    · rintro ⟨q, hq, e⟩
      by_cases h : q = k
      · subst h; exact Or.inr e
      · exact Or.inl ⟨q, by omega, e⟩
/-- one set includes the other, as the program reckons it -/
def incB (S T : Nat) : Bool := decide (T &&& (18446744073709551615 - S) = 0)
theorem incB_iff {S T : Nat} (hS : S < 18446744073709551616) (hT : T < 18446744073709551616) : incB S T = true ↔ ∀ i, T.testBit i = true → S.testBit i = true := by
  unfold incB
  rw [decide_eq_true_iff]
  have e : 18446744073709551615 - S = 2 ^ 64 - (S + 1) := by omega
  have hb : ∀ i, (18446744073709551615 - S).testBit i = (decide (i < 64) && !S.testBit i) := fun i => by
    rw [e]; exact Nat.testBit_two_pow_sub_succ (n := 64) hS i
  constructor
  · intro h i hi
    have h1 : (T &&& (18446744073709551615 - S)).testBit i = false := by rw [h]; exact Nat.zero_testBit i
    rw [Nat.testBit_and, hi, Bool.true_and, hb, decide_eq_true (bit_small hT hi), Bool.true_and] at h1
    simpa using h1
  · intro h
    apply Classical.byContradiction
    intro hne
    obtain ⟨i, hi⟩ := bit_some hne
    rw [Nat.testBit_and, hb] at hi
    simp only [Bool.and_eq_true, Bool.not_eq_true'] at hi
    rw [h i hi.1] at hi
    exact absurd hi.2.2 (by simp)
/-- the program's test of a configuration -/
def cfgB (x : His) (L : List Int) : Bool := !cfB x.us (setL L) && !anyTo L.length (fun k => !incB (setL L) (x.ps.getD (L.getD k 0).toNat 0))
/-- the model's -/
def cfgM (x : His) (L : List Int) : Bool := decide (((pastQ x.cs x.es L).map fun (e : Nat) => (e : Int)) = L) && freeB x.es (L.map Int.toNat)
theorem list_toNat {L : List Int} (h : ∀ z ∈ L, 0 ≤ z) : ((L.map Int.toNat).map fun (e : Nat) => (e : Int)) = L := by
  rw [List.map_map]
  conv => rhs; rw [← List.map_id L]
  apply List.map_congr_left
  intro z hz
  have := h z hz
  show ((z.toNat : Nat) : Int) = z
  omega
theorem mem_getD {L : List Int} {z : Int} : z ∈ L ↔ ∃ q, q < L.length ∧ L.getD q 0 = z := by
  constructor
  · intro h
    obtain ⟨q, hq, e⟩ := List.getElem_of_mem h
    exact ⟨q, hq, by simpa only [List.getD, List.getElem?_eq_getElem hq, Option.getD_some] using e⟩
  · rintro ⟨q, hq, rfl⟩
    simp only [List.getD, List.getElem?_eq_getElem hq, Option.getD_some]
    exact List.getElem_mem hq
theorem cfg_eq {x : His} (h : HisG x) (h60 : x.es.length ≤ 60) {L : List Int} (hr : riseB 0 ((x.es.length : Int) - 1) L = true) : cfgM x L = cfgB x L := by
  have hin := rise_in rfl hr
  have hlt := rise_lt hr
  have hmem : ∀ z ∈ L, 0 ≤ z ∧ z < (x.es.length : Int) := fun z hz => by
    obtain ⟨q, hq, rfl⟩ := mem_getD.1 hz
    exact hin q hq
  have hbits : ∀ i, (setL L).testBit i = true ↔ ((i : Int) ∈ L) := fun i => by
    unfold setL
    rw [setTo_bit, mem_getD]
    constructor
    · rintro ⟨q, hq, e⟩
      exact ⟨q, hq, by have := hin q hq; omega⟩
    · rintro ⟨q, hq, e⟩
      exact ⟨q, hq, by omega⟩
  have hSf : setL L < 18446744073709551616 := setTo_fit (m := 64) (Nat.le_refl _) (fun k hk => by have := hin k hk; omega) _ (Nat.le_refl _)
  have hP : (L.map Int.toNat).Pairwise (· < ·) := by
    rw [List.pairwise_map]
    exact hlt.imp_of_mem fun {a b} ha hb hab => by have := hmem a ha; have := hmem b hb; omega
  have hPl : ∀ e ∈ L.map Int.toNat, e < x.es.length := fun e he => by
    obtain ⟨z, hz, rfl⟩ := List.mem_map.1 he
    have := hmem z hz
    omega
  have hPm : ∀ i : Nat, i ∈ L.map Int.toNat ↔ (i : Int) ∈ L := fun i => by
    rw [List.mem_map]
    constructor
    · rintro ⟨z, hz, rfl⟩
      have := hmem z hz
      rw [show ((z.toNat : Nat) : Int) = z by omega]; exact hz
    · intro hi; exact ⟨_, hi, by simp⟩
  have hc := conf_eq h.m h.fu h.nd (S := setL L) hP hPl (fun i _ => (hbits i).trans (hPm i).symm)
  unfold cfgM cfgB
  rw [← hc, Bool.not_not, Bool.and_comm]
  congr 1
  have hqr : ((pastQ x.cs x.es L).map fun (e : Nat) => (e : Int)).Pairwise (· < ·) := by
    rw [List.pairwise_map]
    exact (pastQ_rise _ _ _).imp fun hab => by omega
  have hqm : ∀ f : Nat, (f : Int) ∈ ((pastQ x.cs x.es L).map fun (e : Nat) => (e : Int)) ↔ ∃ g : Nat, (g : Int) ∈ L ∧ Anc x.cs x.es g f := fun f => by
    rw [← mem_pastQ h.m.wf (fun z hz => (hmem z hz).2), List.mem_map]
    constructor
    · rintro ⟨z, hz, e⟩
      have : z = f := by omega
      subst this; exact hz
    · intro hf; exact ⟨f, hf, rfl⟩
  rw [Bool.eq_iff_iff, decide_eq_true_iff, Bool.not_eq_true', Bool.eq_false_iff]
  constructor
  · intro he hany
    obtain ⟨k, hk, hi⟩ := anyTo_ex hany
    rw [Bool.not_eq_true'] at hi
    have hk2 := hin k hk
    have : incB (setL L) (x.ps.getD (L.getD k 0).toNat 0) = true := (incB_iff hSf (h.fp _)).2 fun i hb => by
      rw [hbits, ← he, hqm]
      refine ⟨(L.getD k 0).toNat, mem_getD.2 ⟨k, hk, by omega⟩, ?_⟩
      exact (h.m.p _ (by omega) i).1 hb
    rw [this] at hi; cases hi
  · intro hno
    apply rise_ext _ _ hqr hlt
    intro z
    constructor
    · intro hz
      obtain ⟨f, _, rfl⟩ := List.mem_map.1 hz
      obtain ⟨g, hg, ha⟩ := (hqm f).1 hz
      obtain ⟨k, hk, e⟩ := mem_getD.1 hg
      have hgl := hmem _ hg
      have hi : incB (setL L) (x.ps.getD (L.getD k 0).toNat 0) = true := by
        cases hq : incB (setL L) (x.ps.getD (L.getD k 0).toNat 0) with
        | true => rfl
        | false =>
          exact absurd (anyTo_true hk (by show (!incB (setL L) (x.ps.getD (L.getD k 0).toNat 0)) = true; rw [hq]; rfl)) hno
      rw [e, Int.toNat_natCast] at hi
      exact (hbits f).1 ((incB_iff hSf (h.fp _)).1 hi f ((h.m.p g (by omega) f).2 ha))
    · intro hz
      have hz2 := hmem z hz
      have e : ((z.toNat : Nat) : Int) = z := by omega
      rw [← e]
      exact (hqm z.toNat).2 ⟨z.toNat, by rw [e]; exact hz, Anc.self _⟩

end Go.Proofs.YtdiblkgjmkbpmaaGreat

namespace Go.Proofs.YtdiblkgjmkbpmaaGreat
open Go.RowKit

/-- the cells of a marking -/
def arr (xs : List UInt8) : List Value := xs.map Extern.Stop.cell
theorem arr_length (xs : List UInt8) : (arr xs).length = xs.length := by simp [arr]
theorem arr_one (xs : List UInt8) : ∀ v ∈ arr xs, v.oneCell' = true := by
  intro v hv
  obtain ⟨b, _, rfl⟩ := List.mem_map.1 hv
  rfl
theorem arr_all (xs : List UInt8) : (arr xs).toArray.all (·.oneCell') = true := all_oneCell_toArray (arr_one xs)
theorem arr_get {xs : List UInt8} {q : Nat} (h : q < xs.length) : (arr xs)[q]? = some (.int .u8 ((xs.getD q 0).toNat : Int)) := by
  simp [arr, h, List.getD, Extern.Stop.cell]
theorem arr_set (xs : List UInt8) (q : Nat) (v : UInt8) : (arr xs).toArray.setIfInBounds q (.int .u8 (v.toNat : Int)) = (arr (xs.set q v)).toArray := by
  apply Array.ext'
  simp [arr, List.map_set, Extern.Stop.cell]
theorem Tryz.infoArr : (Tryz.prog.info? 137).map (·.size) = some 30 := by kernel_rfl
theorem infoArr {xs : List UInt8} (h : xs.length = 30) : (Tryz.prog.info? 137).map (·.size) = some (arr xs).toArray.size := by
  rw [List.size_toArray, arr_length, h]; exact Tryz.infoArr
theorem eqlArr (xs ys : List UInt8) (hx : xs.length = 30) (hy : ys.length = 30) (w : World) :
    (Op.equalIn 10000 137 (.agg (arr xs).toArray) (.agg (arr ys).toArray)).run Tryz.prog w = .ok (xs == ys) w :=
  run_equalIn_bytes w 9998 137 5 30 Tryz.underlying137 Tryz.underlying5 (fun _ => by kernel_rfl) xs ys hx hy
/-- nothing written -/
def zeros : List UInt8 := List.replicate 30 0
theorem zeros_length : zeros.length = 30 := rfl

/-- block b holds the marking xs -/
def ArrAt (w : World) (b : Nat) (xs : List UInt8) : Prop := w.heap[b]? = some (.cells (arr xs).toArray 137 (0, 0)) ∧ xs.length = 30

theorem ArrAt.lt {w : World} {b : Nat} {xs : List UInt8} (h : ArrAt w b xs) : b < w.heap.size := (Array.getElem?_eq_some_iff.1 h.1).1
theorem ArrAt.new (w : World) {xs : List UInt8} (h : xs.length = 30) : ArrAt (w.alloc (.cells (arr xs).toArray 137)) w.heap.size xs := ⟨heap_alloc_new w _, h⟩
theorem ArrAt.below {w w' : World} {b B : Nat} {xs : List UInt8} (h : ArrAt w b xs) (hb : Below B w w') (hB : b < B) : ArrAt w' b xs := ⟨(hb.block b hB).trans h.1, h.2⟩
theorem ArrAt.after {w w' : World} {b : Nat} {xs : List UInt8} (h : ArrAt w b xs) (hb : Below w.heap.size w w') : ArrAt w' b xs := h.below hb h.lt
theorem ArrAt.other {w : World} {b : Nat} {xs : List UInt8} (h : ArrAt w b xs) (a : Addr) (v : Value) (hne : b ≠ a.block) : ArrAt (w.setCell a v) b xs := ⟨(heap_setCell_other w a b v hne).trans h.1, h.2⟩
theorem ArrAt.put {w : World} {b : Nat} {xs : List UInt8} (h : ArrAt w b xs) (q : Nat) (v : UInt8) : ArrAt (w.setCell ⟨b, q, none⟩ (.int .u8 (v.toNat : Int))) b (xs.set q v) :=
  ⟨by rw [heap_setCell_same w b q _ _ _ h.1, arr_set], by simp [h.2]⟩
theorem ArrAt.cell {w : World} {b : Nat} {xs : List UInt8} (h : ArrAt w b xs) {q : Nat} (hq : q < 30) : w.cell? ⟨b, q, none⟩ = some (.int .u8 ((xs.getD q 0).toNat : Int)) := by
  rw [cell_of_row w b q _ _ _ h.1, List.getElem?_toArray]
  exact arr_get (by rw [h.2]; exact hq)
theorem ArrAt.frozen {w : World} {b : Nat} {xs : List UInt8} (h : ArrAt w b xs) (q : Nat) : w.frozen? ⟨b, q, none⟩ = false := frozen_of_row w b q _ _ h.1
theorem ArrAt.range {w : World} {b : Nat} {xs : List UInt8} (h : ArrAt w b xs) : w.rangeAt b 0 (arr xs) := fun j v hv => by
  rw [Nat.zero_add, cell_of_row w b j _ _ _ h.1, List.getElem?_toArray]
  exact hv

/-- a call returns a marking -/
def RetA (w : World) (xs : List UInt8) (e : Ending) (w' : World) : Prop := e = .returned (.agg (arr xs).toArray) ∧ Below w.heap.size w w'

/-- marks (49) or unmarks (48) places -/
def putAll (v : UInt8) (xs : List UInt8) (ps : List Int) : List UInt8 := ps.foldl (fun m p => m.set p.toNat v) xs
theorem putAll_length (v : UInt8) (ps : List Int) : ∀ xs : List UInt8, (putAll v xs ps).length = xs.length := by
  unfold putAll
  induction ps with
  | nil => intro xs; rfl
  | cons p ps ih => intro xs; simp [List.foldl_cons, ih]
theorem putAll_take (v : UInt8) (xs : List UInt8) (ps : List Int) (k : Nat) (hk : k < ps.length) : putAll v xs (ps.take (k + 1)) = (putAll v xs (ps.take k)).set (ps.getD k 0).toNat v := by
  unfold putAll
  rw [List.take_succ_eq_append_getElem hk, List.foldl_append, ← getD_eq hk]
  rfl

/-- places are within a marking -/
def InArr (ps : List Int) : Prop := ∀ i, i < ps.length → 0 ≤ ps.getD i 0 ∧ ps.getD i 0 < 30

set_option maxRecDepth 100000 in
set_option maxHeartbeats 1000000 in
theorem withPlaces_any (xs : List UInt8) (hx : xs.length = 30) (v : Value) (ps : List Int) (w : World) (lo : Nat) (hv : IntsAt lo w v ps) (hn : ps.length ≤ 1048576) (hin : InArr ps) :
    Calls Tryz.prog 123 #[.agg (arr xs).toArray, v] w (RetA w (putAll 49 xs ps)) := by
  obtain ⟨ao, cap, rfl, hc, hz⟩ := hv
  have HF := Lib.hid hz; clear hz
  have HI := Lib.hid hin; clear hin
  have HX := Lib.hid hx; clear hx
  go_enter Tryz.func123, Tryz.ntmps123
  go_wp2_with fail
  go_loopw [9] (fun i wr => ∃ k : Nat, k ≤ ps.length ∧ i = .int .i64 k ∧ ArrAt wr w.heap.size (putAll 49 xs (ps.take k)) ∧ ArrAt wr (w.heap.size + 1) zeros ∧ Below w.heap.size w wr) (fun i _ => ps.length - (intOf i).toNat)
  case atStart =>
    refine ⟨0, Nat.zero_le _, rfl, ?_, ?_, ?_⟩
    · exact (ArrAt.new w HX.out).after ((Below.refl _ _).alloc (Nat.le_refl _) _)
    · have h := ArrAt.new (w.alloc (.cells (arr xs).toArray 137)) zeros_length
      rw [World.size_alloc] at h
      exact h
    · (repeat' (first | (with_reducible exact Below.refl _ _) | (with_reducible assumption) | (with_reducible refine Below.alloc ?_ ?_ _) | (with_reducible refine Below.drew ?_) | (with_reducible refine below_drewN ?_ _) | (with_reducible refine Below.setCell ?_ ?_ _) | go_size))
  case round =>
    obtain ⟨k, hk, rfl, ha, hb, hb1⟩ := hrel
    have HA := Lib.hid ha; clear ha
    have HB := Lib.hid hb; clear hb
    by_cases hlt : k < ps.length
    · rcases HF.out with rfl | ⟨b, off, rfl, hlo, hcell⟩
      · simp at hlt
      have c1 := Carries.of lo hb1 _ _ hlo (hcell k hlt)
      obtain ⟨i0, i1⟩ := HI.out k hlt
      obtain ⟨x, hxx⟩ : ∃ x, x = ps.getD k 0 := ⟨_, rfl⟩
      rw [← hxx] at c1 i0 i1
      obtain ⟨q, rfl⟩ := Int.eq_ofNat_of_zero_le i0
      have HQ := Lib.hid hxx; clear hxx
      clear hcell
      have i2 : q < 30 := by omega
      have c2 := HA.out.cell i2
      have c3 := HA.out.frozen q
      have HN : Hid (ArrAt (wr.setCell ⟨w.heap.size, q, none⟩ (.int .u8 49)) w.heap.size (putAll 49 xs (ps.take (k + 1)))) := by
        have h := HA.out.put q 49
        rw [putAll_take _ _ _ _ hlt, ← HQ.out]
        exact h
      have HM := Lib.hid (HB.out.other ⟨w.heap.size, q, none⟩ (.int .u8 49) (by simp))
      go_wp2_with fail
      go_roundw
      case rel => exact ⟨k + 1, by omega, by go_num, HN.out, HM.out, hb1.setCell (Nat.le_refl _) _⟩
      case measure => simp [intOf]; omega
    · have hkk : k = ps.length := by omega
      subst hkk
      rw [List.take_length] at HA
      have hl : (putAll 49 xs ps).length = 30 := by rw [putAll_length]; exact HX.out
      go_wp2_with (first | (refine wpList_load_row rfl 137 _ rfl w.heap.size rfl _ _ _ _ HA.out.1 Tryz.underlying137 rfl (infoArr hl) ?_) | (refine wpList_store_row rfl 137 _ _ rfl (w.heap.size + 1) _ rfl rfl _ _ HB.out.1 (infoArr hl) (by simp [arr_length, hl, zeros_length]) (arr_all _) ?_))
      refine bodyPost_ret (v := .agg (arr (putAll 49 xs ps)).toArray) (results_cell_row rfl _ _ (w.heap.size + 1) _ _ _ _ rfl (setRow_heap _ _ _ _ _ _ HB.out.1) Tryz.underlying137 rfl (infoArr hl)) rfl ⟨rfl, ?_⟩
      exact below_setRow hb1 (by omega) _

end Go.Proofs.YtdiblkgjmkbpmaaGreat
