/- PLAIN PART: byte k of a string, by its two readings. No program is named here.
   WALKS: l1Mark, IsValidMarking of both.
   MARKINGS AS ARRAYS of thirty bytes: what a block reads as; the walks withPlaces, withoutPlaces. -/
import Derived.Test.YtigkgfdnnfmmmaaVInts
import Derived.Test.YtigkgfdnnfmmmaaVImpl
import Derived.Stop.BytesEq
import Derived.Deep.MidRow
import Derived.Laws.CopyOwn
namespace Go.Proofs.Ytigkgfdnnfmmmaa
open Go.RowKit

theorem get!_eq {s : ByteArray} {k : Nat} (h : k < s.size) : s.get! k = s[k] := by
  show s.data[k]! = s.data[k]
  exact getElem!_pos s.data k h

end Go.Proofs.Ytigkgfdnnfmmmaa

namespace Go.Proofs.Ytigkgfdnnfmmmaa
open Go.RowKit

/-- the first k bytes are '0' or '1' -/
def DigTo (s : ByteArray) (k : Nat) : Prop := ∀ i, i < k → (s.get! i).toNat = 48 ∨ (s.get! i).toNat = 49
instance (s : ByteArray) (k : Nat) : Decidable (DigTo s k) := by unfold DigTo; infer_instance
def digB (s : ByteArray) : Bool := decide (DigTo s s.size)
theorem DigTo.zero (s : ByteArray) : DigTo s 0 := fun _i hi => absurd hi (Nat.not_lt_zero _)
theorem DigTo.succ {s : ByteArray} {k : Nat} (h : DigTo s k) (hk : k < s.size) (hd : s[k].toNat = 48 ∨ s[k].toNat = 49) : DigTo s (k + 1) := by
  intro i hi
  by_cases e : i = k
  · subst e; rw [get!_eq hk]; exact hd
  · exact h i (by omega)
theorem digB_true {s : ByteArray} (h : DigTo s s.size) : digB s = true := decide_eq_true h
theorem digB_false {s : ByteArray} {k : Nat} (hk : k < s.size) (hd : ¬ (s[k].toNat = 48 ∨ s[k].toNat = 49)) : digB s = false :=
  decide_eq_false fun h => hd (by rw [← get!_eq hk]; exact h k hk)

/-- a marking of a net -/
def markB (n : NetD) (s : ByteArray) : Bool := digB s && decide ((s.size : Int) = n.places)

set_option maxRecDepth 100000 in
set_option maxHeartbeats 400000 in
theorem l1Mark_any (v : Value) (n : NetD) (s : ByteArray) (w : World) (lo : Nat) (hv : NetAt lo w v n) (hs : s.size ≤ 1048576) :
    Calls Try.prog 71 #[v, .string s] w (RetB w (markB n s)) := by
  generalize hG : markB n s = g
  have HG := Lib.hid hG; clear hG
  obtain ⟨p, ts⟩ := n
  obtain ⟨hp0, hp1, u, rfl, ht⟩ := hv
  simp only at hp0 hp1 ht
  obtain ⟨ao, cap, rfl, hc, hz⟩ := ht
  clear hz
  go_enter Try.func71, Try.ntmps71
  go_wp2_with fail
  go_loop [5] (fun i => ∃ k : Nat, k ≤ s.size ∧ i = .int .i64 k ∧ Hid (DigTo s k)) (fun i => s.size - (intOf i).toNat)
  case atStart => exact ⟨0, Nat.zero_le _, rfl, DigTo.zero _⟩
  case round =>
    obtain ⟨k, hk, rfl, hd⟩ := hrel
    by_cases hlt : k < s.size
    · by_cases h8 : s[k].toNat = 48
      · have H2 := Lib.hid (hd.out.succ hlt (Or.inl h8))
        have t8 : ((s[k].toNat : Int) != 48) = false := by rw [h8]; rfl
        clear h8
        go_wp2_with fail
        go_round
        case rel => exact ⟨k + 1, by omega, by go_num, H2⟩
        case measure => simp [intOf]; omega
      · have t8 : ((s[k].toNat : Int) != 48) = true := by rw [bne_iff_ne]; omega
        by_cases h9 : s[k].toNat = 49
        · have H2 := Lib.hid (hd.out.succ hlt (Or.inr h9))
          have t9 : ((s[k].toNat : Int) != 49) = false := by rw [h9]; rfl
          clear h8 h9
          go_wp2_with fail
          go_round
          case rel => exact ⟨k + 1, by omega, by go_num, H2⟩
          case measure => simp [intOf]; omega
        · have t9 : ((s[k].toNat : Int) != 49) = true := by rw [bne_iff_ne]; omega
          have hfin : markB ⟨p, ts⟩ s = false := by unfold markB; rw [digB_false hlt (by omega)]; rfl
          rw [HG.out] at hfin
          subst hfin
          clear h8 h9
          go_wp2_with fail
          go_ret
          exact ⟨rfl, by (repeat' (first | (with_reducible exact Below.refl _ _) | (with_reducible assumption) | (with_reducible refine Below.alloc ?_ ?_ _) | (with_reducible refine Below.drew ?_) | (with_reducible refine below_drewN ?_ _) | (with_reducible refine Below.setCell ?_ ?_ _) | go_size))⟩
    · have hkk : k = s.size := by omega
      subst hkk
      have hd' := digB_true hd.out
      by_cases he : (s.size : Int) = p
      · have hfin : markB ⟨p, ts⟩ s = true := by unfold markB; rw [hd', decide_eq_true (by exact he)]; rfl
        rw [HG.out] at hfin
        subst hfin
        have te : ((s.size : Int) == p) = true := by simpa using he
        clear hd' he
        go_wp2_with fail
        go_ret
        exact ⟨rfl, by (repeat' (first | (with_reducible exact Below.refl _ _) | (with_reducible assumption) | (with_reducible refine Below.alloc ?_ ?_ _) | (with_reducible refine Below.drew ?_) | (with_reducible refine below_drewN ?_ _) | (with_reducible refine Below.setCell ?_ ?_ _) | go_size))⟩
      · have hfin : markB ⟨p, ts⟩ s = false := by unfold markB; rw [hd', decide_eq_false (by exact he)]; rfl
        rw [HG.out] at hfin
        subst hfin
        have te : ((s.size : Int) == p) = false := by simpa using he
        clear hd' he
        go_wp2_with fail
        go_ret
        exact ⟨rfl, by (repeat' (first | (with_reducible exact Below.refl _ _) | (with_reducible assumption) | (with_reducible refine Below.alloc ?_ ?_ _) | (with_reducible refine Below.drew ?_) | (with_reducible refine below_drewN ?_ _) | (with_reducible refine Below.setCell ?_ ?_ _) | go_size))⟩

set_option maxRecDepth 100000 in
set_option maxHeartbeats 400000 in
theorem IsValidMarking_any (v : Value) (n : NetD) (s : ByteArray) (w : World) (lo : Nat) (hv : NetAt lo w v n) (hsm : SmallTrs n.ts) (hs : s.size ≤ 1048576) :
    Calls Try.prog 36 #[v, .string s] w (RetB w (goodN n && markB n s)) := by
  generalize hG : goodN n = g
  have HG := Lib.hid hG; clear hG
  generalize hM : markB n s = m
  have HM := Lib.hid hM; clear hM
  obtain ⟨p, hp⟩ : ∃ p, p = n.places := ⟨_, rfl⟩
  have hv' := hv
  obtain ⟨hp0, hp1, u, rfl, ht⟩ := hv'
  obtain ⟨ao, cap, rfl, hc, hz⟩ := ht
  rw [← hp] at hv ⊢
  have HP := Lib.hid hp; clear hp
  have HV := Lib.hid hv; clear hv hz
  have HS := Lib.hid hsm; clear hsm
  go_enter Try.func36, Try.ntmps36
  go_wp2_with fail
  refine (IsValidNet_any _ n _ lo (HV.out.keep ?_) HS.out).mono ?_
  · (repeat' (first | (with_reducible exact Carries.refl _ _) | (with_reducible assumption) | (with_reducible refine Carries.alloc ?_ _) | (with_reducible refine Carries.drew ?_) | (with_reducible refine Carries.drewN ?_ _) | (with_reducible refine Carries.set ?_ ?_ _) | go_size))
  rintro e w1 ⟨rfl, hb⟩
  have hw1 : Below w.heap.size w w1 := by
    refine Below.trans ?_ (hb.mono ?_)
    · (repeat' (first | (with_reducible exact Below.refl _ _) | (with_reducible assumption) | (with_reducible refine Below.alloc ?_ ?_ _) | (with_reducible refine Below.drew ?_) | (with_reducible refine below_drewN ?_ _) | (with_reducible refine Below.setCell ?_ ?_ _) | go_size))
    · simp
  have a0 : w1.cell? ⟨w.heap.size, 0, none⟩ = some (.int .i64 p) := cell_carry (by simp) (Carries.of 0 hb)
  clear hb
  rw [HG.out]
  cases g with
  | false =>
    go_wp2_with fail
    go_ret
    exact ⟨rfl, hw1⟩
  | true =>
    by_cases he : (s.size : Int) = p
    case neg =>
      have te : ((s.size : Int) != p) = true := by simpa using he
      have hfin : markB n s = false := by unfold markB; rw [← HP.out, decide_eq_false (by exact he)]; simp
      rw [HM.out] at hfin
      subst hfin
      clear he
      go_wp2_with fail
      go_ret
      exact ⟨rfl, hw1⟩
    case pos =>
      have te : ((s.size : Int) != p) = false := by simpa using he
      have hm2 : markB n s = digB s := by unfold markB; rw [← HP.out, decide_eq_true (by exact he)]; simp
      have HM2 := Lib.hid (hm2.symm.trans HM.out); clear hm2 he
      go_wp2_with fail
      go_loop [5] (fun i => ∃ k : Nat, k ≤ s.size ∧ i = .int .i64 k ∧ Hid (DigTo s k)) (fun i => s.size - (intOf i).toNat)
      case atStart => exact ⟨0, Nat.zero_le _, rfl, DigTo.zero _⟩
      case round =>
        obtain ⟨k, hk, rfl, hd⟩ := hrel
        by_cases hlt : k < s.size
        · by_cases h8 : s[k].toNat = 48
          · have H2 := Lib.hid (hd.out.succ hlt (Or.inl h8))
            have t8 : ((s[k].toNat : Int) != 48) = false := by rw [h8]; rfl
            clear h8
            go_wp2_with fail
            go_round
            case rel => exact ⟨k + 1, by omega, by go_num, H2⟩
            case measure => simp [intOf]; omega
          · have t8 : ((s[k].toNat : Int) != 48) = true := by rw [bne_iff_ne]; omega
            by_cases h9 : s[k].toNat = 49
            · have H2 := Lib.hid (hd.out.succ hlt (Or.inr h9))
              have t9 : ((s[k].toNat : Int) != 49) = false := by rw [h9]; rfl
              clear h8 h9
              go_wp2_with fail
              go_round
              case rel => exact ⟨k + 1, by omega, by go_num, H2⟩
              case measure => simp [intOf]; omega
            · have t9 : ((s[k].toNat : Int) != 49) = true := by rw [bne_iff_ne]; omega
              have hfin := HM2.out
              rw [digB_false hlt (by omega)] at hfin
              subst hfin
              clear h8 h9
              go_wp2_with fail
              go_ret
              exact ⟨rfl, hw1⟩
        · have hkk : k = s.size := by omega
          subst hkk
          have hfin := HM2.out
          rw [digB_true hd.out] at hfin
          subst hfin
          go_wp2_with fail
          go_ret
          exact ⟨rfl, hw1⟩

end Go.Proofs.Ytigkgfdnnfmmmaa

namespace Go.Proofs.Ytigkgfdnnfmmmaa
open Go.RowKit

/-- the cells of a marking -/
def arr (xs : List UInt8) : List Value := xs.map Extern.Stop.cell
theorem arr_length (xs : List UInt8) : (arr xs).length = xs.length := by simp [arr]
theorem arr_one (xs : List UInt8) : ∀ v ∈ arr xs, v.oneCell' = true := by
  intro v hv
  obtain ⟨b, _, rfl⟩ := List.mem_map.1 hv
  rfl
theorem arr_all (xs : List UInt8) : (arr xs).toArray.all (·.oneCell') = true := all_oneCell_toArray (arr_one xs)
theorem arr_get {xs : List UInt8} {q : Nat} (h : q < xs.length) : (arr xs)[q]? = some (.int .u8 ((xs.getD q 0).toNat : Int)) := by
  simp [arr, h, List.getD, Extern.Stop.cell]
theorem arr_set (xs : List UInt8) (q : Nat) (v : UInt8) : (arr xs).toArray.setIfInBounds q (.int .u8 (v.toNat : Int)) = (arr (xs.set q v)).toArray := by
  apply Array.ext'
  simp [arr, List.map_set, Extern.Stop.cell]
theorem Try.infoArr : (Try.prog.info? 111).map (·.size) = some 30 := by kernel_rfl
theorem infoArr {xs : List UInt8} (h : xs.length = 30) : (Try.prog.info? 111).map (·.size) = some (arr xs).toArray.size := by
  rw [List.size_toArray, arr_length, h]; exact Try.infoArr
theorem eqlArr (xs ys : List UInt8) (hx : xs.length = 30) (hy : ys.length = 30) (w : World) :
    (Op.equalIn 10000 111 (.agg (arr xs).toArray) (.agg (arr ys).toArray)).run Try.prog w = .ok (xs == ys) w :=
  run_equalIn_bytes w 9998 111 5 30 Try.underlying111 Try.underlying5 (fun _ => by kernel_rfl) xs ys hx hy
/-- nothing written -/
def zeros : List UInt8 := List.replicate 30 0
theorem zeros_length : zeros.length = 30 := rfl

/-- block b holds the marking xs -/
def ArrAt (w : World) (b : Nat) (xs : List UInt8) : Prop := w.heap[b]? = some (.cells (arr xs).toArray 111 (0, 0)) ∧ xs.length = 30

theorem ArrAt.lt {w : World} {b : Nat} {xs : List UInt8} (h : ArrAt w b xs) : b < w.heap.size := (Array.getElem?_eq_some_iff.1 h.1).1
theorem ArrAt.new (w : World) {xs : List UInt8} (h : xs.length = 30) : ArrAt (w.alloc (.cells (arr xs).toArray 111)) w.heap.size xs := ⟨heap_alloc_new w _, h⟩
theorem ArrAt.below {w w' : World} {b B : Nat} {xs : List UInt8} (h : ArrAt w b xs) (hb : Below B w w') (hB : b < B) : ArrAt w' b xs := ⟨(hb.block b hB).trans h.1, h.2⟩
theorem ArrAt.after {w w' : World} {b : Nat} {xs : List UInt8} (h : ArrAt w b xs) (hb : Below w.heap.size w w') : ArrAt w' b xs := h.below hb h.lt
theorem ArrAt.other {w : World} {b : Nat} {xs : List UInt8} (h : ArrAt w b xs) (a : Addr) (v : Value) (hne : b ≠ a.block) : ArrAt (w.setCell a v) b xs := ⟨(heap_setCell_other w a b v hne).trans h.1, h.2⟩
theorem ArrAt.put {w : World} {b : Nat} {xs : List UInt8} (h : ArrAt w b xs) (q : Nat) (v : UInt8) : ArrAt (w.setCell ⟨b, q, none⟩ (.int .u8 (v.toNat : Int))) b (xs.set q v) :=
  ⟨by rw [heap_setCell_same w b q _ _ _ h.1, arr_set], by simp [h.2]⟩
theorem ArrAt.cell {w : World} {b : Nat} {xs : List UInt8} (h : ArrAt w b xs) {q : Nat} (hq : q < 30) : w.cell? ⟨b, q, none⟩ = some (.int .u8 ((xs.getD q 0).toNat : Int)) := by
  rw [cell_of_row w b q _ _ _ h.1, List.getElem?_toArray]
  exact arr_get (by rw [h.2]; exact hq)
theorem ArrAt.frozen {w : World} {b : Nat} {xs : List UInt8} (h : ArrAt w b xs) (q : Nat) : w.frozen? ⟨b, q, none⟩ = false := frozen_of_row w b q _ _ h.1
theorem ArrAt.range {w : World} {b : Nat} {xs : List UInt8} (h : ArrAt w b xs) : w.rangeAt b 0 (arr xs) := fun j v hv => by
  rw [Nat.zero_add, cell_of_row w b j _ _ _ h.1, List.getElem?_toArray]
  exact hv

/-- a call returns a marking -/
def RetA (w : World) (xs : List UInt8) (e : Ending) (w' : World) : Prop := e = .returned (.agg (arr xs).toArray) ∧ Below w.heap.size w w'

/-- marks (49) or unmarks (48) places -/
def putAll (v : UInt8) (xs : List UInt8) (ps : List Int) : List UInt8 := ps.foldl (fun m p => m.set p.toNat v) xs
theorem putAll_length (v : UInt8) (ps : List Int) : ∀ xs : List UInt8, (putAll v xs ps).length = xs.length := by
  unfold putAll
  induction ps with
  | nil => intro xs; rfl
  | cons p ps ih => intro xs; simp [List.foldl_cons, ih]
theorem putAll_take (v : UInt8) (xs : List UInt8) (ps : List Int) (k : Nat) (hk : k < ps.length) : putAll v xs (ps.take (k + 1)) = (putAll v xs (ps.take k)).set (ps.getD k 0).toNat v := by
  unfold putAll
  rw [List.take_succ_eq_append_getElem hk, List.foldl_append, ← getD_eq hk]
  rfl

/-- places are within a marking -/
def InArr (ps : List Int) : Prop := ∀ i, i < ps.length → 0 ≤ ps.getD i 0 ∧ ps.getD i 0 < 30

set_option maxRecDepth 100000 in
set_option maxHeartbeats 1000000 in
theorem withPlaces_any (xs : List UInt8) (hx : xs.length = 30) (v : Value) (ps : List Int) (w : World) (lo : Nat) (hv : IntsAt lo w v ps) (hn : ps.length ≤ 1048576) (hin : InArr ps) :
    Calls Try.prog 110 #[.agg (arr xs).toArray, v] w (RetA w (putAll 49 xs ps)) := by
  obtain ⟨ao, cap, rfl, hc, hz⟩ := hv
  have HF := Lib.hid hz; clear hz
  have HI := Lib.hid hin; clear hin
  have HX := Lib.hid hx; clear hx
  go_enter Try.func110, Try.ntmps110
  go_wp2_with fail
  go_loopw [9] (fun i wr => ∃ k : Nat, k ≤ ps.length ∧ i = .int .i64 k ∧ ArrAt wr w.heap.size (putAll 49 xs (ps.take k)) ∧ ArrAt wr (w.heap.size + 1) zeros ∧ Below w.heap.size w wr) (fun i _ => ps.length - (intOf i).toNat)
  case atStart =>
    refine ⟨0, Nat.zero_le _, rfl, ?_, ?_, ?_⟩
    · exact (ArrAt.new w HX.out).after ((Below.refl _ _).alloc (Nat.le_refl _) _)
    · have h := ArrAt.new (w.alloc (.cells (arr xs).toArray 111)) zeros_length
      rw [World.size_alloc] at h
      exact h
    · (repeat' (first | (with_reducible exact Below.refl _ _) | (with_reducible assumption) | (with_reducible refine Below.alloc ?_ ?_ _) | (with_reducible refine Below.drew ?_) | (with_reducible refine below_drewN ?_ _) | (with_reducible refine Below.setCell ?_ ?_ _) | go_size))
  case round =>
    obtain ⟨k, hk, rfl, ha, hb, hb1⟩ := hrel
    have HA := Lib.hid ha; clear ha
    have HB := Lib.hid hb; clear hb
    by_cases hlt : k < ps.length
    · rcases HF.out with rfl | ⟨b, off, rfl, hlo, hcell⟩
      · simp at hlt
      have c1 := Carries.of lo hb1 _ _ hlo (hcell k hlt)
      obtain ⟨i0, i1⟩ := HI.out k hlt
      obtain ⟨x, hxx⟩ : ∃ x, x = ps.getD k 0 := ⟨_, rfl⟩
      rw [← hxx] at c1 i0 i1
      obtain ⟨q, rfl⟩ := Int.eq_ofNat_of_zero_le i0
      have HQ := Lib.hid hxx; clear hxx
      clear hcell
      have i2 : q < 30 := by omega
      have c2 := HA.out.cell i2
      have c3 := HA.out.frozen q
      have HN : Hid (ArrAt (wr.setCell ⟨w.heap.size, q, none⟩ (.int .u8 49)) w.heap.size (putAll 49 xs (ps.take (k + 1)))) := by
        have h := HA.out.put q 49
        rw [putAll_take _ _ _ _ hlt, ← HQ.out]
        exact h
      have HM := Lib.hid (HB.out.other ⟨w.heap.size, q, none⟩ (.int .u8 49) (by simp))
      go_wp2_with fail
      go_roundw
      case rel => exact ⟨k + 1, by omega, by go_num, HN.out, HM.out, hb1.setCell (Nat.le_refl _) _⟩
      case measure => simp [intOf]; omega
    · have hkk : k = ps.length := by omega
      subst hkk
      rw [List.take_length] at HA
      have hl : (putAll 49 xs ps).length = 30 := by rw [putAll_length]; exact HX.out
      go_wp2_with (first | (refine wpList_load_row rfl 111 _ rfl w.heap.size rfl _ _ _ _ HA.out.1 Try.underlying111 rfl (infoArr hl) ?_) | (refine wpList_store_row rfl 111 _ _ rfl (w.heap.size + 1) _ rfl rfl _ _ HB.out.1 (infoArr hl) (by simp [arr_length, hl, zeros_length]) (arr_all _) ?_))
      refine bodyPost_ret (v := .agg (arr (putAll 49 xs ps)).toArray) (results_cell_row rfl _ _ (w.heap.size + 1) _ _ _ _ rfl (setRow_heap _ _ _ _ _ _ HB.out.1) Try.underlying111 rfl (infoArr hl)) rfl ⟨rfl, ?_⟩
      exact below_setRow hb1 (by omega) _

set_option maxRecDepth 100000 in
set_option maxHeartbeats 1000000 in
theorem withoutPlaces_any (xs : List UInt8) (hx : xs.length = 30) (v : Value) (ps : List Int) (w : World) (lo : Nat) (hv : IntsAt lo w v ps) (hn : ps.length ≤ 1048576) (hin : InArr ps) :
    Calls Try.prog 109 #[.agg (arr xs).toArray, v] w (RetA w (putAll 48 xs ps)) := by
  obtain ⟨ao, cap, rfl, hc, hz⟩ := hv
  have HF := Lib.hid hz; clear hz
  have HI := Lib.hid hin; clear hin
  have HX := Lib.hid hx; clear hx
  go_enter Try.func109, Try.ntmps109
  go_wp2_with fail
  go_loopw [9] (fun i wr => ∃ k : Nat, k ≤ ps.length ∧ i = .int .i64 k ∧ ArrAt wr w.heap.size (putAll 48 xs (ps.take k)) ∧ ArrAt wr (w.heap.size + 1) zeros ∧ Below w.heap.size w wr) (fun i _ => ps.length - (intOf i).toNat)
  case atStart =>
    refine ⟨0, Nat.zero_le _, rfl, ?_, ?_, ?_⟩
    · exact (ArrAt.new w HX.out).after ((Below.refl _ _).alloc (Nat.le_refl _) _)
    · have h := ArrAt.new (w.alloc (.cells (arr xs).toArray 111)) zeros_length
      rw [World.size_alloc] at h
      exact h
    · (repeat' (first | (with_reducible exact Below.refl _ _) | (with_reducible assumption) | (with_reducible refine Below.alloc ?_ ?_ _) | (with_reducible refine Below.drew ?_) | (with_reducible refine below_drewN ?_ _) | (with_reducible refine Below.setCell ?_ ?_ _) | go_size))
  case round =>
    obtain ⟨k, hk, rfl, ha, hb, hb1⟩ := hrel
    have HA := Lib.hid ha; clear ha
    have HB := Lib.hid hb; clear hb
    by_cases hlt : k < ps.length
    · rcases HF.out with rfl | ⟨b, off, rfl, hlo, hcell⟩
      · simp at hlt
      have c1 := Carries.of lo hb1 _ _ hlo (hcell k hlt)
      obtain ⟨i0, i1⟩ := HI.out k hlt
      obtain ⟨x, hxx⟩ : ∃ x, x = ps.getD k 0 := ⟨_, rfl⟩
      rw [← hxx] at c1 i0 i1
      obtain ⟨q, rfl⟩ := Int.eq_ofNat_of_zero_le i0
      have HQ := Lib.hid hxx; clear hxx
      clear hcell
      have i2 : q < 30 := by omega
      have c2 := HA.out.cell i2
      have c3 := HA.out.frozen q
      have HN : Hid (ArrAt (wr.setCell ⟨w.heap.size, q, none⟩ (.int .u8 48)) w.heap.size (putAll 48 xs (ps.take (k + 1)))) := by
        have h := HA.out.put q 48
        rw [putAll_take _ _ _ _ hlt, ← HQ.out]
        exact h
      have HM := Lib.hid (HB.out.other ⟨w.heap.size, q, none⟩ (.int .u8 48) (by simp))
      go_wp2_with fail
      go_roundw
      case rel => exact ⟨k + 1, by omega, by go_num, HN.out, HM.out, hb1.setCell (Nat.le_refl _) _⟩
      case measure => simp [intOf]; omega
    · have hkk : k = ps.length := by omega
      subst hkk
      rw [List.take_length] at HA
      have hl : (putAll 48 xs ps).length = 30 := by rw [putAll_length]; exact HX.out
      go_wp2_with (first | (refine wpList_load_row rfl 111 _ rfl w.heap.size rfl _ _ _ _ HA.out.1 Try.underlying111 rfl (infoArr hl) ?_) | (refine wpList_store_row rfl 111 _ _ rfl (w.heap.size + 1) _ rfl rfl _ _ HB.out.1 (infoArr hl) (by simp [arr_length, hl, zeros_length]) (arr_all _) ?_))
      refine bodyPost_ret (v := .agg (arr (putAll 48 xs ps)).toArray) (results_cell_row rfl _ _ (w.heap.size + 1) _ _ _ _ rfl (setRow_heap _ _ _ _ _ _ HB.out.1) Try.underlying111 rfl (infoArr hl)) rfl ⟨rfl, ?_⟩
      exact below_setRow hb1 (by omega) _

end Go.Proofs.Ytigkgfdnnfmmmaa
