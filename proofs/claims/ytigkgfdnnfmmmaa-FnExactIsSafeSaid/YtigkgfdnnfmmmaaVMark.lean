/- PLAIN PART: byte k of a string, by its two readings. No program is named here.
   WALKS: l1Mark, IsValidMarking of both. -/
import Derived.Test.YtigkgfdnnfmmmaaVNetd
import Derived.Test.YtigkgfdnnfmmmaaVImpl
namespace Go.Proofs.Ytigkgfdnnfmmmaa
open Go.RowKit

theorem get!_eq {s : ByteArray} {k : Nat} (h : k < s.size) : s.get! k = s[k] := by
  show s.data[k]! = s.data[k]
  exact getElem!_pos s.data k h

end Go.Proofs.Ytigkgfdnnfmmmaa

namespace Go.Proofs.Ytigkgfdnnfmmmaa
open Go.RowKit

/-- the first k bytes are '0' or '1' -/
def DigTo (s : ByteArray) (k : Nat) : Prop := ∀ i, i < k → (s.get! i).toNat = 48 ∨ (s.get! i).toNat = 49
instance (s : ByteArray) (k : Nat) : Decidable (DigTo s k) := by unfold DigTo; infer_instance
def digB (s : ByteArray) : Bool := decide (DigTo s s.size)
theorem DigTo.zero (s : ByteArray) : DigTo s 0 := fun _i hi => absurd hi (Nat.not_lt_zero _)
theorem DigTo.succ {s : ByteArray} {k : Nat} (h : DigTo s k) (hk : k < s.size) (hd : s[k].toNat = 48 ∨ s[k].toNat = 49) : DigTo s (k + 1) := by
  intro i hi
  by_cases e : i = k
  · subst e; rw [get!_eq hk]; exact hd
  · exact h i (by omega)
theorem digB_true {s : ByteArray} (h : DigTo s s.size) : digB s = true := decide_eq_true h
theorem digB_false {s : ByteArray} {k : Nat} (hk : k < s.size) (hd : ¬ (s[k].toNat = 48 ∨ s[k].toNat = 49)) : digB s = false :=
  decide_eq_false fun h => hd (by rw [← get!_eq hk]; exact h k hk)

/-- a marking of a net -/
def markB (n : NetD) (s : ByteArray) : Bool := digB s && decide ((s.size : Int) = n.places)

set_option maxRecDepth 100000 in
set_option maxHeartbeats 400000 in
theorem l1Mark_any (v : Value) (n : NetD) (s : ByteArray) (w : World) (lo : Nat) (hv : NetAt lo w v n) (hs : s.size ≤ 1048576) :
    Calls Try.prog 71 #[v, .string s] w (RetB w (markB n s)) := by
  generalize hG : markB n s = g
  have HG := Lib.hid hG; clear hG
  obtain ⟨p, ts⟩ := n
  obtain ⟨hp0, hp1, u, rfl, ht⟩ := hv
  simp only at hp0 hp1 ht
  obtain ⟨ao, cap, rfl, hc, hz⟩ := ht
  clear hz
  go_enter Try.func71, Try.ntmps71
  go_wp2_with fail
  go_loop [5] (fun i => ∃ k : Nat, k ≤ s.size ∧ i = .int .i64 k ∧ Hid (DigTo s k)) (fun i => s.size - (intOf i).toNat)
  case atStart => exact ⟨0, Nat.zero_le _, rfl, DigTo.zero _⟩
  case round =>
    obtain ⟨k, hk, rfl, hd⟩ := hrel
    by_cases hlt : k < s.size
    · by_cases h8 : s[k].toNat = 48
      · have H2 := Lib.hid (hd.out.succ hlt (Or.inl h8))
        have t8 : ((s[k].toNat : Int) != 48) = false := by rw [h8]; rfl
        clear h8
        go_wp2_with fail
        go_round
        case rel => exact ⟨k + 1, by omega, by go_num, H2⟩
        case measure => simp [intOf]; omega
      · have t8 : ((s[k].toNat : Int) != 48) = true := by rw [bne_iff_ne]; omega
        by_cases h9 : s[k].toNat = 49
        · have H2 := Lib.hid (hd.out.succ hlt (Or.inr h9))
          have t9 : ((s[k].toNat : Int) != 49) = false := by rw [h9]; rfl
          clear h8 h9
          go_wp2_with fail
          go_round
          case rel => exact ⟨k + 1, by omega, by go_num, H2⟩
          case measure => simp [intOf]; omega
        · have t9 : ((s[k].toNat : Int) != 49) = true := by rw [bne_iff_ne]; omega
          have hfin : markB ⟨p, ts⟩ s = false := by unfold markB; rw [digB_false hlt (by omega)]; rfl
          rw [HG.out] at hfin
          subst hfin
          clear h8 h9
          go_wp2_with fail
          go_ret
          exact ⟨rfl, by (repeat' (first | (with_reducible exact Below.refl _ _) | (with_reducible assumption) | (with_reducible refine Below.alloc ?_ ?_ _) | (with_reducible refine Below.drew ?_) | (with_reducible refine below_drewN ?_ _) | (with_reducible refine Below.setCell ?_ ?_ _) | go_size))⟩
    · have hkk : k = s.size := by omega
      subst hkk
      have hd' := digB_true hd.out
      by_cases he : (s.size : Int) = p
      · have hfin : markB ⟨p, ts⟩ s = true := by unfold markB; rw [hd', decide_eq_true (by exact he)]; rfl
        rw [HG.out] at hfin
        subst hfin
        have te : ((s.size : Int) == p) = true := by simpa using he
        clear hd' he
        go_wp2_with fail
        go_ret
        exact ⟨rfl, by (repeat' (first | (with_reducible exact Below.refl _ _) | (with_reducible assumption) | (with_reducible refine Below.alloc ?_ ?_ _) | (with_reducible refine Below.drew ?_) | (with_reducible refine below_drewN ?_ _) | (with_reducible refine Below.setCell ?_ ?_ _) | go_size))⟩
      · have hfin : markB ⟨p, ts⟩ s = false := by unfold markB; rw [hd', decide_eq_false (by exact he)]; rfl
        rw [HG.out] at hfin
        subst hfin
        have te : ((s.size : Int) == p) = false := by simpa using he
        clear hd' he
        go_wp2_with fail
        go_ret
        exact ⟨rfl, by (repeat' (first | (with_reducible exact Below.refl _ _) | (with_reducible assumption) | (with_reducible refine Below.alloc ?_ ?_ _) | (with_reducible refine Below.drew ?_) | (with_reducible refine below_drewN ?_ _) | (with_reducible refine Below.setCell ?_ ?_ _) | go_size))⟩

set_option maxRecDepth 100000 in
set_option maxHeartbeats 400000 in
theorem IsValidMarking_any (v : Value) (n : NetD) (s : ByteArray) (w : World) (lo : Nat) (hv : NetAt lo w v n) (hsm : SmallTrs n.ts) (hs : s.size ≤ 1048576) :
    Calls Try.prog 36 #[v, .string s] w (RetB w (goodN n && markB n s)) := by
  generalize hG : goodN n = g
  have HG := Lib.hid hG; clear hG
  generalize hM : markB n s = m
  have HM := Lib.hid hM; clear hM
  obtain ⟨p, hp⟩ : ∃ p, p = n.places := ⟨_, rfl⟩
  have hv' := hv
  obtain ⟨hp0, hp1, u, rfl, ht⟩ := hv'
  obtain ⟨ao, cap, rfl, hc, hz⟩ := ht
  rw [← hp] at hv ⊢
  have HP := Lib.hid hp; clear hp
  have HV := Lib.hid hv; clear hv hz
  have HS := Lib.hid hsm; clear hsm
  go_enter Try.func36, Try.ntmps36
  go_wp2_with fail
  refine (IsValidNet_any _ n _ lo (HV.out.keep ?_) HS.out).mono ?_
  · (repeat' (first | (with_reducible exact Carries.refl _ _) | (with_reducible assumption) | (with_reducible refine Carries.alloc ?_ _) | (with_reducible refine Carries.drew ?_) | (with_reducible refine Carries.drewN ?_ _) | (with_reducible refine Carries.set ?_ ?_ _) | go_size))
  rintro e w1 ⟨rfl, hb⟩
  have hw1 : Below w.heap.size w w1 := by
    refine Below.trans ?_ (hb.mono ?_)
    · (repeat' (first | (with_reducible exact Below.refl _ _) | (with_reducible assumption) | (with_reducible refine Below.alloc ?_ ?_ _) | (with_reducible refine Below.drew ?_) | (with_reducible refine below_drewN ?_ _) | (with_reducible refine Below.setCell ?_ ?_ _) | go_size))
    · simp
  have a0 : w1.cell? ⟨w.heap.size, 0, none⟩ = some (.int .i64 p) := cell_carry (by simp) (Carries.of 0 hb)
  clear hb
  rw [HG.out]
  cases g with
  | false =>
    go_wp2_with fail
    go_ret
    exact ⟨rfl, hw1⟩
  | true =>
    by_cases he : (s.size : Int) = p
    case neg =>
      have te : ((s.size : Int) != p) = true := by simpa using he
      have hfin : markB n s = false := by unfold markB; rw [← HP.out, decide_eq_false (by exact he)]; simp
      rw [HM.out] at hfin
      subst hfin
      clear he
      go_wp2_with fail
      go_ret
      exact ⟨rfl, hw1⟩
    case pos =>
      have te : ((s.size : Int) != p) = false := by simpa using he
      have hm2 : markB n s = digB s := by unfold markB; rw [← HP.out, decide_eq_true (by exact he)]; simp
      have HM2 := Lib.hid (hm2.symm.trans HM.out); clear hm2 he
      go_wp2_with fail
      go_loop [5] (fun i => ∃ k : Nat, k ≤ s.size ∧ i = .int .i64 k ∧ Hid (DigTo s k)) (fun i => s.size - (intOf i).toNat)
      case atStart => exact ⟨0, Nat.zero_le _, rfl, DigTo.zero _⟩
      case round =>
        obtain ⟨k, hk, rfl, hd⟩ := hrel
        by_cases hlt : k < s.size
        · by_cases h8 : s[k].toNat = 48
          · have H2 := Lib.hid (hd.out.succ hlt (Or.inl h8))
            have t8 : ((s[k].toNat : Int) != 48) = false := by rw [h8]; rfl
            clear h8
            go_wp2_with fail
            go_round
            case rel => exact ⟨k + 1, by omega, by go_num, H2⟩
            case measure => simp [intOf]; omega
          · have t8 : ((s[k].toNat : Int) != 48) = true := by rw [bne_iff_ne]; omega
            by_cases h9 : s[k].toNat = 49
            · have H2 := Lib.hid (hd.out.succ hlt (Or.inr h9))
              have t9 : ((s[k].toNat : Int) != 49) = false := by rw [h9]; rfl
              clear h8 h9
              go_wp2_with fail
              go_round
              case rel => exact ⟨k + 1, by omega, by go_num, H2⟩
              case measure => simp [intOf]; omega
            · have t9 : ((s[k].toNat : Int) != 49) = true := by rw [bne_iff_ne]; omega
              have hfin := HM2.out
              rw [digB_false hlt (by omega)] at hfin
              subst hfin
              clear h8 h9
              go_wp2_with fail
              go_ret
              exact ⟨rfl, hw1⟩
        · have hkk : k = s.size := by omega
          subst hkk
          have hfin := HM2.out
          rw [digB_true hd.out] at hfin
          subst hfin
          go_wp2_with fail
          go_ret
          exact ⟨rfl, hw1⟩

end Go.Proofs.Ytigkgfdnnfmmmaa
