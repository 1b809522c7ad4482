/- WALK: labelText of the program; the word of a label. -/
import Derived.Test.YtnmoocgocnjdjaaVPair
import Derived.Test.YtnmoocgocnjdjaaVDumy
namespace Go.Proofs.Ytnmoocgocnjdjaa
open Go.RowKit

/-- the word of a label -/
def wordL (ss : List Sig) (a : Int) (u : Bool) : ByteArray := if a < 0 then ⟨#[126]⟩ else sgN ss a.toNat ++ (if u = true then ⟨#[43]⟩ else ⟨#[45]⟩)
def LabIn (n : Nat) (a : Int) (u : Bool) : Prop := (0 ≤ a ∧ a < n) ∨ (a = -1 ∧ u = false)
theorem wordL_none {ss : List Sig} {a : Int} {u : Bool} (h : a < 0) : wordL ss a u = ⟨#[126]⟩ := by unfold wordL; rw [if_pos h]
theorem wordL_up {ss : List Sig} {k : Nat} : wordL ss (k : Int) true = sgN ss k ++ ⟨#[43]⟩ := by unfold wordL; rw [if_neg (by omega)]; rfl
theorem wordL_down {ss : List Sig} {k : Nat} : wordL ss (k : Int) false = sgN ss k ++ ⟨#[45]⟩ := by unfold wordL; rw [if_neg (by omega)]; rfl
theorem wordL_size {ss : List Sig} {a : Int} {u : Bool} (h : SmallSigs ss) (hin : LabIn ss.length a u) : (wordL ss a u).size ≤ 1048577 := by
  rcases hin with ⟨h0, h1⟩ | ⟨rfl, rfl⟩
  · obtain ⟨k, rfl⟩ : ∃ k : Nat, a = (k : Int) := ⟨a.toNat, by omega⟩
    have hk := h.2 k (by omega)
    cases u
    · rw [wordL_down, ByteArray.size_append]; show _ + 1 ≤ _; omega
    · rw [wordL_up, ByteArray.size_append]; show _ + 1 ≤ _; omega
  · rw [wordL_none (by omega)]; show (1 : Nat) ≤ _; omega

set_option maxRecDepth 100000 in
set_option maxHeartbeats 1000000 in
theorem labelText_any (p : Int) (a0 a2 : Option Addr) (m c0 nl c2 : Nat) (vs : Value) (ss : List Sig) (a : Int) (u : Bool) (w : World) (lo : Nat) (hv : SigsAt lo w vs ss) (hs : SmallSigs ss) (hin : LabIn ss.length a u) :
    Calls Try.prog 100 #[.agg #[.int .i64 p, .slice a0 m c0, vs, .slice a2 nl c2], .agg #[.int .i64 a, .bool u]] w (RetV w (.string (wordL ss a u))) := by
  obtain ⟨ao, cap, rfl, hc, hz⟩ := hv
  obtain ⟨R, hR⟩ : ∃ x, x = wordL ss a u := ⟨_, rfl⟩
  rw [← hR]
  have HR := Lib.hid hR; clear hR
  have HF := Lib.hid hz; clear hz
  have HS := Lib.hid hs.2
  have hsl := hs.1
  clear hs
  go_enter Try.func100, Try.ntmps100
  go_wp2_with fail
  refine (isDummy_any _ _ _).mono ?_
  rintro e w1 ⟨rfl, hb⟩
  have hw1 : Below w.heap.size w w1 := by
    refine Below.trans ?_ (hb.mono ?_)
    · (repeat' (first | (with_reducible exact Below.refl _ _) | (with_reducible assumption) | (with_reducible refine Below.alloc ?_ ?_ _) | (with_reducible refine Below.drew ?_) | (with_reducible refine below_drewN ?_ _) | (with_reducible refine Below.setCell ?_ ?_ _) | go_size))
    · simp; omega
  have x1 : w1.cell? ⟨w.heap.size, 2, none⟩ = some (.slice ao ss.length cap) := cell_carry (by simp) (Carries.of 0 hb)
  have y0 : w1.cell? ⟨w.heap.size + 1, 0, none⟩ = some (.int .i64 a) := cell_carry (by simp) (Carries.of 0 hb)
  have y1 : w1.cell? ⟨w.heap.size + 1, 1, none⟩ = some (.bool u) := cell_carry (by simp) (Carries.of 0 hb)
  clear hb
  rcases hin with ⟨h0, h1⟩ | ⟨rfl, rfl⟩
  · obtain ⟨k, rfl⟩ : ∃ k : Nat, a = (k : Int) := ⟨a.toNat, by omega⟩
    have hk : k < ss.length := by omega
    rcases HF.out with h | ⟨b, off, rfl, hlo, hcell⟩
    · omega
    have d0 := Carries.of lo hw1 _ _ hlo (hcell k hk).1
    try dsimp only at d0
    have hsz := HS.out k hk
    clear hcell
    have hd : (decide ((k : Int) = -1) && !u) = false := by rw [decide_eq_false (by omega)]; rfl
    rw [hd]; clear hd
    have e := HR.out
    cases u with
    | true =>
      rw [wordL_up] at e
      generalize sgN ss k = nm at d0 hsz e
      subst e
      go_wp2_with fail
      go_ret
      exact ⟨rfl, hw1⟩
    | false =>
      rw [wordL_down] at e
      generalize sgN ss k = nm at d0 hsz e
      subst e
      go_wp2_with fail
      go_ret
      exact ⟨rfl, hw1⟩
  · have e := HR.out
    rw [wordL_none (by omega)] at e
    subst e
    have hd : (decide ((-1 : Int) = -1) && !false) = true := rfl
    rw [hd]; clear hd
    go_wp2_with fail
    go_ret
    exact ⟨rfl, hw1⟩


end Go.Proofs.Ytnmoocgocnjdjaa
