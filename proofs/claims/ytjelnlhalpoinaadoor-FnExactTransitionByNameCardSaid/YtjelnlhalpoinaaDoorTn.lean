/-
  WALKS: the words of labels, the names of transitions: labelText, transitionName of the program, l2Word, l2Text of the model.
-/
import Derived.Test.YtjelnlhalpoinaaDoorNumb
import Derived.Test.YtjelnlhalpoinaaDoorLabw
import Derived.Test.YtjelnlhalpoinaaDoorStgt
import Derived.Test.YtjelnlhalpoinaaDoorTrn
import Derived.StillTailTactics
namespace Go.Proofs.YtjelnlhalpoinaaDoor
open Go.RowKit

/-- the word of a label -/
def wordL (ss : List Sig) (a : Int) (u : Bool) : ByteArray := if a < 0 then ⟨#[126]⟩ else sgN ss a.toNat ++ (if u = true then ⟨#[43]⟩ else ⟨#[45]⟩)
def LabIn (n : Nat) (a : Int) (u : Bool) : Prop := (0 ≤ a ∧ a < n) ∨ (a = -1 ∧ u = false)
theorem wordL_none {ss : List Sig} {a : Int} {u : Bool} (h : a < 0) : wordL ss a u = ⟨#[126]⟩ := by unfold wordL; rw [if_pos h]
theorem wordL_up {ss : List Sig} {k : Nat} : wordL ss (k : Int) true = sgN ss k ++ ⟨#[43]⟩ := by unfold wordL; rw [if_neg (by omega)]; rfl
theorem wordL_down {ss : List Sig} {k : Nat} : wordL ss (k : Int) false = sgN ss k ++ ⟨#[45]⟩ := by unfold wordL; rw [if_neg (by omega)]; rfl
theorem wordL_size {ss : List Sig} {a : Int} {u : Bool} (h : SmallSigs ss) (hin : LabIn ss.length a u) : (wordL ss a u).size ≤ 1048577 := by
  rcases hin with ⟨h0, h1⟩ | ⟨rfl, rfl⟩
  · obtain ⟨k, rfl⟩ : ∃ k : Nat, a = (k : Int) := ⟨a.toNat, by omega⟩
    have hk := h.2 k (by omega)
    cases u
    · rw [wordL_down, ByteArray.size_append]; show _ + 1 ≤ _; omega
    · rw [wordL_up, ByteArray.size_append]; show _ + 1 ≤ _; omega
  · rw [wordL_none (by omega)]; show (1 : Nat) ≤ _; omega

set_option maxRecDepth 100000 in
set_option maxHeartbeats 1000000 in
theorem labelText_any (p : Int) (a0 a2 : Option Addr) (m c0 nl c2 : Nat) (vs : Value) (ss : List Sig) (a : Int) (u : Bool) (w : World) (lo : Nat) (hv : SigsAt lo w vs ss) (hs : SmallSigs ss) (hin : LabIn ss.length a u) :
    Calls Tryd.prog 62 #[.agg #[.int .i64 p, .slice a0 m c0, vs, .slice a2 nl c2], .agg #[.int .i64 a, .bool u]] w (RetV w (.string (wordL ss a u))) := by
  obtain ⟨ao, cap, rfl, hc, hz⟩ := hv
  obtain ⟨R, hR⟩ : ∃ x, x = wordL ss a u := ⟨_, rfl⟩
  rw [← hR]
  have HR := Lib.hid hR; clear hR
  have HF := Lib.hid hz; clear hz
  have HS := Lib.hid hs.2
  have hsl := hs.1
  clear hs
  go_enter Tryd.func62, Tryd.ntmps62
  go_wp2_with fail
  refine (isDummy_any _ _ _).mono ?_
  rintro e w1 ⟨rfl, hb⟩
  have hw1 : Below w.heap.size w w1 := by
    refine Below.trans ?_ (hb.mono ?_)
    · (repeat' (first | (with_reducible exact Below.refl _ _) | (with_reducible assumption) | (with_reducible refine Below.alloc ?_ ?_ _) | (with_reducible refine Below.drew ?_) | (with_reducible refine below_drewN ?_ _) | (with_reducible refine Below.setCell ?_ ?_ _) | go_size))
    · simp; omega
  have x1 : w1.cell? ⟨w.heap.size, 2, none⟩ = some (.slice ao ss.length cap) := cell_carry (by simp) (Carries.of 0 hb)
  have y0 : w1.cell? ⟨w.heap.size + 1, 0, none⟩ = some (.int .i64 a) := cell_carry (by simp) (Carries.of 0 hb)
  have y1 : w1.cell? ⟨w.heap.size + 1, 1, none⟩ = some (.bool u) := cell_carry (by simp) (Carries.of 0 hb)
  clear hb
  rcases hin with ⟨h0, h1⟩ | ⟨rfl, rfl⟩
  · obtain ⟨k, rfl⟩ : ∃ k : Nat, a = (k : Int) := ⟨a.toNat, by omega⟩
    have hk : k < ss.length := by omega
    rcases HF.out with h | ⟨b, off, rfl, hlo, hcell⟩
    · omega
    have d0 := Carries.of lo hw1 _ _ hlo (hcell k hk).1
    try dsimp only at d0
    have hsz := HS.out k hk
    clear hcell
    have hd : (decide ((k : Int) = -1) && !u) = false := by rw [decide_eq_false (by omega)]; rfl
    rw [hd]; clear hd
    have e := HR.out
    cases u with
    | true =>
      rw [wordL_up] at e
      generalize sgN ss k = nm at d0 hsz e
      subst e
      go_wp2_with fail
      go_ret
      exact ⟨rfl, hw1⟩
    | false =>
      rw [wordL_down] at e
      generalize sgN ss k = nm at d0 hsz e
      subst e
      go_wp2_with fail
      go_ret
      exact ⟨rfl, hw1⟩
  · have e := HR.out
    rw [wordL_none (by omega)] at e
    subst e
    have hd : (decide ((-1 : Int) = -1) && !false) = true := rfl
    rw [hd]; clear hd
    go_wp2_with fail
    go_ret
    exact ⟨rfl, hw1⟩

set_option maxRecDepth 100000 in
set_option maxHeartbeats 1000000 in
theorem l2Word_any (p : Int) (a0 a2 : Option Addr) (m c0 nl c2 : Nat) (st : ByteArray) (vs : Value) (ss : List Sig) (a : Int) (u : Bool) (w : World) (lo : Nat) (hv : SigsAt lo w vs ss) (hs : SmallSigs ss) (hin : LabIn ss.length a u) :
    Calls Tryd.prog 77 #[.agg #[.int .i64 p, .slice a0 m c0, vs, .slice a2 nl c2, .string st], .agg #[.int .i64 a, .bool u]] w (RetV w (.string (wordL ss a u))) := by
  obtain ⟨ao, cap, rfl, hc, hz⟩ := hv
  obtain ⟨R, hR⟩ : ∃ x, x = wordL ss a u := ⟨_, rfl⟩
  rw [← hR]
  have HR := Lib.hid hR; clear hR
  have HF := Lib.hid hz; clear hz
  have HS := Lib.hid hs.2
  have hsl := hs.1
  clear hs
  rcases hin with ⟨h0, h1⟩ | ⟨rfl, rfl⟩
  · obtain ⟨k, rfl⟩ : ∃ k : Nat, a = (k : Int) := ⟨a.toNat, by omega⟩
    have hk : k < ss.length := by omega
    rcases HF.out with h | ⟨b, off, rfl, hlo, hcell⟩
    · omega
    have d0 := (hcell k hk).1
    have zb : b < w.heap.size := by have := cell_old d0; simpa using this
    try dsimp only at d0
    have hsz := HS.out k hk
    clear hcell
    have e := HR.out
    cases u with
    | true =>
      rw [wordL_up] at e
      generalize sgN ss k = nm at d0 hsz e
      subst e
      go_enter Tryd.func77, Tryd.ntmps77
      go_wp2_with fail
      go_ret
      exact ⟨rfl, by (repeat' (first | (with_reducible exact Below.refl _ _) | (with_reducible assumption) | (with_reducible refine Below.alloc ?_ ?_ _) | (with_reducible refine Below.drew ?_) | (with_reducible refine below_drewN ?_ _) | (with_reducible refine Below.setCell ?_ ?_ _) | go_size))⟩
    | false =>
      rw [wordL_down] at e
      generalize sgN ss k = nm at d0 hsz e
      subst e
      go_enter Tryd.func77, Tryd.ntmps77
      go_wp2_with fail
      go_ret
      exact ⟨rfl, by (repeat' (first | (with_reducible exact Below.refl _ _) | (with_reducible assumption) | (with_reducible refine Below.alloc ?_ ?_ _) | (with_reducible refine Below.drew ?_) | (with_reducible refine below_drewN ?_ _) | (with_reducible refine Below.setCell ?_ ?_ _) | go_size))⟩
  · have e := HR.out
    rw [wordL_none (by omega)] at e
    subst e
    go_enter Tryd.func77, Tryd.ntmps77
    go_wp2_with fail
    go_ret
    exact ⟨rfl, by (repeat' (first | (with_reducible exact Below.refl _ _) | (with_reducible assumption) | (with_reducible refine Below.alloc ?_ ?_ _) | (with_reducible refine Below.drew ?_) | (with_reducible refine below_drewN ?_ _) | (with_reducible refine Below.setCell ?_ ?_ _) | go_size))⟩

/-! the place of a number among those that pass a test -/
theorem enTo_lt {f : Nat → Bool} {k : Nat} : ∀ x ∈ enTo f k, x < (k : Int) := by
  intro x hx
  unfold enTo at hx
  obtain ⟨i, hi, rfl⟩ := List.mem_map.1 hx
  have := List.mem_range.1 (List.mem_filter.1 hi).1
  show (i : Int) < k
  omega
theorem enTo_split {f : Nat → Bool} {t : Nat} (ht : f t = true) : ∀ n, t < n → ∃ rest, enTo f n = enTo f t ++ (t : Int) :: rest
  | 0, h => absurd h (Nat.not_lt_zero _)
  | n + 1, h => by
    by_cases e : n = t
    · subst e
      exact ⟨[], by rw [enTo_true ht]⟩
    · obtain ⟨rest, hr⟩ := enTo_split ht n (by omega)
      cases hn : f n with
      | true => exact ⟨rest ++ [(n : Int)], by rw [enTo_true hn, hr]; simp⟩
      | false => exact ⟨rest, by rw [enTo_false hn, hr]⟩
theorem enTo_place {f : Nat → Bool} {t n : Nat} (ht : f t = true) (h : t < n) : (enTo f t).length < (enTo f n).length ∧ (enTo f n).getD (enTo f t).length 0 = (t : Int) ∧ ∀ j, j < (enTo f t).length → (enTo f n).getD j 0 ≠ (t : Int) := by
  obtain ⟨rest, hr⟩ := enTo_split ht n h
  rw [hr]
  refine ⟨by simp, by simp [List.getD], fun j hj => ?_⟩
  have hlt := enTo_lt (f := f) (k := t) ((enTo f t)[j]) (List.getElem_mem hj)
  have : (enTo f t ++ (t : Int) :: rest).getD j 0 = (enTo f t)[j] := by simp [List.getD, List.getElem?_append_left hj, List.getElem?_eq_getElem hj]
  rw [this]
  omega

set_option maxHeartbeats 400000 in
theorem Indexi_at (v : Value) (zs : List Int) (x : Int) (r : Nat) (w : World) (lo : Nat) (hv : IntsAt lo w v zs) (hn : zs.length ≤ 4611686018427387904) (hr : r < zs.length) (he : zs.getD r 0 = x) (hne : ∀ j, j < r → zs.getD j 0 ≠ x) :
    Calls Tryd.prog 83 #[v, .int .i64 x] w (RetV w (.int .i64 (r : Int))) := by
  obtain ⟨ao, cap, rfl, hc, hz⟩ := hv
  have HF := Lib.hid hz; clear hz
  have HE := Lib.hid he; clear he
  have HN := Lib.hid hne; clear hne
  go_enter Tryd.func83, Tryd.ntmps83
  go_wp2_with fail
  go_loop [8] (fun i => ∃ k : Nat, k ≤ r ∧ i = .int .i64 k) (fun i => r - (intOf i).toNat)
  case atStart => exact ⟨0, Nat.zero_le _, rfl⟩
  case round =>
    obtain ⟨k, hk, rfl⟩ := hrel
    have hlt : k < zs.length := by omega
    rcases HF.out with rfl | ⟨b, off, rfl, hlo, hcell⟩
    · simp at hlt
    have c1 := hcell k hlt
    obtain ⟨y, hy⟩ : ∃ y, y = zs.getD k 0 := ⟨_, rfl⟩
    rw [← hy] at c1
    have HY := Lib.hid hy; clear hy hcell
    by_cases e : k = r
    · subst e
      have te : (x == y) = true := by rw [beq_iff_eq, HY.out]; exact HE.out.symm
      go_wp2_with fail
      go_ret
      exact ⟨rfl, Below.refl _ _⟩
    · have te : (x == y) = false := by rw [beq_eq_false_iff_ne, HY.out]; exact fun h => HN.out k (by omega) h.symm
      go_wp2_with fail
      go_round
      case rel => exact ⟨k + 1, by omega, by go_num⟩
      case measure => simp [intOf]; omega

/-- how many share the label of t; how many of these stand before t; the name -/
def manyL (ls : List Lab) (t : Nat) : Nat := (labL ls (lbS ls t) (lbU ls t)).length
def rankL (ls : List Lab) (t : Nat) : Nat := (enTo (labIs ls (lbS ls t) (lbU ls t)) t).length
def nameL (ss : List Sig) (ls : List Lab) (t : Nat) : ByteArray := if manyL ls t = 1 then wordL ss (lbS ls t) (lbU ls t) else wordL ss (lbS ls t) (lbU ls t) ++ ⟨#[47]⟩ ++ num2 (rankL ls t + 1)
theorem labIs_self (ls : List Lab) (t : Nat) : labIs ls (lbS ls t) (lbU ls t) t = true := by simp [labIs]
theorem rank_place {ls : List Lab} {t : Nat} (h : t < ls.length) : rankL ls t < manyL ls t ∧ (labL ls (lbS ls t) (lbU ls t)).getD (rankL ls t) 0 = (t : Int) ∧ ∀ j, j < rankL ls t → (labL ls (lbS ls t) (lbU ls t)).getD j 0 ≠ (t : Int) :=
  enTo_place (labIs_self ls t) h
theorem many_le (ls : List Lab) (t : Nat) : manyL ls t ≤ ls.length := enTo_length _ _
theorem nameL_one {ss : List Sig} {ls : List Lab} {t : Nat} (h : manyL ls t = 1) : nameL ss ls t = wordL ss (lbS ls t) (lbU ls t) := by unfold nameL; rw [if_pos h]
theorem nameL_more {ss : List Sig} {ls : List Lab} {t : Nat} (h : ¬ manyL ls t = 1) : nameL ss ls t = wordL ss (lbS ls t) (lbU ls t) ++ ⟨#[47]⟩ ++ num2 (rankL ls t + 1) := by unfold nameL; rw [if_neg h]
theorem nameL_more' {ss : List Sig} {ls : List Lab} {t : Nat} (h : ¬ manyL ls t = 1) : nameL ss ls t = wordL ss (lbS ls t) (lbU ls t) ++ (⟨#[47]⟩ ++ num2 (rankL ls t + 1)) := by rw [nameL_more h, ByteArray.append_assoc]

end Go.Proofs.YtjelnlhalpoinaaDoor
