/- WALK: heldMoveS of the laws.
   MARKS in a graph that a call answered: what is written is found again. WALKS: markStringS, heldStringS, markReachabilityGraph, heldReachabilityGraph. -/
import Derived.Test.YtigkgfdnnfmmmaaVMrw
import Derived.Test.YtigkgfdnnfmmmaaVMsig
import Derived.Test.YtigkgfdnnfmmmaaVStgv
import Derived.Deep.RegionHeld3
namespace Go.Proofs.Ytigkgfdnnfmmmaa
open Go.RowKit

set_option maxHeartbeats 1000000 in
theorem heldMoveS_any (v : Value) (n : Nat) (k : Int) (w : World) (lo : Nat) (hv : MovesAt lo w v (upMoves k n)) (hn : n ≤ 1048576) (h0 : 0 ≤ k) (h1 : k ≤ 109951162777600) :
    Calls Try.prog 57 #[v, .int .i64 k] w (RetV w (.int .i64 (k + 3 * (n : Int)))) := by
  obtain ⟨ao, cap, rfl, hc, hz⟩ := hv
  rw [upMoves_length] at hz ⊢
  have HF := Lib.hid hz; clear hz hc
  go_enter Try.func57, Try.ntmps57
  go_wp2_with fail
  go_loopw [1, 5] (fun kv i wr => ∃ j : Nat, j ≤ n ∧ i = .int .i64 j ∧ kv = .int .i64 (k + 3 * (j : Int)) ∧ Below w.heap.size w wr) (fun _ i _ => n - (intOf i).toNat)
  case atStart => exact ⟨0, Nat.zero_le _, rfl, by simp, Below.refl _ _⟩
  case round =>
    obtain ⟨j, hj, rfl, rfl, hb1⟩ := hrel
    by_cases hlt : j < n
    · rcases HF.out with h | ⟨b, off, rfl, hlo, hcell⟩
      · omega
      obtain ⟨q0, q1, q2⟩ := hcell j hlt
      obtain ⟨p0, p1, p2⟩ := upMoves_get (k := k) hlt
      simp only [p0] at q0
      simp only [p1] at q1
      simp only [p2] at q2
      have c0 := Carries.of lo hb1 _ _ hlo q0
      have c1 := Carries.of lo hb1 _ _ hlo q1
      have c2 := Carries.of lo hb1 _ _ hlo q2
      have t0 : (k + 3 * (j : Int) != k + 3 * (j : Int)) = false := by simp
      have t1 : (k + 3 * (j : Int) + 1 != k + 3 * (j : Int) + 1) = false := by simp
      have t2 : (k + 3 * (j : Int) + 1 + 1 != k + 3 * (j : Int) + 1 + 1) = false := by simp
      clear hcell q0 q1 q2 p0 p1 p2
      go_wp2_with fail
      go_roundw
      case rel => exact ⟨j + 1, by omega, by go_num, by simp; omega, by first | exact hb1 | (repeat' (first | (with_reducible exact Below.refl _ _) | (with_reducible assumption) | (with_reducible refine Below.alloc ?_ ?_ _) | (with_reducible refine Below.drew ?_) | (with_reducible refine below_drewN ?_ _) | (with_reducible refine Below.setCell ?_ ?_ _) | go_size))⟩
      case measure => simp [intOf]; omega
    · have hjj : j = n := by omega
      subst hjj
      go_wp2_with fail
      go_ret
      exact ⟨rfl, hb1⟩

end Go.Proofs.Ytigkgfdnnfmmmaa

namespace Go.Proofs.Ytigkgfdnnfmmmaa
open Go.RowKit

def markedTxs (k : Int) (n : Nat) : List ByteArray := (List.range n).map (fun i => mTx (k + ((i : Nat) : Int)))
theorem markedTxs_length (k : Int) (n : Nat) : (markedTxs k n).length = n := by simp [markedTxs]
theorem markedTxs_get {k : Int} {n i : Nat} (h : i < n) : stN (markedTxs k n) i = mTx (k + (i : Int)) := by
  simp [markedTxs, stN, List.getD, h]

theorem cell_putS {w : World} {b i : Nat} {u : Value} (v : Value) (h : w.cell? ⟨b, i, none⟩ = some u) : (w.setCell ⟨b, i, none⟩ v).cell? ⟨b, i, none⟩ = some v := World.cell?_setCell_same _ _ _ h
theorem cell_otherS {w : World} {b i j : Nat} {u : Value} (v : Value) (hne : i ≠ j) (h : w.cell? ⟨b, j, none⟩ = some u) : (w.setCell ⟨b, i, none⟩ v).cell? ⟨b, j, none⟩ = some u :=
  (World.cell?_setCell_other _ _ _ _ (by intro e; injection e with e1 e2; exact hne e2)).trans h

set_option maxHeartbeats 1000000 in
theorem markStringS_val (v : Value) (n : Nat) (k : Int) (w : World) (lo hi : Nat) (hv : CellBox lo hi w v n 1) (hn : n ≤ 1048576) (h0 : 1 ≤ k) (h1 : k ≤ 109951162777600) :
    Calls Try.prog 33 #[v, .int .i64 k] w (fun e w' => e = .returned (.int .i64 (k + (n : Int))) ∧ Stir lo hi w w' ∧
      (∀ b off c, v = .slice (some ⟨b, off, none⟩) n c → ∀ i, i < n → w'.cell? ⟨b, off + i, none⟩ = some (.string (mTx (k + (i : Int)))))) := by
  obtain ⟨ao, cap, rfl⟩ := hv.form
  have HB := Lib.hid hv; clear hv
  go_enter Try.func33, Try.ntmps33
  go_wp2_with fail
  go_loopw [1, 5] (fun kv i wr => ∃ j : Nat, j ≤ n ∧ i = .int .i64 j ∧ kv = .int .i64 (k + (j : Int)) ∧ Stir lo hi w wr ∧ Hid (CellBox lo hi wr (.slice ao n cap) n 1) ∧
    Hid (∀ b off, ao = some ⟨b, off, none⟩ → ∀ q, q < j → wr.cell? ⟨b, off + q, none⟩ = some (.string (mTx (k + (q : Int)))))) (fun _ i _ => n - (intOf i).toNat)
  case atStart => exact ⟨0, Nat.zero_le _, rfl, by simp, Stir.refl _ _ _, HB.out, fun _ _ _ q hq => absurd hq (Nat.not_lt_zero _)⟩
  case round =>
    obtain ⟨j, hj, rfl, rfl, hm, hbox, hex⟩ := hrel
    by_cases hlt : j < n
    · obtain ⟨a, c, e, hz⟩ := id hbox.out
      simp only [Value.slice.injEq, true_and] at e
      obtain ⟨rfl, rfl⟩ := e
      rcases hz with h | ⟨b, off, rfl, hlo, hhi, hcell⟩
      · omega
      obtain ⟨⟨u0, c0⟩, f0⟩ := hcell j (by omega)
      clear hcell
      have hb00 : b < wr.heap.size := cell_old c0
      obtain ⟨s, hs⟩ : ∃ q, q = mTx (k + (j : Int)) := ⟨_, rfl⟩
      have HS := Lib.hid hs
      have HT := Lib.hid (fun (w : World) => markText_val (k + (j : Int)) w (by omega) (by omega))
      rw [← hs] at HT
      clear hs
      go_wp2_with fail
      refine (HT.out _).mono ?_
      rintro e w1 ⟨rfl, hb⟩
      have c0 := cell_carry c0 (Carries.of 0 hb)
      have f0 := (hb.frozen (p := ⟨b, off + j, none⟩) hb00).trans f0
      have HM3 := Lib.hid ((hm.trans (Stir.of lo hi hb)).set (p := ⟨b, off + j, none⟩) hlo hhi (.string s))
      have HB3 := Lib.hid ((hbox.out.after hb).set ⟨b, off + j, none⟩ (.string s))
      have HX3 : Hid (∀ b' off', some (⟨b, off, none⟩ : Addr) = some ⟨b', off', none⟩ → ∀ q, q < j + 1 → (w1.setCell ⟨b, off + j, none⟩ (.string s)).cell? ⟨b', off' + q, none⟩ = some (.string (mTx (k + (q : Int))))) := by
        intro b' off' he q hq
        obtain ⟨rfl, rfl⟩ : b = b' ∧ off = off' := by simpa using he
        by_cases e : q = j
        · subst e
          rw [HS.out]
          exact cell_putS _ c0
        · exact cell_otherS _ (by omega) (cell_carry (hex.out b off rfl q (by omega)) (Carries.of 0 hb))
      clear hm hbox hb hex HT
      go_wp2_with fail
      go_roundw
      case rel => exact ⟨j + 1, by omega, by go_num, by simp; omega, HM3.out, HB3.out, HX3⟩
      case measure => simp [intOf]; omega
    · have hjj : j = n := by omega
      subst hjj
      go_wp2_with fail
      go_ret
      exact ⟨rfl, hm, fun b off c he q hq => hex.out b off (by injection he with h1 h2 h3) q hq⟩

set_option maxRecDepth 100000 in
set_option maxHeartbeats 1000000 in
theorem heldStringS_any (v : Value) (n : Nat) (k : Int) (w : World) (lo : Nat) (hv : TextsAt lo w v (markedTxs k n)) (hn : n ≤ 1048576) (h0 : 1 ≤ k) (h1 : k ≤ 109951162777600) :
    Calls Try.prog 34 #[v, .int .i64 k] w (RetV w (.int .i64 (k + (n : Int)))) := by
  obtain ⟨ao, cap, rfl, hc, hz⟩ := hv
  rw [markedTxs_length] at hz hc ⊢
  have HF := Lib.hid hz; clear hz hc
  go_enter Try.func34, Try.ntmps34
  go_wp2_with fail
  go_loopw [1, 5] (fun kv i wr => ∃ j : Nat, j ≤ n ∧ i = .int .i64 j ∧ kv = .int .i64 (k + (j : Int)) ∧ Below w.heap.size w wr) (fun _ i _ => n - (intOf i).toNat)
  case atStart => exact ⟨0, Nat.zero_le _, rfl, by simp, Below.refl _ _⟩
  case round =>
    obtain ⟨j, hj, rfl, rfl, hb1⟩ := hrel
    have zz1 := hb1.size
    by_cases hlt : j < n
    · rcases HF.out with h | ⟨b, off, rfl, hlo, hcell⟩
      · omega
      have c0 := hcell j hlt
      rw [markedTxs_get hlt] at c0
      have d0 := Carries.of lo hb1 _ _ hlo c0
      clear hcell c0
      have HT := Lib.hid (fun (w : World) => markText_val (k + (j : Int)) w (by omega) (by omega))
      generalize mTx (k + (j : Int)) = tx at d0 HT
      go_wp2_with fail
      go_region_held3 (fun w' => w'.cell? ⟨b, off + j, none⟩ = some (.string tx))
        (first
          | exact d0
          | exact cell_carry (w := wr.drew) d0 (Carries.of 0 hb6))
        ((go_at_call 69; refine (HT.out _).mono ?_; rintro e w6 ⟨rfl, hb6⟩))
      have hb2 : Below wr.heap.size wr w6 := Below.trans (b := wr.drew) (Below.refl _ _).drew (hb6.mono (by first | exact Nat.le_refl _ | simp))
      have hw6 : Below w.heap.size w w6 := hb1.trans (hb2.mono zz1)
      clear hb6 hb2 d0 HT
      go_wp2_with fail
      go_roundw
      case rel => exact ⟨j + 1, by omega, by go_num, by simp; omega, by first | exact hw6 | exact below_drewN hw6 _ | exact hw6.drew⟩
      case measure => simp [intOf]; omega
    · have hjj : j = n := by omega
      subst hjj
      go_wp2_with fail
      go_ret
      exact ⟨rfl, hb1⟩

end Go.Proofs.Ytigkgfdnnfmmmaa
