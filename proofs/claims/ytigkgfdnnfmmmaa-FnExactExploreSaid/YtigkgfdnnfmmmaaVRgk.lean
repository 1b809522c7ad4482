/- WALK: heldMoveS of the laws.
   MARKS in a graph that a call answered: what is written is found again. WALKS: markStringS, heldStringS, markReachabilityGraph, heldReachabilityGraph.
   MARKS in a graph that a call answered, both rows: WALKS: markReachabilityGraph, heldReachabilityGraph. -/
import Derived.Test.YtigkgfdnnfmmmaaVMrw
import Derived.Test.YtigkgfdnnfmmmaaVMsig
import Derived.Test.YtigkgfdnnfmmmaaVTxr
import Derived.Deep.RegionHeld3
namespace Go.Proofs.Ytigkgfdnnfmmmaa
open Go.RowKit

set_option maxHeartbeats 1000000 in
theorem heldMoveS_any (v : Value) (n : Nat) (k : Int) (w : World) (lo : Nat) (hv : MovesAt lo w v (upMoves k n)) (hn : n ≤ 1048576) (h0 : 0 ≤ k) (h1 : k ≤ 109951162777600) :
    Calls Try.prog 57 #[v, .int .i64 k] w (RetV w (.int .i64 (k + 3 * (n : Int)))) := by
  obtain ⟨ao, cap, rfl, hc, hz⟩ := hv
  rw [upMoves_length] at hz ⊢
  have HF := Lib.hid hz; clear hz hc
  go_enter Try.func57, Try.ntmps57
  go_wp2_with fail
  go_loopw [1, 5] (fun kv i wr => ∃ j : Nat, j ≤ n ∧ i = .int .i64 j ∧ kv = .int .i64 (k + 3 * (j : Int)) ∧ Below w.heap.size w wr) (fun _ i _ => n - (intOf i).toNat)
  case atStart => exact ⟨0, Nat.zero_le _, rfl, by simp, Below.refl _ _⟩
  case round =>
    obtain ⟨j, hj, rfl, rfl, hb1⟩ := hrel
    by_cases hlt : j < n
    · rcases HF.out with h | ⟨b, off, rfl, hlo, hcell⟩
      · omega
      obtain ⟨q0, q1, q2⟩ := hcell j hlt
      obtain ⟨p0, p1, p2⟩ := upMoves_get (k := k) hlt
      simp only [p0] at q0
      simp only [p1] at q1
      simp only [p2] at q2
      have c0 := Carries.of lo hb1 _ _ hlo q0
      have c1 := Carries.of lo hb1 _ _ hlo q1
      have c2 := Carries.of lo hb1 _ _ hlo q2
      have t0 : (k + 3 * (j : Int) != k + 3 * (j : Int)) = false := by simp
      have t1 : (k + 3 * (j : Int) + 1 != k + 3 * (j : Int) + 1) = false := by simp
      have t2 : (k + 3 * (j : Int) + 1 + 1 != k + 3 * (j : Int) + 1 + 1) = false := by simp
      clear hcell q0 q1 q2 p0 p1 p2
      go_wp2_with fail
      go_roundw
      case rel => exact ⟨j + 1, by omega, by go_num, by simp; omega, by first | exact hb1 | (repeat' (first | (with_reducible exact Below.refl _ _) | (with_reducible assumption) | (with_reducible refine Below.alloc ?_ ?_ _) | (with_reducible refine Below.drew ?_) | (with_reducible refine below_drewN ?_ _) | (with_reducible refine Below.setCell ?_ ?_ _) | go_size))⟩
      case measure => simp [intOf]; omega
    · have hjj : j = n := by omega
      subst hjj
      go_wp2_with fail
      go_ret
      exact ⟨rfl, hb1⟩

end Go.Proofs.Ytigkgfdnnfmmmaa

namespace Go.Proofs.Ytigkgfdnnfmmmaa
open Go.RowKit

def markedTxs (k : Int) (n : Nat) : List ByteArray := (List.range n).map (fun i => mTx (k + ((i : Nat) : Int)))
theorem markedTxs_length (k : Int) (n : Nat) : (markedTxs k n).length = n := by simp [markedTxs]
theorem markedTxs_get {k : Int} {n i : Nat} (h : i < n) : stN (markedTxs k n) i = mTx (k + (i : Int)) := by
  simp [markedTxs, stN, List.getD, h]

theorem cell_putS {w : World} {b i : Nat} {u : Value} (v : Value) (h : w.cell? ⟨b, i, none⟩ = some u) : (w.setCell ⟨b, i, none⟩ v).cell? ⟨b, i, none⟩ = some v := World.cell?_setCell_same _ _ _ h
theorem cell_otherS {w : World} {b i j : Nat} {u : Value} (v : Value) (hne : i ≠ j) (h : w.cell? ⟨b, j, none⟩ = some u) : (w.setCell ⟨b, i, none⟩ v).cell? ⟨b, j, none⟩ = some u :=
  (World.cell?_setCell_other _ _ _ _ (by intro e; injection e with e1 e2; exact hne e2)).trans h

set_option maxHeartbeats 1000000 in
theorem markStringS_val (v : Value) (n : Nat) (k : Int) (w : World) (lo hi : Nat) (hv : CellBox lo hi w v n 1) (hn : n ≤ 1048576) (h0 : 1 ≤ k) (h1 : k ≤ 109951162777600) :
    Calls Try.prog 33 #[v, .int .i64 k] w (fun e w' => e = .returned (.int .i64 (k + (n : Int))) ∧ Stir lo hi w w' ∧
      (∀ b off c, v = .slice (some ⟨b, off, none⟩) n c → ∀ i, i < n → w'.cell? ⟨b, off + i, none⟩ = some (.string (mTx (k + (i : Int)))))) := by
  obtain ⟨ao, cap, rfl⟩ := hv.form
  have HB := Lib.hid hv; clear hv
  go_enter Try.func33, Try.ntmps33
  go_wp2_with fail
  go_loopw [1, 5] (fun kv i wr => ∃ j : Nat, j ≤ n ∧ i = .int .i64 j ∧ kv = .int .i64 (k + (j : Int)) ∧ Stir lo hi w wr ∧ Hid (CellBox lo hi wr (.slice ao n cap) n 1) ∧
    Hid (∀ b off, ao = some ⟨b, off, none⟩ → ∀ q, q < j → wr.cell? ⟨b, off + q, none⟩ = some (.string (mTx (k + (q : Int)))))) (fun _ i _ => n - (intOf i).toNat)
  case atStart => exact ⟨0, Nat.zero_le _, rfl, by simp, Stir.refl _ _ _, HB.out, fun _ _ _ q hq => absurd hq (Nat.not_lt_zero _)⟩
  case round =>
    obtain ⟨j, hj, rfl, rfl, hm, hbox, hex⟩ := hrel
    by_cases hlt : j < n
    · obtain ⟨a, c, e, hz⟩ := id hbox.out
      simp only [Value.slice.injEq, true_and] at e
      obtain ⟨rfl, rfl⟩ := e
      rcases hz with h | ⟨b, off, rfl, hlo, hhi, hcell⟩
      · omega
      obtain ⟨⟨u0, c0⟩, f0⟩ := hcell j (by omega)
      clear hcell
      have hb00 : b < wr.heap.size := cell_old c0
      obtain ⟨s, hs⟩ : ∃ q, q = mTx (k + (j : Int)) := ⟨_, rfl⟩
      have HS := Lib.hid hs
      have HT := Lib.hid (fun (w : World) => markText_val (k + (j : Int)) w (by omega) (by omega))
      rw [← hs] at HT
      clear hs
      go_wp2_with fail
      refine (HT.out _).mono ?_
      rintro e w1 ⟨rfl, hb⟩
      have c0 := cell_carry c0 (Carries.of 0 hb)
      have f0 := (hb.frozen (p := ⟨b, off + j, none⟩) hb00).trans f0
      have HM3 := Lib.hid ((hm.trans (Stir.of lo hi hb)).set (p := ⟨b, off + j, none⟩) hlo hhi (.string s))
      have HB3 := Lib.hid ((hbox.out.after hb).set ⟨b, off + j, none⟩ (.string s))
      have HX3 : Hid (∀ b' off', some (⟨b, off, none⟩ : Addr) = some ⟨b', off', none⟩ → ∀ q, q < j + 1 → (w1.setCell ⟨b, off + j, none⟩ (.string s)).cell? ⟨b', off' + q, none⟩ = some (.string (mTx (k + (q : Int))))) := by
        intro b' off' he q hq
        obtain ⟨rfl, rfl⟩ : b = b' ∧ off = off' := by simpa using he
        by_cases e : q = j
        · subst e
          rw [HS.out]
          exact cell_putS _ c0
        · exact cell_otherS _ (by omega) (cell_carry (hex.out b off rfl q (by omega)) (Carries.of 0 hb))
      clear hm hbox hb hex HT
      go_wp2_with fail
      go_roundw
      case rel => exact ⟨j + 1, by omega, by go_num, by simp; omega, HM3.out, HB3.out, HX3⟩
      case measure => simp [intOf]; omega
    · have hjj : j = n := by omega
      subst hjj
      go_wp2_with fail
      go_ret
      exact ⟨rfl, hm, fun b off c he q hq => hex.out b off (by injection he with h1 h2 h3) q hq⟩

set_option maxRecDepth 100000 in
set_option maxHeartbeats 1000000 in
theorem heldStringS_any (v : Value) (n : Nat) (k : Int) (w : World) (lo : Nat) (hv : TextsAt lo w v (markedTxs k n)) (hn : n ≤ 1048576) (h0 : 1 ≤ k) (h1 : k ≤ 109951162777600) :
    Calls Try.prog 34 #[v, .int .i64 k] w (RetV w (.int .i64 (k + (n : Int)))) := by
  obtain ⟨ao, cap, rfl, hc, hz⟩ := hv
  rw [markedTxs_length] at hz hc ⊢
  have HF := Lib.hid hz; clear hz hc
  go_enter Try.func34, Try.ntmps34
  go_wp2_with fail
  go_loopw [1, 5] (fun kv i wr => ∃ j : Nat, j ≤ n ∧ i = .int .i64 j ∧ kv = .int .i64 (k + (j : Int)) ∧ Below w.heap.size w wr) (fun _ i _ => n - (intOf i).toNat)
  case atStart => exact ⟨0, Nat.zero_le _, rfl, by simp, Below.refl _ _⟩
  case round =>
    obtain ⟨j, hj, rfl, rfl, hb1⟩ := hrel
    have zz1 := hb1.size
    by_cases hlt : j < n
    · rcases HF.out with h | ⟨b, off, rfl, hlo, hcell⟩
      · omega
      have c0 := hcell j hlt
      rw [markedTxs_get hlt] at c0
      have d0 := Carries.of lo hb1 _ _ hlo c0
      clear hcell c0
      have HT := Lib.hid (fun (w : World) => markText_val (k + (j : Int)) w (by omega) (by omega))
      generalize mTx (k + (j : Int)) = tx at d0 HT
      go_wp2_with fail
      go_region_held3 (fun w' => w'.cell? ⟨b, off + j, none⟩ = some (.string tx))
        (first
          | exact d0
          | exact cell_carry (w := wr.drew) d0 (Carries.of 0 hb6))
        ((go_at_call 69; refine (HT.out _).mono ?_; rintro e w6 ⟨rfl, hb6⟩))
      have hb2 : Below wr.heap.size wr w6 := Below.trans (b := wr.drew) (Below.refl _ _).drew (hb6.mono (by first | exact Nat.le_refl _ | simp))
      have hw6 : Below w.heap.size w w6 := hb1.trans (hb2.mono zz1)
      clear hb6 hb2 d0 HT
      go_wp2_with fail
      go_roundw
      case rel => exact ⟨j + 1, by omega, by go_num, by simp; omega, by first | exact hw6 | exact below_drewN hw6 _ | exact hw6.drew⟩
      case measure => simp [intOf]; omega
    · have hjj : j = n := by omega
      subst hjj
      go_wp2_with fail
      go_ret
      exact ⟨rfl, hb1⟩

end Go.Proofs.Ytigkgfdnnfmmmaa

namespace Go.Proofs.Ytigkgfdnnfmmmaa
open Go.RowKit

theorem SRow.box {B : Nat} {w : World} {v : Value} {l : List ByteArray} (h : SRow B w v l) (hB : B ≤ w.heap.size) : ∃ lo hi, B ≤ lo ∧ lo ≤ hi ∧ hi ≤ w.heap.size ∧ CellBox lo hi w v l.length 1 ∧ ((lo = B ∧ hi = B) ∨ (v.ownBlock = some lo ∧ hi = lo + 1)) := by
  have h0 := h
  rcases h.2 with ⟨rfl, hn⟩ | ⟨g, cap, cur, rfl, hb, hg, hnc, _⟩
  · exact ⟨B, B, Nat.le_refl _, Nat.le_refl _, hB, ⟨none, 0, by rw [hn], Or.inl hn⟩, Or.inl ⟨rfl, rfl⟩⟩
  · refine ⟨g, g + 1, hb, Nat.le_succ _, (Array.getElem?_eq_some_iff.1 hg).1, ⟨_, _, rfl, Or.inr ⟨g, 0, rfl, Nat.le_refl _, Nat.lt_succ_self _, fun i hi => ⟨?_, ?_⟩⟩⟩, Or.inr ⟨rfl, rfl⟩⟩
    · rw [Nat.zero_add, h0.cellAt i (by omega)]
      exact ⟨_, txCells_get (by omega)⟩
    · exact h0.frozenAt _
theorem MRow.box1 {B : Nat} {w : World} {v : Value} {ms : List Mv} (h : MRow B w v ms) (hB : B ≤ w.heap.size) : ∃ lo hi, B ≤ lo ∧ lo ≤ hi ∧ hi ≤ w.heap.size ∧ CellBox lo hi w v ms.length 3 ∧ ((lo = B ∧ hi = B) ∨ (v.ownBlock = some lo ∧ hi = lo + 1)) := by
  have h0 := h
  rcases h.2 with ⟨rfl, hn⟩ | ⟨g, cap, cur, rfl, hb, hg, hnc, _⟩
  · exact ⟨B, B, Nat.le_refl _, Nat.le_refl _, hB, ⟨none, 0, by rw [hn], Or.inl hn⟩, Or.inl ⟨rfl, rfl⟩⟩
  · refine ⟨g, g + 1, hb, Nat.le_succ _, (Array.getElem?_eq_some_iff.1 hg).1, ⟨_, _, rfl, Or.inr ⟨g, 0, rfl, Nat.le_refl _, Nat.lt_succ_self _, fun i hi => ⟨?_, ?_⟩⟩⟩, Or.inr ⟨rfl, rfl⟩⟩
    · rw [Nat.zero_add, h0.cellAt i hi]
      exact ⟨_, List.getElem?_eq_getElem (by rw [mvCells_length]; exact hi)⟩
    · exact h0.frozenAt _
theorem SRow.stir {B l k : Nat} {w w' : World} {v : Value} {ms : List ByteArray} (h : SRow B w v ms) (hs : Stir l k w w') (hk : k ≤ B) : SRow B w' v ms := by
  refine ⟨h.1, ?_⟩
  rcases h.2 with hn | ⟨g, cap, cur, rfl, hb, hg, rest⟩
  · exact Or.inl hn
  · exact Or.inr ⟨g, cap, cur, rfl, hb, (hs.block g (Array.getElem?_eq_some_iff.1 hg).1 (Or.inr (by omega))).trans hg, rest⟩
theorem texts_marked {B : Nat} {w w' : World} {v : Value} {l : List ByteArray} {k : Int} (h : SRow B w v l) (hc : ∀ b off c, v = .slice (some ⟨b, off, none⟩) l.length c → ∀ i, i < l.length → w'.cell? ⟨b, off + i, none⟩ = some (.string (mTx (k + (i : Int))))) : TextsAt B w' v (markedTxs k l.length) := by
  rcases h.2 with ⟨rfl, hn⟩ | ⟨g, cap, cur, rfl, hb, hg, hnc, _⟩
  · exact ⟨none, 0, by rw [markedTxs_length, hn], by rw [markedTxs_length]; omega, Or.inl (by rw [markedTxs_length]; exact hn)⟩
  · refine ⟨_, _, by rw [markedTxs_length], by rw [markedTxs_length]; exact hnc, Or.inr ⟨g, 0, rfl, hb, fun i hi => ?_⟩⟩
    rw [markedTxs_length] at hi
    rw [markedTxs_get hi]
    exact hc g 0 cap rfl i hi
theorem moves_marked {B : Nat} {w w' : World} {v : Value} {l : List Mv} {k : Int} (h : MRow B w v l) (hc : ∀ b off c, v = .slice (some ⟨b, off, none⟩) l.length c → ∀ i, i < l.length → w'.cell? ⟨b, off + i * 3, none⟩ = some (.int .i64 (k + 3 * (i : Int))) ∧ w'.cell? ⟨b, off + i * 3 + 1, none⟩ = some (.int .i64 (k + 3 * (i : Int) + 1)) ∧ w'.cell? ⟨b, off + i * 3 + 2, none⟩ = some (.int .i64 (k + 3 * (i : Int) + 1 + 1))) : MovesAt B w' v (upMoves k l.length) := by
  rcases h.2 with ⟨rfl, hn⟩ | ⟨g, cap, cur, rfl, hb, hg, hnc, _⟩
  · exact ⟨none, 0, by rw [upMoves_length, hn], by rw [upMoves_length]; omega, Or.inl (by rw [upMoves_length]; exact hn)⟩
  · refine ⟨_, _, by rw [upMoves_length], by rw [upMoves_length]; exact hnc, Or.inr ⟨g, 0, rfl, hb, fun i hi => ?_⟩⟩
    rw [upMoves_length] at hi
    obtain ⟨p0, p1, p2⟩ := upMoves_get (k := k) hi
    simp only [p0, p1, p2]
    exact hc g 0 cap rfl i hi
theorem texts_stir {lo l k : Nat} {w w' : World} {v : Value} {ss : List ByteArray} (h : TextsAt lo w v ss) (hs : Stir l k w w') (hv : ∀ b, v.ownBlock = some b → b < l ∨ k ≤ b) : TextsAt lo w' v ss := by
  obtain ⟨ao, cap, rfl, hc, hz⟩ := h
  refine ⟨ao, cap, rfl, hc, ?_⟩
  rcases hz with hz | ⟨b, off, rfl, hlo, hcell⟩
  · exact Or.inl hz
  · exact Or.inr ⟨b, off, rfl, hlo, fun i hi => hs.cell (hv b rfl) (hcell i hi)⟩

set_option maxRecDepth 100000 in
set_option maxHeartbeats 1000000 in
theorem markRg_val (v0 v1 : Value) (ss : List ByteArray) (ls : List Mv) (w : World) (B : Nat) (h0 : SRow B w v0 ss) (h1 : MRow B w v1 ls) (hi : Nat) (hBi : B ≤ hi) (hB' : hi ≤ w.heap.size) (hw0 : ∀ b, v0.ownBlock = some b → b < hi) (hw1 : ∀ b, v1.ownBlock = some b → b < hi) (hs0 : ss.length ≤ 1048576) (hs1 : ls.length ≤ 1048576) :
    Calls Try.prog 17 #[.agg #[v0, v1], .int .i64 1] w (fun e w' => e = .returned (.int .i64 (1 + (ss.length : Int) + 3 * (ls.length : Int))) ∧ Stir B hi w w' ∧
      TextsAt B w' v0 (markedTxs 1 ss.length) ∧ MovesAt B w' v1 (upMoves (1 + (ss.length : Int)) ls.length)) := by
  have hB := Nat.le_trans hBi hB'
  have hap := rows_apartT h0 h1 (by decide)
  obtain ⟨l1, u1, g1, g2, g3, hb1, hx1⟩ := h0.box hB
  obtain ⟨l2, u2, k1, k2, k3, hb2, hx2⟩ := h1.box1 hB
  have g3' : u1 ≤ hi := by
    rcases hx1 with ⟨_, rfl⟩ | ⟨e1, rfl⟩
    · exact hBi
    · exact hw0 _ e1
  have k3' : u2 ≤ hi := by
    rcases hx2 with ⟨_, rfl⟩ | ⟨e2, rfl⟩
    · exact hBi
    · exact hw1 _ e2
  clear hw0 hw1
  have hdis : u1 ≤ l2 ∨ u2 ≤ l1 := by
    rcases hx1 with ⟨rfl, rfl⟩ | ⟨e1, rfl⟩
    · exact Or.inl k1
    · rcases hx2 with ⟨rfl, rfl⟩ | ⟨e2, rfl⟩
      · exact Or.inr g1
      · rcases hap with e | e
        · rw [e1] at e; cases e
        · rw [e1, e2] at e
          have : l1 ≠ l2 := fun q => e (by rw [q])
          omega
  have hown : ∀ b, v0.ownBlock = some b → ls.length = 0 ∨ b < l2 ∨ u2 ≤ b := by
    intro b hb
    rcases hx2 with ⟨rfl, rfl⟩ | ⟨e2, rfl⟩
    · right; omega
    · right
      rcases hap with e | e
      · rw [hb] at e; cases e
      · rw [hb, e2] at e
        have : b ≠ l2 := fun q => e (by rw [q])
        omega
  have hown2 : ∀ b, v0.ownBlock = some b → b < l2 ∨ u2 ≤ b := by
    intro b hb
    rcases hx2 with ⟨rfl, rfl⟩ | ⟨e2, rfl⟩
    · omega
    · rcases hap with e | e
      · rw [hb] at e; cases e
      · rw [hb, e2] at e
        have : b ≠ l2 := fun q => e (by rw [q])
        omega
  have HM := Lib.hid (fun (w' : World) => texts_marked (w' := w') (k := 1) h0)
  have HN := Lib.hid (fun (w' : World) => moves_marked (w' := w') (k := 1 + (ss.length : Int)) h1)
  have HO2 := Lib.hid hown2
  obtain ⟨a0, c0, rfl⟩ := h0.form
  obtain ⟨a1, c1, rfl⟩ : ∃ a c, v1 = .slice a ls.length c := h1.form
  have HB1 := Lib.hid hb1; have HB2 := Lib.hid hb2
  clear h0 h1 hap hx1 hx2 hown hown2 hb1 hb2
  obtain ⟨n, hn⟩ : ∃ q, q = ss.length := ⟨_, rfl⟩
  obtain ⟨m, hm⟩ : ∃ q, q = ls.length := ⟨_, rfl⟩
  rw [← hn] at HM HN HB1 HO2 hs0 ⊢
  rw [← hm] at HN HB2 hs1 ⊢
  clear hn hm
  go_enter Try.func17, Try.ntmps17
  have hal : Below w.heap.size w (w.alloc (.cells #[.slice a0 n c0, .slice a1 m c1] 33)) := (Below.refl _ _).alloc (Nat.le_refl _) _
  go_wp2_with fail
  have x1 : (w.alloc (.cells #[.slice a0 n c0, .slice a1 m c1] 33)).cell? ⟨w.heap.size, 1, none⟩ = some (.slice a1 m c1) := by simp
  generalize w.alloc (.cells #[.slice a0 n c0, .slice a1 m c1] 33) = W at hal x1 ⊢
  refine (markStringS_val _ n 1 W l1 u1 (HB1.out.after hal) hs0 (by omega) (by omega)).mono ?_
  rintro e w1 ⟨rfl, hst, hct⟩
  have x1 := hst.cell (Or.inr (by simp; omega)) x1
  have HB3 := Lib.hid ((HB2.out.after hal).stir hst (by omega))
  have HT1 := Lib.hid (HM.out w1 hct)
  have HST := Lib.hid ((Stir.of B hi hal).trans (hst.wide g1 g3'))
  clear hal hst HB1 HB2 hct HM
  go_wp2_with fail
  refine (markMoveS_any _ m (1 + (n : Int)) w1 l2 u2 HB3.out hs1 (by omega) (by omega)).mono ?_
  rintro e w2 ⟨rfl, hst, _, hct⟩
  have HST2 := Lib.hid (HST.out.trans (hst.wide k1 k3'))
  have HT2 := Lib.hid (texts_stir HT1.out hst HO2.out)
  have HN2 := Lib.hid (HN.out w2 hct)
  clear hst HST x1 hct HN HT1
  go_wp2_with fail
  go_ret
  exact ⟨rfl, HST2.out, HT2.out, HN2.out⟩

set_option maxRecDepth 100000 in
set_option maxHeartbeats 1000000 in
theorem heldRg_any (v0 v1 : Value) (n m : Nat) (w : World) (lo : Nat) (h0 : TextsAt lo w v0 (markedTxs 1 n)) (h1 : MovesAt lo w v1 (upMoves (1 + (n : Int)) m)) (hs0 : n ≤ 1048576) (hs1 : m ≤ 1048576) :
    Calls Try.prog 18 #[.agg #[v0, v1], .int .i64 1] w (RetV w (.int .i64 (1 + (n : Int) + 3 * (m : Int)))) := by
  obtain ⟨a0, c0, rfl⟩ := h0.form
  obtain ⟨a1, c1, rfl⟩ : ∃ a c, v1 = .slice a (upMoves (1 + (n : Int)) m).length c := by
    obtain ⟨a, c, h, _⟩ := h1
    exact ⟨a, c, h⟩
  rw [markedTxs_length] at h0 ⊢
  rw [upMoves_length] at h1 ⊢
  have HV := Lib.hid h0; have HW := Lib.hid h1
  clear h0 h1
  go_enter Try.func18, Try.ntmps18
  have HA : Below w.heap.size w (w.alloc (.cells #[.slice a0 n c0, .slice a1 m c1] 33)) := (Below.refl _ _).alloc (Nat.le_refl _) _
  have HV1 := Lib.hid (HV.out.keep (Carries.of lo HA))
  have HW1 := Lib.hid (TripsAt.keep HW.out (Carries.of lo HA))
  go_wp2_with fail
  have x1 : (w.alloc (.cells #[.slice a0 n c0, .slice a1 m c1] 33)).cell? ⟨w.heap.size, 1, none⟩ = some (.slice a1 m c1) := by simp
  generalize w.alloc (.cells #[.slice a0 n c0, .slice a1 m c1] 33) = W at HA HV1 HW1 x1 ⊢
  refine (heldStringS_any _ n 1 W lo HV1.out hs0 (by omega) (by omega)).mono ?_
  rintro e w1 ⟨rfl, hb⟩
  have x1 := cell_carry x1 (Carries.of 0 hb)
  have hw1 : Below w.heap.size w w1 := HA.trans (hb.mono HA.size)
  have HW2 := Lib.hid (TripsAt.keep HW1.out (Carries.of lo hb))
  clear hb
  have hq : decide ((1 : Int) + (n : Int) < 0) = false := by rw [decide_eq_false_iff_not]; omega
  go_wp2_with fail
  refine (heldMoveS_any _ m (1 + (n : Int)) w1 lo HW2.out hs1 (by omega) (by omega)).mono ?_
  rintro e w2 ⟨rfl, hb⟩
  have hw2 : Below w.heap.size w w2 := hw1.trans (hb.mono hw1.size)
  clear hb
  have hq2 : decide ((1 : Int) + (n : Int) + 3 * (m : Int) < 0) = false := by rw [decide_eq_false_iff_not]; omega
  go_wp2_with fail
  go_ret
  exact ⟨rfl, hw2⟩

/-! a graph's rows from block lo on, before hi -/
structure RgIn (lo hi : Nat) (w : World) (v0 v1 : Value) (r : RgD) : Prop where
  m : SRow lo w v0 r.marks
  v : MRow lo w v1 r.moves
  hm : ∀ b, v0.ownBlock = some b → b < hi
  hv : ∀ b, v1.ownBlock = some b → b < hi
theorem RgIn.at {lo hi : Nat} {w : World} {v0 v1 : Value} {r : RgD} (h : RgIn lo hi w v0 v1 r) : RgAt lo w (.agg #[v0, v1]) r := ⟨_, _, rfl, h.m.at, MRow.at h.v⟩
theorem RgIn.after {lo hi : Nat} {w w' : World} {v0 v1 : Value} {r : RgD} (h : RgIn lo hi w v0 v1 r) (hb : Below w.heap.size w w') : RgIn lo hi w' v0 v1 r := ⟨owns_after h.m hb, owns_after h.v hb, h.hm, h.hv⟩
theorem rows_stir {B l k : Nat} {e : TypeId} {sz n : Nat} {xs : List Value} {w w' : World} {v : Value} (h : w.ownsRow B e sz v n xs) (hs : Stir l k w w') (hk : ∀ b, v.ownBlock = some b → b < l ∨ k ≤ b) : w'.ownsRow B e sz v n xs := by
  refine ⟨h.1, ?_⟩
  rcases h.2 with hn | ⟨g, cap, cur, rfl, hb, hg, rest⟩
  · exact Or.inl hn
  · exact Or.inr ⟨g, cap, cur, rfl, hb, (hs.block g (Array.getElem?_eq_some_iff.1 hg).1 (hk g rfl)).trans hg, rest⟩
theorem RgIn.stir {lo hi l k : Nat} {w w' : World} {v0 v1 : Value} {r : RgD} (h : RgIn lo hi w v0 v1 r) (hs : Stir l k w w') (hd : hi ≤ l ∨ k ≤ lo) : RgIn lo hi w' v0 v1 r := by
  have hm2 : ∀ b, v0.ownBlock = some b → b < l ∨ k ≤ b := fun b hb => by
    have := h.hm b hb
    rcases h.m.2 with ⟨rfl, _⟩ | ⟨g, cap, cur, rfl, hg, _⟩
    · cases hb
    · simp only [Value.ownBlock, Option.some.injEq] at hb; omega
  have hv2 : ∀ b, v1.ownBlock = some b → b < l ∨ k ≤ b := fun b hb => by
    have := h.hv b hb
    rcases h.v.2 with ⟨rfl, _⟩ | ⟨g, cap, cur, rfl, hg, _⟩
    · cases hb
    · simp only [Value.ownBlock, Option.some.injEq] at hb; omega
  exact ⟨rows_stir h.m hs hm2, rows_stir h.v hs hv2, h.hm, h.hv⟩
theorem RgIn.of {lo : Nat} {w : World} {v0 v1 : Value} {r : RgD} (h0 : SRow lo w v0 r.marks) (h1 : MRow lo w v1 r.moves) : RgIn lo w.heap.size w v0 v1 r := by
  refine ⟨h0, h1, fun b hb => ?_, fun b hb => ?_⟩
  · rcases h0.2 with ⟨rfl, _⟩ | ⟨g, cap, cur, rfl, _, hg, _⟩
    · cases hb
    · simp only [Value.ownBlock, Option.some.injEq] at hb
      subst hb
      exact (Array.getElem?_eq_some_iff.1 hg).1
  · rcases h1.2 with ⟨rfl, _⟩ | ⟨g, cap, cur, rfl, _, hg, _⟩
    · cases hb
    · simp only [Value.ownBlock, Option.some.injEq] at hb
      subst hb
      exact (Array.getElem?_eq_some_iff.1 hg).1

end Go.Proofs.Ytigkgfdnnfmmmaa
