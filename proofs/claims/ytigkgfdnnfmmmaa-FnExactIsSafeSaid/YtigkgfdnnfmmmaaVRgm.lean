/- WALKS: what may be written in a reachability graph: markStringS, markMoveS, heldMoveS, toReachabilityGraph once more, markReachabilityGraph. Boxes of cells that may be written. -/
import Derived.Test.YtigkgfdnnfmmmaaVTrp
namespace Go.Proofs.Ytigkgfdnnfmmmaa
open Go.RowKit

/-- (k, k + 1, k + 2), (k + 3, ..), .. -/
def upMoves (k : Int) (n : Nat) : List Mv := (List.range n).map fun (i : Nat) => (k + 3 * (i : Int), k + 3 * (i : Int) + 1, k + 3 * (i : Int) + 1 + 1)
theorem upMoves_length (k : Int) (n : Nat) : (upMoves k n).length = n := by simp [upMoves]
theorem upMoves_get {k : Int} {n i : Nat} (h : i < n) : mvF (upMoves k n) i = k + 3 * (i : Int) ∧ mvB (upMoves k n) i = k + 3 * (i : Int) + 1 ∧ mvT (upMoves k n) i = k + 3 * (i : Int) + 1 + 1 := by
  simp [mvF, mvB, mvT, upMoves, List.getD, h]

set_option maxHeartbeats 2000000 in
theorem markMoveS_any (v : Value) (n : Nat) (k : Int) (w : World) (lo hi : Nat) (hv : CellBox lo hi w v n 3) (hn : n ≤ 1048576) (h0 : 0 ≤ k) (h1 : k ≤ 109951162777600) :
    Calls Try.prog 56 #[v, .int .i64 k] w (fun e w' => e = .returned (.int .i64 (k + 3 * (n : Int))) ∧ Stir lo hi w w' ∧ w'.heap.size = w.heap.size ∧
      (∀ b off c, v = .slice (some ⟨b, off, none⟩) n c → ∀ i, i < n → w'.cell? ⟨b, off + i * 3, none⟩ = some (.int .i64 (k + 3 * (i : Int))) ∧ w'.cell? ⟨b, off + i * 3 + 1, none⟩ = some (.int .i64 (k + 3 * (i : Int) + 1)) ∧ w'.cell? ⟨b, off + i * 3 + 2, none⟩ = some (.int .i64 (k + 3 * (i : Int) + 1 + 1)))) := by
  obtain ⟨ao, cap, rfl⟩ := hv.form
  have HB := Lib.hid hv; clear hv
  go_enter Try.func56, Try.ntmps56
  go_wp2_with fail
  go_loopw [1, 5] (fun kv i wr => ∃ j : Nat, j ≤ n ∧ i = .int .i64 j ∧ kv = .int .i64 (k + 3 * (j : Int)) ∧ Stir lo hi w wr ∧ Hid (CellBox lo hi wr (.slice ao n cap) n 3) ∧ wr.heap.size = w.heap.size ∧
    Hid (∀ b off, ao = some ⟨b, off, none⟩ → ∀ q, q < j → wr.cell? ⟨b, off + q * 3, none⟩ = some (.int .i64 (k + 3 * (q : Int))) ∧ wr.cell? ⟨b, off + q * 3 + 1, none⟩ = some (.int .i64 (k + 3 * (q : Int) + 1)) ∧ wr.cell? ⟨b, off + q * 3 + 2, none⟩ = some (.int .i64 (k + 3 * (q : Int) + 1 + 1)))) (fun _ i _ => n - (intOf i).toNat)
  case atStart => exact ⟨0, Nat.zero_le _, rfl, by simp, Stir.refl _ _ _, HB.out, rfl, fun _ _ _ q hq => absurd hq (Nat.not_lt_zero _)⟩
  case round =>
    obtain ⟨j, hj, rfl, rfl, hm, hbox, hsz, hex⟩ := hrel
    have HSZ := Lib.hid hsz; clear hsz
    by_cases hlt : j < n
    · obtain ⟨a, c, e, hz⟩ := id hbox.out
      simp only [Value.slice.injEq, true_and] at e
      obtain ⟨rfl, rfl⟩ := e
      rcases hz with h | ⟨b, off, rfl, hlo, hhi, hcell⟩
      · omega
      obtain ⟨⟨u0, c0⟩, f0⟩ := hcell (j * 3) (by omega)
      obtain ⟨⟨u1, c1⟩, f1⟩ := hcell (j * 3 + 1) (by omega)
      obtain ⟨⟨u2, c2⟩, f2⟩ := hcell (j * 3 + 2) (by omega)
      rw [← Nat.add_assoc] at c1 f1 c2 f2
      clear hcell
      have HM3 := Lib.hid (((hm.set (p := ⟨b, off + j * 3, none⟩) hlo hhi (.int .i64 (k + 3 * (j : Int)))).set (p := ⟨b, off + j * 3 + 1, none⟩) hlo hhi (.int .i64 (k + 3 * (j : Int) + 1))).set (p := ⟨b, off + j * 3 + 2, none⟩) hlo hhi (.int .i64 (k + 3 * (j : Int) + 1 + 1)))
      have HB3 := Lib.hid (((hbox.out.set ⟨b, off + j * 3, none⟩ (.int .i64 (k + 3 * (j : Int)))).set ⟨b, off + j * 3 + 1, none⟩ (.int .i64 (k + 3 * (j : Int) + 1))).set ⟨b, off + j * 3 + 2, none⟩ (.int .i64 (k + 3 * (j : Int) + 1 + 1)))
      have HPUT := Lib.hid (trip_put (.int .i64 (k + 3 * (j : Int))) (.int .i64 (k + 3 * (j : Int) + 1)) (.int .i64 (k + 3 * (j : Int) + 1 + 1)) c0 c1 c2)
      have HX3 : Hid (∀ b' off', some (⟨b, off, none⟩ : Addr) = some ⟨b', off', none⟩ → ∀ q, q < j + 1 → (((wr.setCell ⟨b, off + j * 3, none⟩ (.int .i64 (k + 3 * (j : Int)))).setCell ⟨b, off + j * 3 + 1, none⟩ (.int .i64 (k + 3 * (j : Int) + 1))).setCell ⟨b, off + j * 3 + 2, none⟩ (.int .i64 (k + 3 * (j : Int) + 1 + 1))).cell? ⟨b', off' + q * 3, none⟩ = some (.int .i64 (k + 3 * (q : Int))) ∧
          (((wr.setCell ⟨b, off + j * 3, none⟩ (.int .i64 (k + 3 * (j : Int)))).setCell ⟨b, off + j * 3 + 1, none⟩ (.int .i64 (k + 3 * (j : Int) + 1))).setCell ⟨b, off + j * 3 + 2, none⟩ (.int .i64 (k + 3 * (j : Int) + 1 + 1))).cell? ⟨b', off' + q * 3 + 1, none⟩ = some (.int .i64 (k + 3 * (q : Int) + 1)) ∧
          (((wr.setCell ⟨b, off + j * 3, none⟩ (.int .i64 (k + 3 * (j : Int)))).setCell ⟨b, off + j * 3 + 1, none⟩ (.int .i64 (k + 3 * (j : Int) + 1))).setCell ⟨b, off + j * 3 + 2, none⟩ (.int .i64 (k + 3 * (j : Int) + 1 + 1))).cell? ⟨b', off' + q * 3 + 2, none⟩ = some (.int .i64 (k + 3 * (q : Int) + 1 + 1))) := by
        intro b' off' he q hq
        obtain ⟨rfl, rfl⟩ : b = b' ∧ off = off' := by simpa using he
        obtain ⟨p0, p1, p2, pf⟩ := HPUT.out
        by_cases e : q = j
        · subst e
          exact ⟨p0, p1, p2⟩
        · obtain ⟨g0, g1, g2⟩ := hex.out b off rfl q (by omega)
          exact ⟨pf _ _ (by omega) (by omega) (by omega) g0, pf _ _ (by omega) (by omega) (by omega) g1, pf _ _ (by omega) (by omega) (by omega) g2⟩
      clear hm hbox hex HPUT
      go_wp2_with fail
      go_roundw
      case rel => exact ⟨j + 1, by omega, by go_num, by simp; omega, HM3.out, HB3.out, by simpa using HSZ.out, HX3.out⟩
      case measure => simp [intOf]; omega
    · have hjj : j = n := by omega
      subst hjj
      go_wp2_with fail
      go_ret
      exact ⟨rfl, hm, HSZ.out, fun b off c he q hq => hex.out b off (by injection he with h1 h2 h3) q hq⟩

/-- an answer of toReachabilityGraph: what it reads as; its parts lie one behind the other, and may be written -/
def RgOw (B : Nat) (w : World) (v : Value) (r : RgD) : Prop :=
  ∃ (m : Nat) (vs vm : Value), v = .agg #[vs, vm] ∧ B ≤ m ∧ m ≤ w.heap.size ∧ CellBox B m w vs r.marks.length 1 ∧ CellBox m w.heap.size w vm r.moves.length 3 ∧ RgAt B w v r
theorem RgOw.at {B : Nat} {w : World} {v : Value} {r : RgD} (h : RgOw B w v r) : RgAt B w v r := by
  obtain ⟨_, _, _, _, _, _, _, _, h⟩ := h
  exact h

set_option maxRecDepth 100000 in
set_option maxHeartbeats 1000000 in
theorem markRg_at (v : Value) (r : RgD) (k : Int) (w0 w : World) (B : Nat) (hv : RgOw B w0 v r) (hsm : Same B w0 w) (hs : SmallRg r) (hk0 : 0 ≤ k) (hk1 : k ≤ 2200000000000) :
    Calls Try.prog 17 #[v, .int .i64 k] w (fun e w' => ∃ T : Int, e = .returned (.int .i64 T) ∧ 0 ≤ T ∧ Stir B w0.heap.size w w') := by
  obtain ⟨m, vs, vm, rfl, hBm, hmw, hb1, hb2, hat⟩ := hv
  obtain ⟨ss, ls⟩ := r
  obtain ⟨k1, k2⟩ := hs
  simp only at hb1 hb2 hat k1 k2 ⊢
  obtain ⟨a0, c0, rfl⟩ := hb1.form
  obtain ⟨a1, c1, rfl⟩ := hb2.form
  have z0 := hsm.1
  have HB1 := Lib.hid (hb1.same hsm (Nat.le_refl _)); clear hb1
  have HB2 := Lib.hid (hb2.same hsm hBm); clear hb2 hat hsm
  have K1 := k1.1; clear k1
  go_enter Try.func17, Try.ntmps17
  have hal : Below w.heap.size w (w.alloc (.cells #[.slice a0 ss.length c0, .slice a1 ls.length c1] 33)) := (Below.refl _ _).alloc (Nat.le_refl _) _
  go_wp2_with fail
  have x1 : (w.alloc (.cells #[.slice a0 ss.length c0, .slice a1 ls.length c1] 33)).cell? ⟨w.heap.size, 1, none⟩ = some (.slice a1 ls.length c1) := by simp
  generalize w.alloc (.cells #[.slice a0 ss.length c0, .slice a1 ls.length c1] 33) = W at hal x1 ⊢
  refine (markStringS_any _ ss.length k W B m (HB1.out.after hal) K1 (by omega) (by omega)).mono ?_
  rintro e w1 ⟨rfl, hst⟩
  have x1 := hst.cell (Or.inr (by simp; omega)) x1
  have HB3 := Lib.hid ((HB2.out.after hal).stir hst (Or.inr (Nat.le_refl _)))
  have HST := Lib.hid ((Stir.of B w0.heap.size hal).trans (hst.wide (Nat.le_refl _) hmw))
  clear hal hst HB1 HB2
  go_wp2_with fail
  refine (markMoveS_any _ ls.length (k + (ss.length : Int)) w1 m w0.heap.size HB3.out k2 (by omega) (by omega)).mono ?_
  rintro e w2 ⟨rfl, hst, _, _⟩
  have HST2 := Lib.hid (HST.out.trans (hst.wide hBm (Nat.le_refl _)))
  clear hst HST x1
  go_wp2_with fail
  go_ret
  exact ⟨k + (ss.length : Int) + 3 * (ls.length : Int), rfl, by omega, HST2.out⟩

set_option maxRecDepth 100000 in
set_option maxHeartbeats 1000000 in
theorem markRg_any (v : Value) (r : RgD) (w0 w : World) (B : Nat) (hv : RgOw B w0 v r) (hsm : Same B w0 w) (hs : SmallRg r) :
    Calls Try.prog 17 #[v, .int .i64 1] w (fun e w' => ∃ T : Nat, e = .returned (.int .i64 (T : Int)) ∧ 0 ≤ (T : Int) ∧ Stir B w0.heap.size w w') := by
  obtain ⟨m, vs, vm, rfl, hBm, hmw, hb1, hb2, hat⟩ := hv
  obtain ⟨ss, ls⟩ := r
  obtain ⟨k1, k2⟩ := hs
  simp only at hb1 hb2 hat k1 k2 ⊢
  obtain ⟨a0, c0, rfl⟩ := hb1.form
  obtain ⟨a1, c1, rfl⟩ := hb2.form
  have z0 := hsm.1
  have HB1 := Lib.hid (hb1.same hsm (Nat.le_refl _)); clear hb1
  have HB2 := Lib.hid (hb2.same hsm hBm); clear hb2 hat hsm
  have K1 := k1.1; clear k1
  go_enter Try.func17, Try.ntmps17
  have hal : Below w.heap.size w (w.alloc (.cells #[.slice a0 ss.length c0, .slice a1 ls.length c1] 33)) := (Below.refl _ _).alloc (Nat.le_refl _) _
  go_wp2_with fail
  have x1 : (w.alloc (.cells #[.slice a0 ss.length c0, .slice a1 ls.length c1] 33)).cell? ⟨w.heap.size, 1, none⟩ = some (.slice a1 ls.length c1) := by simp
  generalize w.alloc (.cells #[.slice a0 ss.length c0, .slice a1 ls.length c1] 33) = W at hal x1 ⊢
  refine (markStringS_any _ ss.length 1 W B m (HB1.out.after hal) K1 (by omega) (by omega)).mono ?_
  rintro e w1 ⟨rfl, hst⟩
  have x1 := hst.cell (Or.inr (by simp; omega)) x1
  have HB3 := Lib.hid ((HB2.out.after hal).stir hst (Or.inr (Nat.le_refl _)))
  have HST := Lib.hid ((Stir.of B w0.heap.size hal).trans (hst.wide (Nat.le_refl _) hmw))
  clear hal hst HB1 HB2
  go_wp2_with fail
  refine (markMoveS_any _ ls.length (1 + (ss.length : Int)) w1 m w0.heap.size HB3.out k2 (by omega) (by omega)).mono ?_
  rintro e w2 ⟨rfl, hst, _, _⟩
  have HST2 := Lib.hid (HST.out.trans (hst.wide hBm (Nat.le_refl _)))
  clear hst HST x1
  go_wp2_with fail
  go_ret
  exact ⟨1 + ss.length + 3 * ls.length, by push_cast; rfl, by omega, HST2.out⟩

end Go.Proofs.Ytigkgfdnnfmmmaa
