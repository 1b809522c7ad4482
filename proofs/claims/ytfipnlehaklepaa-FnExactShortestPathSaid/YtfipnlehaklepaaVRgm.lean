/- WALKS: what may be written in a reachability graph: markStringS, markMoveS, heldMoveS, toReachabilityGraph once more, markReachabilityGraph. Boxes of cells that may be written. -/
import Derived.Test.YtfipnlehaklepaaVTrp
namespace Go.Proofs.Ytfipnlehaklepaa
open Go.RowKit

/-- (k, k + 1, k + 2), (k + 3, ..), .. -/
def upMoves (k : Int) (n : Nat) : List Mv := (List.range n).map fun (i : Nat) => (k + 3 * (i : Int), k + 3 * (i : Int) + 1, k + 3 * (i : Int) + 1 + 1)
theorem upMoves_length (k : Int) (n : Nat) : (upMoves k n).length = n := by simp [upMoves]
theorem upMoves_get {k : Int} {n i : Nat} (h : i < n) : mvF (upMoves k n) i = k + 3 * (i : Int) ∧ mvB (upMoves k n) i = k + 3 * (i : Int) + 1 ∧ mvT (upMoves k n) i = k + 3 * (i : Int) + 1 + 1 := by
  simp [mvF, mvB, mvT, upMoves, List.getD, h]

set_option maxHeartbeats 2000000 in
theorem markMoveS_any (v : Value) (n : Nat) (k : Int) (w : World) (lo hi : Nat) (hv : CellBox lo hi w v n 3) (hn : n ≤ 1048576) (h0 : 0 ≤ k) (h1 : k ≤ 109951162777600) :
    Calls Try.prog 89 #[v, .int .i64 k] w (fun e w' => e = .returned (.int .i64 (k + 3 * (n : Int))) ∧ Stir lo hi w w' ∧ w'.heap.size = w.heap.size ∧
      (∀ b off c, v = .slice (some ⟨b, off, none⟩) n c → ∀ i, i < n → w'.cell? ⟨b, off + i * 3, none⟩ = some (.int .i64 (k + 3 * (i : Int))) ∧ w'.cell? ⟨b, off + i * 3 + 1, none⟩ = some (.int .i64 (k + 3 * (i : Int) + 1)) ∧ w'.cell? ⟨b, off + i * 3 + 2, none⟩ = some (.int .i64 (k + 3 * (i : Int) + 1 + 1)))) := by
  obtain ⟨ao, cap, rfl⟩ := hv.form
  have HB := Lib.hid hv; clear hv
  go_enter Try.func89, Try.ntmps89
  go_wp2_with fail
  go_loopw [1, 5] (fun kv i wr => ∃ j : Nat, j ≤ n ∧ i = .int .i64 j ∧ kv = .int .i64 (k + 3 * (j : Int)) ∧ Stir lo hi w wr ∧ Hid (CellBox lo hi wr (.slice ao n cap) n 3) ∧ wr.heap.size = w.heap.size ∧
    Hid (∀ b off, ao = some ⟨b, off, none⟩ → ∀ q, q < j → wr.cell? ⟨b, off + q * 3, none⟩ = some (.int .i64 (k + 3 * (q : Int))) ∧ wr.cell? ⟨b, off + q * 3 + 1, none⟩ = some (.int .i64 (k + 3 * (q : Int) + 1)) ∧ wr.cell? ⟨b, off + q * 3 + 2, none⟩ = some (.int .i64 (k + 3 * (q : Int) + 1 + 1)))) (fun _ i _ => n - (intOf i).toNat)
  case atStart => exact ⟨0, Nat.zero_le _, rfl, by simp, Stir.refl _ _ _, HB.out, rfl, fun _ _ _ q hq => absurd hq (Nat.not_lt_zero _)⟩
  case round =>
    obtain ⟨j, hj, rfl, rfl, hm, hbox, hsz, hex⟩ := hrel
    have HSZ := Lib.hid hsz; clear hsz
    by_cases hlt : j < n
    · obtain ⟨a, c, e, hz⟩ := id hbox.out
      simp only [Value.slice.injEq, true_and] at e
      obtain ⟨rfl, rfl⟩ := e
      rcases hz with h | ⟨b, off, rfl, hlo, hhi, hcell⟩
      · omega
      obtain ⟨⟨u0, c0⟩, f0⟩ := hcell (j * 3) (by omega)
      obtain ⟨⟨u1, c1⟩, f1⟩ := hcell (j * 3 + 1) (by omega)
      obtain ⟨⟨u2, c2⟩, f2⟩ := hcell (j * 3 + 2) (by omega)
      rw [← Nat.add_assoc] at c1 f1 c2 f2
      clear hcell
      have HM3 := Lib.hid (((hm.set (p := ⟨b, off + j * 3, none⟩) hlo hhi (.int .i64 (k + 3 * (j : Int)))).set (p := ⟨b, off + j * 3 + 1, none⟩) hlo hhi (.int .i64 (k + 3 * (j : Int) + 1))).set (p := ⟨b, off + j * 3 + 2, none⟩) hlo hhi (.int .i64 (k + 3 * (j : Int) + 1 + 1)))
      have HB3 := Lib.hid (((hbox.out.set ⟨b, off + j * 3, none⟩ (.int .i64 (k + 3 * (j : Int)))).set ⟨b, off + j * 3 + 1, none⟩ (.int .i64 (k + 3 * (j : Int) + 1))).set ⟨b, off + j * 3 + 2, none⟩ (.int .i64 (k + 3 * (j : Int) + 1 + 1)))
      have HPUT := Lib.hid (trip_put (.int .i64 (k + 3 * (j : Int))) (.int .i64 (k + 3 * (j : Int) + 1)) (.int .i64 (k + 3 * (j : Int) + 1 + 1)) c0 c1 c2)
      have HX3 : Hid (∀ b' off', some (⟨b, off, none⟩ : Addr) = some ⟨b', off', none⟩ → ∀ q, q < j + 1 → (((wr.setCell ⟨b, off + j * 3, none⟩ (.int .i64 (k + 3 * (j : Int)))).setCell ⟨b, off + j * 3 + 1, none⟩ (.int .i64 (k + 3 * (j : Int) + 1))).setCell ⟨b, off + j * 3 + 2, none⟩ (.int .i64 (k + 3 * (j : Int) + 1 + 1))).cell? ⟨b', off' + q * 3, none⟩ = some (.int .i64 (k + 3 * (q : Int))) ∧
          (((wr.setCell ⟨b, off + j * 3, none⟩ (.int .i64 (k + 3 * (j : Int)))).setCell ⟨b, off + j * 3 + 1, none⟩ (.int .i64 (k + 3 * (j : Int) + 1))).setCell ⟨b, off + j * 3 + 2, none⟩ (.int .i64 (k + 3 * (j : Int) + 1 + 1))).cell? ⟨b', off' + q * 3 + 1, none⟩ = some (.int .i64 (k + 3 * (q : Int) + 1)) ∧
          (((wr.setCell ⟨b, off + j * 3, none⟩ (.int .i64 (k + 3 * (j : Int)))).setCell ⟨b, off + j * 3 + 1, none⟩ (.int .i64 (k + 3 * (j : Int) + 1))).setCell ⟨b, off + j * 3 + 2, none⟩ (.int .i64 (k + 3 * (j : Int) + 1 + 1))).cell? ⟨b', off' + q * 3 + 2, none⟩ = some (.int .i64 (k + 3 * (q : Int) + 1 + 1))) := by
        intro b' off' he q hq
        obtain ⟨rfl, rfl⟩ : b = b' ∧ off = off' := by simpa using he
        obtain ⟨p0, p1, p2, pf⟩ := HPUT.out
        by_cases e : q = j
        · subst e
          exact ⟨p0, p1, p2⟩
        · obtain ⟨g0, g1, g2⟩ := hex.out b off rfl q (by omega)
          exact ⟨pf _ _ (by omega) (by omega) (by omega) g0, pf _ _ (by omega) (by omega) (by omega) g1, pf _ _ (by omega) (by omega) (by omega) g2⟩
      clear hm hbox hex HPUT
      go_wp2_with fail
      go_roundw
      case rel => exact ⟨j + 1, by omega, by go_num, by simp; omega, HM3.out, HB3.out, by simpa using HSZ.out, HX3.out⟩
      case measure => simp [intOf]; omega
    · have hjj : j = n := by omega
      subst hjj
      go_wp2_with fail
      go_ret
      exact ⟨rfl, hm, HSZ.out, fun b off c he q hq => hex.out b off (by injection he with h1 h2 h3) q hq⟩

set_option maxHeartbeats 400000 in
theorem toMoveS_row (v : Value) (ss : List Mv) (w : World) (lo : Nat) (hv : MovesAt lo w v ss) (hn : ss.length ≤ 1048576) :
    Calls Try.prog 84 #[v] w (fun e w' => ∃ b, e = .returned (.slice (some ⟨b, 0, none⟩) ss.length ss.length) ∧ w.heap.size ≤ b ∧ b < w'.heap.size ∧ TripRow b 112 w' ss.length ss.length (fun i => .int .i64 (mvF ss i)) (fun i => .int .i64 (mvB ss i)) (fun i => .int .i64 (mvT ss i)) ∧ Below w.heap.size w w') := by
  obtain ⟨ao, cap, rfl, hc, hz⟩ := hv
  have hmk := run_make_moves ss.length hn
  have HF := Lib.hid hz; clear hz
  go_enter Try.func84, Try.ntmps84
  go_wp2
  go_loopw [4] (fun i wr => ∃ k : Nat, k ≤ ss.length ∧ i = .int .i64 k ∧ TripRow w.heap.size 112 wr ss.length k (fun i => .int .i64 (mvF ss i)) (fun i => .int .i64 (mvB ss i)) (fun i => .int .i64 (mvT ss i)) ∧ Below w.heap.size w wr ∧ w.heap.size < wr.heap.size) (fun i _ => ss.length - (intOf i).toNat)
  case atStart =>
    obtain ⟨f, hf⟩ := rowIs_size (w := w) (t := 112) (size_madeCells #[.int .i64 0, .int .i64 0, .int .i64 0] (ss.length * 3))
    exact ⟨0, Nat.zero_le _, rfl, ⟨f, hf, fun i hi => absurd hi (Nat.not_lt_zero _)⟩, (Below.refl _ _).alloc (Nat.le_refl _) _, by simp⟩
  case round =>
    obtain ⟨k, hk, rfl, hrow, hb1, hz1⟩ := hrel
    by_cases hlt : k < ss.length
    · rcases HF.out with h0 | ⟨b, off, rfl, hlo, hcell⟩
      · omega
      obtain ⟨c0, c1, c2⟩ := hcell k hlt
      have d0 := Carries.of lo hb1 _ _ hlo c0
      have d1 := Carries.of lo hb1 _ _ hlo c1
      have d2 := Carries.of lo hb1 _ _ hlo c2
      have HR := Lib.hid hrow
      clear hcell c0 c1 c2 hrow
      go_wp2_with fail
      refine (toMove_any _ _ _ _).mono ?_
      rintro e w1 ⟨rfl, hb2⟩
      have hrow1 := HR.out.keep (hb2.block _ hz1)
      obtain ⟨y0, y1, y2, e0, e1, e2, f0, f1, f2⟩ := hrow1.cells hlt
      have HR1 := Lib.hid hrow1
      have hz2 : w.heap.size < w1.heap.size := by have := hb2.size; omega
      have hw1 : Below w.heap.size w w1 := hb1.trans (hb2.mono (by omega))
      clear hrow1
      go_wp2_with fail
      go_roundw
      case rel => exact ⟨k + 1, by omega, by go_num, HR1.out.put hlt rfl rfl rfl, by (repeat' (first | (with_reducible exact Below.refl _ _) | (with_reducible assumption) | (with_reducible refine Below.alloc ?_ ?_ _) | (with_reducible refine Below.drew ?_) | (with_reducible refine below_drewN ?_ _) | (with_reducible refine Below.setCell ?_ ?_ _) | go_size)), by simpa using hz2⟩
      case measure => simp [intOf]; omega
    · have hkk : k = ss.length := by omega
      subst hkk
      have HR := Lib.hid hrow; clear hrow
      go_wp2
      go_ret
      exact ⟨_, rfl, Nat.le_refl _, hz1, HR.out, hb1⟩

/-- an answer of toReachabilityGraph: what it reads as; its parts lie one behind the other, and may be written -/
def RgOw (B : Nat) (w : World) (v : Value) (r : RgD) : Prop :=
  ∃ (m : Nat) (vs vm : Value), v = .agg #[vs, vm] ∧ B ≤ m ∧ m ≤ w.heap.size ∧ CellBox B m w vs r.marks.length 1 ∧ CellBox m w.heap.size w vm r.moves.length 3 ∧ RgAt B w v r
theorem RgOw.at {B : Nat} {w : World} {v : Value} {r : RgD} (h : RgOw B w v r) : RgAt B w v r := by
  obtain ⟨_, _, _, _, _, _, _, _, h⟩ := h
  exact h

set_option maxHeartbeats 2000000 in
theorem toRg_ow (v : Value) (r : RgD) (w : World) (lo : Nat) (hv : RgAt lo w v r) (hs : SmallRg r) :
    Calls Try.prog 36 #[v] w (fun e w' => ∃ u, e = .returned u ∧ RgOw w.heap.size w' u r ∧ Below w.heap.size w w') := by
  obtain ⟨a0, c0, a1, c1, rfl, hm, hl⟩ := hv.form
  clear hv
  obtain ⟨ss, ls⟩ := r
  obtain ⟨k1, k2⟩ := hs
  simp only at hm hl k1 k2 ⊢
  have HG := Lib.hid hm; clear hm
  have HL := Lib.hid hl; clear hl
  have K1 := Lib.hid k1; clear k1
  go_enter Try.func36, Try.ntmps36
  go_wp2_with fail
  refine (toStringS_row _ ss _ lo (HG.out.keep ?_) K1.out.1).mono ?_
  · (repeat' (first | (with_reducible exact Carries.refl _ _) | (with_reducible assumption) | (with_reducible refine Carries.alloc ?_ _) | (with_reducible refine Carries.drew ?_) | (with_reducible refine Carries.drewN ?_ _) | (with_reducible refine Carries.set ?_ ?_ _) | go_size))
  rintro e w1 ⟨bs, rfl, hbs0, hbs1, hrow1, hb0⟩
  obtain ⟨hc, hf⟩ := bcell hb0
  have hw1 : Below w.heap.size w w1 := by
    refine Below.trans ?_ (hb0.mono ?_)
    · (repeat' (first | (with_reducible exact Below.refl _ _) | (with_reducible assumption) | (with_reducible refine Below.alloc ?_ ?_ _) | (with_reducible refine Below.drew ?_) | (with_reducible refine below_drewN ?_ _) | (with_reducible refine Below.setCell ?_ ?_ _) | go_size))
    · simp; omega
  have hbs2 : w.heap.size + 3 ≤ bs := by simp at hbs0; omega
  have hz1 : w.heap.size + 1 + 1 < w1.heap.size := by have := hb0.size; simp at this; omega
  have hz1a : w.heap.size + 1 < w1.heap.size := by omega
  have hz1b : w.heap.size < w1.heap.size := by omega
  have J1 := Lib.hid hrow1; clear hrow1
  go_wp2_with fail
  refine (toMoveS_row _ ls _ lo (HL.out.keep (Carries.of lo ?_)) k2).mono ?_
  · (repeat' (first | (with_reducible exact Below.refl _ _) | (with_reducible assumption) | (with_reducible refine Below.alloc ?_ ?_ _) | (with_reducible refine Below.drew ?_) | (with_reducible refine below_drewN ?_ _) | (with_reducible refine Below.setCell ?_ ?_ _) | go_size))
  rintro e w3 ⟨bl, rfl, hbl0, hbl1, hrow2, hb2⟩
  obtain ⟨hc3, hf3⟩ := bcell hb2
  have hw3 : Below w.heap.size w w3 := by
    refine Below.trans ?_ (hb2.mono ?_)
    · (repeat' (first | (with_reducible exact Below.refl _ _) | (with_reducible assumption) | (with_reducible refine Below.alloc ?_ ?_ _) | (with_reducible refine Below.drew ?_) | (with_reducible refine below_drewN ?_ _) | (with_reducible refine Below.setCell ?_ ?_ _) | go_size))
    · simp; omega
  have hbl2 : w1.heap.size ≤ bl := by simpa using hbl0
  have hz3 : w1.heap.size ≤ w3.heap.size := by have := hb2.size; simpa using this
  have hz2a : w.heap.size + 1 + 1 < w3.heap.size := by omega
  have hz2b : w.heap.size + 1 < w3.heap.size := by omega
  have hz2c : w.heap.size < w3.heap.size := by omega
  have S13 := Lib.hid (show Same (w.heap.size + 3) w1 w3 from Same.trans (by (repeat' (first | (with_reducible exact Same.refl _ _) | (with_reducible assumption) | (with_reducible refine Same.alloc ?_ _) | (with_reducible refine Same.drew ?_) | (with_reducible refine Same.drewN ?_ _) | (with_reducible refine Same.set ?_ ?_ _) | go_size))) (Same.of _ hb2))
  have J2 := Lib.hid hrow2; clear hrow2
  go_wp2_with fail
  refine bodyPost_ret (v := .agg #[.slice (some ⟨bs, 0, none⟩) ss.length ss.length, .slice (some ⟨bl, 0, none⟩) ls.length ls.length]) (by simp [results, Try.results36, go_sem, hc, hc3, hz1a, hz2b]) rfl ?_
  have fin : ∀ (X : World), Same (w.heap.size + 3) w3 X → Below w.heap.size w X → ∃ u, Ending.returned (.agg #[.slice (some ⟨bs, 0, none⟩) ss.length ss.length, .slice (some ⟨bl, 0, none⟩) ls.length ls.length]) = .returned u ∧ RgOw w.heap.size X u ⟨ss, ls⟩ ∧ Below w.heap.size w X := by
    intro X hX hB
    have x1 := S13.out.trans hX
    have row1 := World.rowIs.of_block J1.out (x1.2 bs (by omega) hbs1)
    have row2 := J2.out.keep (w' := X) (hX.2 bl (by omega) hbl1)
    have zX := hX.1
    obtain ⟨f2, hf2, _⟩ := id row2
    refine ⟨_, rfl, ⟨w1.heap.size, _, _, rfl, by omega, by omega, (row_box (n := ss.length) (sz := 1) row1 (by omega)).wide (by omega) (by omega), (row_box (n := ls.length) (sz := 3) hf2 rfl).wide (by omega) (by omega), ?_⟩, hB⟩
    exact ⟨_, _, rfl, (texts_of_row row1 (fun i hi => by unfold scopied; rw [if_pos hi])).low (by omega), (TripsAt.low row2.read (by omega) : MovesAt _ _ _ _)⟩
  refine fin _ ?_ ?_
  · (repeat' (first | (with_reducible exact Same.refl _ _) | (with_reducible assumption) | (with_reducible refine Same.alloc ?_ _) | (with_reducible refine Same.drew ?_) | (with_reducible refine Same.drewN ?_ _) | (with_reducible refine Same.set ?_ ?_ _) | go_size))
  · (repeat' (first | (with_reducible exact Below.refl _ _) | (with_reducible assumption) | (with_reducible refine Below.alloc ?_ ?_ _) | (with_reducible refine Below.drew ?_) | (with_reducible refine below_drewN ?_ _) | (with_reducible refine Below.setCell ?_ ?_ _) | go_size))

set_option maxRecDepth 100000 in
set_option maxHeartbeats 1000000 in
theorem markRg_at (v : Value) (r : RgD) (k : Int) (w0 w : World) (B : Nat) (hv : RgOw B w0 v r) (hsm : Same B w0 w) (hs : SmallRg r) (hk0 : 0 ≤ k) (hk1 : k ≤ 2200000000000) :
    Calls Try.prog 39 #[v, .int .i64 k] w (fun e w' => ∃ T : Int, e = .returned (.int .i64 T) ∧ 0 ≤ T ∧ Stir B w0.heap.size w w') := by
  obtain ⟨m, vs, vm, rfl, hBm, hmw, hb1, hb2, hat⟩ := hv
  obtain ⟨ss, ls⟩ := r
  obtain ⟨k1, k2⟩ := hs
  simp only at hb1 hb2 hat k1 k2 ⊢
  obtain ⟨a0, c0, rfl⟩ := hb1.form
  obtain ⟨a1, c1, rfl⟩ := hb2.form
  have z0 := hsm.1
  have HB1 := Lib.hid (hb1.same hsm (Nat.le_refl _)); clear hb1
  have HB2 := Lib.hid (hb2.same hsm hBm); clear hb2 hat hsm
  have K1 := k1.1; clear k1
  go_enter Try.func39, Try.ntmps39
  have hal : Below w.heap.size w (w.alloc (.cells #[.slice a0 ss.length c0, .slice a1 ls.length c1] 59)) := (Below.refl _ _).alloc (Nat.le_refl _) _
  go_wp2_with fail
  have x1 : (w.alloc (.cells #[.slice a0 ss.length c0, .slice a1 ls.length c1] 59)).cell? ⟨w.heap.size, 1, none⟩ = some (.slice a1 ls.length c1) := by simp
  generalize w.alloc (.cells #[.slice a0 ss.length c0, .slice a1 ls.length c1] 59) = W at hal x1 ⊢
  refine (markStringS_any _ ss.length k W B m (HB1.out.after hal) K1 (by omega) (by omega)).mono ?_
  rintro e w1 ⟨rfl, hst⟩
  have x1 := hst.cell (Or.inr (by simp; omega)) x1
  have HB3 := Lib.hid ((HB2.out.after hal).stir hst (Or.inr (Nat.le_refl _)))
  have HST := Lib.hid ((Stir.of B w0.heap.size hal).trans (hst.wide (Nat.le_refl _) hmw))
  clear hal hst HB1 HB2
  go_wp2_with fail
  refine (markMoveS_any _ ls.length (k + (ss.length : Int)) w1 m w0.heap.size HB3.out k2 (by omega) (by omega)).mono ?_
  rintro e w2 ⟨rfl, hst, _, _⟩
  have HST2 := Lib.hid (HST.out.trans (hst.wide hBm (Nat.le_refl _)))
  clear hst HST x1
  go_wp2_with fail
  go_ret
  exact ⟨k + (ss.length : Int) + 3 * (ls.length : Int), rfl, by omega, HST2.out⟩

set_option maxRecDepth 100000 in
set_option maxHeartbeats 1000000 in
theorem markRg_any (v : Value) (r : RgD) (w0 w : World) (B : Nat) (hv : RgOw B w0 v r) (hsm : Same B w0 w) (hs : SmallRg r) :
    Calls Try.prog 39 #[v, .int .i64 1] w (fun e w' => ∃ T : Nat, e = .returned (.int .i64 (T : Int)) ∧ 0 ≤ (T : Int) ∧ Stir B w0.heap.size w w') := by
  obtain ⟨m, vs, vm, rfl, hBm, hmw, hb1, hb2, hat⟩ := hv
  obtain ⟨ss, ls⟩ := r
  obtain ⟨k1, k2⟩ := hs
  simp only at hb1 hb2 hat k1 k2 ⊢
  obtain ⟨a0, c0, rfl⟩ := hb1.form
  obtain ⟨a1, c1, rfl⟩ := hb2.form
  have z0 := hsm.1
  have HB1 := Lib.hid (hb1.same hsm (Nat.le_refl _)); clear hb1
  have HB2 := Lib.hid (hb2.same hsm hBm); clear hb2 hat hsm
  have K1 := k1.1; clear k1
  go_enter Try.func39, Try.ntmps39
  have hal : Below w.heap.size w (w.alloc (.cells #[.slice a0 ss.length c0, .slice a1 ls.length c1] 59)) := (Below.refl _ _).alloc (Nat.le_refl _) _
  go_wp2_with fail
  have x1 : (w.alloc (.cells #[.slice a0 ss.length c0, .slice a1 ls.length c1] 59)).cell? ⟨w.heap.size, 1, none⟩ = some (.slice a1 ls.length c1) := by simp
  generalize w.alloc (.cells #[.slice a0 ss.length c0, .slice a1 ls.length c1] 59) = W at hal x1 ⊢
  refine (markStringS_any _ ss.length 1 W B m (HB1.out.after hal) K1 (by omega) (by omega)).mono ?_
  rintro e w1 ⟨rfl, hst⟩
  have x1 := hst.cell (Or.inr (by simp; omega)) x1
  have HB3 := Lib.hid ((HB2.out.after hal).stir hst (Or.inr (Nat.le_refl _)))
  have HST := Lib.hid ((Stir.of B w0.heap.size hal).trans (hst.wide (Nat.le_refl _) hmw))
  clear hal hst HB1 HB2
  go_wp2_with fail
  refine (markMoveS_any _ ls.length (1 + (ss.length : Int)) w1 m w0.heap.size HB3.out k2 (by omega) (by omega)).mono ?_
  rintro e w2 ⟨rfl, hst, _, _⟩
  have HST2 := Lib.hid (HST.out.trans (hst.wide hBm (Nat.le_refl _)))
  clear hst HST x1
  go_wp2_with fail
  go_ret
  exact ⟨1 + ss.length + 3 * ls.length, by push_cast; rfl, by omega, HST2.out⟩

end Go.Proofs.Ytfipnlehaklepaa
