/- WALKS: what may be written in a state graph: markArcS, toStateGraph once more, markStateGraph. -/
import Derived.Test.YtgmnknlnlmcmfaaVTrp
import Derived.Test.YtgmnknlnlmcmfaaVStgm
import Derived.Test.YtgmnknlnlmcmfaaVSgb
namespace Go.Proofs.Ytgmnknlnlmcmfaa
open Go.RowKit

theorem quad_put {w : World} {b c : Nat} {u0 u1 u2 u3 : Value} (v0 v1 v2 v3 : Value) (c0 : w.cell? ⟨b, c, none⟩ = some u0) (c1 : w.cell? ⟨b, c + 1, none⟩ = some u1) (c2 : w.cell? ⟨b, c + 2, none⟩ = some u2) (c3 : w.cell? ⟨b, c + 3, none⟩ = some u3) :
    ((((w.setCell ⟨b, c, none⟩ v0).setCell ⟨b, c + 1, none⟩ v1).setCell ⟨b, c + 2, none⟩ v2).setCell ⟨b, c + 3, none⟩ v3).cell? ⟨b, c, none⟩ = some v0 ∧
    ((((w.setCell ⟨b, c, none⟩ v0).setCell ⟨b, c + 1, none⟩ v1).setCell ⟨b, c + 2, none⟩ v2).setCell ⟨b, c + 3, none⟩ v3).cell? ⟨b, c + 1, none⟩ = some v1 ∧
    ((((w.setCell ⟨b, c, none⟩ v0).setCell ⟨b, c + 1, none⟩ v1).setCell ⟨b, c + 2, none⟩ v2).setCell ⟨b, c + 3, none⟩ v3).cell? ⟨b, c + 2, none⟩ = some v2 ∧
    ((((w.setCell ⟨b, c, none⟩ v0).setCell ⟨b, c + 1, none⟩ v1).setCell ⟨b, c + 2, none⟩ v2).setCell ⟨b, c + 3, none⟩ v3).cell? ⟨b, c + 3, none⟩ = some v3 ∧
    ∀ i v, i ≠ c → i ≠ c + 1 → i ≠ c + 2 → i ≠ c + 3 → w.cell? ⟨b, i, none⟩ = some v → ((((w.setCell ⟨b, c, none⟩ v0).setCell ⟨b, c + 1, none⟩ v1).setCell ⟨b, c + 2, none⟩ v2).setCell ⟨b, c + 3, none⟩ v3).cell? ⟨b, i, none⟩ = some v := by
  have far : ∀ {i i' : Nat}, i ≠ i' → (⟨b, i, none⟩ : Addr) ≠ ⟨b, i', none⟩ := fun h e => h (by injection e)
  obtain ⟨p0, p1, p2, pf⟩ := trip_put v0 v1 v2 c0 c1 c2
  have p3 := pf (c + 3) u3 (by omega) (by omega) (by omega) c3
  refine ⟨?_, ?_, ?_, World.cell?_setCell_same _ _ _ p3, fun i v h1 h2 h3 h4 h => ?_⟩
  · rw [World.cell?_setCell_other _ _ _ _ (far (by omega))]; exact p0
  · rw [World.cell?_setCell_other _ _ _ _ (far (by omega))]; exact p1
  · rw [World.cell?_setCell_other _ _ _ _ (far (by omega))]; exact p2
  · rw [World.cell?_setCell_other _ _ _ _ (far (fun e => h4 e.symm))]; exact pf i v h1 h2 h3 h

set_option maxHeartbeats 400000 in
theorem toArcS_row (v : Value) (ss : List Ar) (w : World) (lo : Nat) (hv : ArcsAt lo w v ss) (hn : ss.length ≤ 1048576) :
    Calls Try.prog 58 #[v] w (fun e w' => ∃ b, e = .returned (.slice (some ⟨b, 0, none⟩) ss.length ss.length) ∧ w.heap.size ≤ b ∧ b < w'.heap.size ∧ QuadRow b 153 w' ss.length ss.length (fun i => .int .i64 (arF ss i)) (fun i => .int .i64 (arS ss i)) (fun i => .bool (arU ss i)) (fun i => .int .i64 (arT ss i)) ∧ Below w.heap.size w w') := by
  obtain ⟨ao, cap, rfl, hc, hz⟩ := hv
  have hmk := run_make_arcs ss.length hn
  have HF := Lib.hid hz; clear hz
  go_enter Try.func58, Try.ntmps58
  go_wp2
  go_loopw [4] (fun i wr => ∃ k : Nat, k ≤ ss.length ∧ i = .int .i64 k ∧ QuadRow w.heap.size 153 wr ss.length k (fun i => .int .i64 (arF ss i)) (fun i => .int .i64 (arS ss i)) (fun i => .bool (arU ss i)) (fun i => .int .i64 (arT ss i)) ∧ Below w.heap.size w wr ∧ w.heap.size < wr.heap.size) (fun i _ => ss.length - (intOf i).toNat)
  case atStart =>
    obtain ⟨f, hf⟩ := rowIs_size (w := w) (t := 153) (size_madeCells #[.int .i64 0, .int .i64 0, .bool false, .int .i64 0] (ss.length * 4))
    exact ⟨0, Nat.zero_le _, rfl, ⟨f, hf, fun i hi => absurd hi (Nat.not_lt_zero _)⟩, (Below.refl _ _).alloc (Nat.le_refl _) _, by simp⟩
  case round =>
    obtain ⟨k, hk, rfl, hrow, hb1, hz1⟩ := hrel
    by_cases hlt : k < ss.length
    · rcases HF.out with h0 | ⟨b, off, rfl, hlo, hcell⟩
      · omega
      obtain ⟨c0, c1, c2, c3⟩ := hcell k hlt
      have d0 := Carries.of lo hb1 _ _ hlo c0
      have d1 := Carries.of lo hb1 _ _ hlo c1
      have d2 := Carries.of lo hb1 _ _ hlo c2
      have d3 := Carries.of lo hb1 _ _ hlo c3
      have HR := Lib.hid hrow
      clear hcell c0 c1 c2 c3 hrow
      go_wp2_with fail
      refine (toArc_any _ _ _ _ _).mono ?_
      rintro e w1 ⟨rfl, hb2⟩
      have hrow1 := HR.out.keep (hb2.block _ hz1)
      obtain ⟨y0, y1, y2, y3, e0, e1, e2, e3, f0, f1, f2, f3⟩ := hrow1.cells hlt
      have HR1 := Lib.hid hrow1
      have hz2 : w.heap.size < w1.heap.size := by have := hb2.size; omega
      have hw1 : Below w.heap.size w w1 := hb1.trans (hb2.mono (by omega))
      clear hrow1
      go_wp2_with fail
      go_roundw
      case rel => exact ⟨k + 1, by omega, by go_num, HR1.out.put hlt rfl rfl rfl rfl, by (repeat' (first | (with_reducible exact Below.refl _ _) | (with_reducible assumption) | (with_reducible refine Below.alloc ?_ ?_ _) | (with_reducible refine Below.drew ?_) | (with_reducible refine below_drewN ?_ _) | (with_reducible refine Below.setCell ?_ ?_ _) | go_size)), by simpa using hz2⟩
      case measure => simp [intOf]; omega
    · have hkk : k = ss.length := by omega
      subst hkk
      have HR := Lib.hid hrow; clear hrow
      go_wp2
      go_ret
      exact ⟨_, rfl, Nat.le_refl _, hz1, HR.out, hb1⟩

/-- the marks in arcs -/
def upArcs (k : Int) (n : Nat) : List Ar := (List.range n).map fun (i : Nat) => (k + 4 * (i : Int), k + 4 * (i : Int) + 1, ((k + 4 * (i : Int) + 1 + 1) % 3 == 0), k + 4 * (i : Int) + 1 + 1 + 1)
theorem upArcs_length (k : Int) (n : Nat) : (upArcs k n).length = n := by simp [upArcs]
theorem upArcs_get {k : Int} {n i : Nat} (h : i < n) : arF (upArcs k n) i = k + 4 * (i : Int) ∧ arS (upArcs k n) i = k + 4 * (i : Int) + 1 ∧ arU (upArcs k n) i = ((k + 4 * (i : Int) + 1 + 1) % 3 == 0) ∧ arT (upArcs k n) i = k + 4 * (i : Int) + 1 + 1 + 1 := by
  simp [arF, arS, arU, arT, upArcs, List.getD, h]

set_option maxRecDepth 100000 in
set_option maxHeartbeats 2000000 in
theorem markArcS_any (v : Value) (n : Nat) (k : Int) (w : World) (lo hi : Nat) (hv : CellBox lo hi w v n 4) (hn : n ≤ 1048576) (h0 : 0 ≤ k) (h1 : k ≤ 109951162777600) :
    Calls Try.prog 66 #[v, .int .i64 k] w (fun e w' => e = .returned (.int .i64 (k + 4 * (n : Int))) ∧ Stir lo hi w w' ∧
      (∀ b off c, v = .slice (some ⟨b, off, none⟩) n c → ∀ i, i < n → w'.cell? ⟨b, off + i * 4, none⟩ = some (.int .i64 (arF (upArcs k n) i)) ∧ w'.cell? ⟨b, off + i * 4 + 1, none⟩ = some (.int .i64 (arS (upArcs k n) i)) ∧ w'.cell? ⟨b, off + i * 4 + 2, none⟩ = some (.bool (arU (upArcs k n) i)) ∧ w'.cell? ⟨b, off + i * 4 + 3, none⟩ = some (.int .i64 (arT (upArcs k n) i)))) := by
  obtain ⟨ao, cap, rfl⟩ := hv.form
  have HB := Lib.hid hv; clear hv
  go_enter Try.func66, Try.ntmps66
  go_wp2_with fail
  go_loopw [1, 5] (fun kv i wr => ∃ j : Nat, j ≤ n ∧ i = .int .i64 j ∧ kv = .int .i64 (k + 4 * (j : Int)) ∧ Stir lo hi w wr ∧ Hid (CellBox lo hi wr (.slice ao n cap) n 4) ∧
    Hid (∀ b off, ao = some ⟨b, off, none⟩ → ∀ q, q < j → wr.cell? ⟨b, off + q * 4, none⟩ = some (.int .i64 (arF (upArcs k n) q)) ∧ wr.cell? ⟨b, off + q * 4 + 1, none⟩ = some (.int .i64 (arS (upArcs k n) q)) ∧ wr.cell? ⟨b, off + q * 4 + 2, none⟩ = some (.bool (arU (upArcs k n) q)) ∧ wr.cell? ⟨b, off + q * 4 + 3, none⟩ = some (.int .i64 (arT (upArcs k n) q)))) (fun _ i _ => n - (intOf i).toNat)
  case atStart => exact ⟨0, Nat.zero_le _, rfl, by simp, Stir.refl _ _ _, HB.out, fun _ _ _ q hq => absurd hq (Nat.not_lt_zero _)⟩
  case round =>
    obtain ⟨j, hj, rfl, rfl, hm, hbox, hex⟩ := hrel
    by_cases hlt : j < n
    · obtain ⟨a, c, e, hz⟩ := id hbox.out
      simp only [Value.slice.injEq, true_and] at e
      obtain ⟨rfl, rfl⟩ := e
      rcases hz with h | ⟨b, off, rfl, hlo, hhi, hcell⟩
      · omega
      obtain ⟨⟨u0, c0⟩, f0⟩ := hcell (j * 4) (by omega)
      obtain ⟨⟨u1, c1⟩, f1⟩ := hcell (j * 4 + 1) (by omega)
      obtain ⟨⟨u2, c2⟩, f2⟩ := hcell (j * 4 + 2) (by omega)
      obtain ⟨⟨u3, c3⟩, f3⟩ := hcell (j * 4 + 3) (by omega)
      rw [← Nat.add_assoc] at c1 f1 c2 f2 c3 f3
      clear hcell
      obtain ⟨g0, g1, g2, g3⟩ := upArcs_get (k := k) hlt
      have GG := Lib.hid (And.intro g0 (And.intro g1 (And.intro g2 g3))); clear g0 g1 g2 g3
      have HM3 := Lib.hid (fun (u : Bool) => (((hm.set (p := ⟨b, off + j * 4, none⟩) hlo hhi (.int .i64 (k + 4 * (j : Int)))).set (p := ⟨b, off + j * 4 + 1, none⟩) hlo hhi (.int .i64 (k + 4 * (j : Int) + 1))).set (p := ⟨b, off + j * 4 + 2, none⟩) hlo hhi (.bool u)).set (p := ⟨b, off + j * 4 + 3, none⟩) hlo hhi (.int .i64 (k + 4 * (j : Int) + 1 + 1 + 1)))
      have HB3 := Lib.hid (fun (u : Bool) => (((hbox.out.set ⟨b, off + j * 4, none⟩ (.int .i64 (k + 4 * (j : Int)))).set ⟨b, off + j * 4 + 1, none⟩ (.int .i64 (k + 4 * (j : Int) + 1))).set ⟨b, off + j * 4 + 2, none⟩ (.bool u)).set ⟨b, off + j * 4 + 3, none⟩ (.int .i64 (k + 4 * (j : Int) + 1 + 1 + 1)))
      have HPUT := Lib.hid (fun (u : Bool) => quad_put (.int .i64 (k + 4 * (j : Int))) (.int .i64 (k + 4 * (j : Int) + 1)) (.bool u) (.int .i64 (k + 4 * (j : Int) + 1 + 1 + 1)) c0 c1 c2 c3)
      have HX3 : Hid (∀ u, u = ((k + 4 * (j : Int) + 1 + 1) % 3 == 0) → ∀ b' off', some (⟨b, off, none⟩ : Addr) = some ⟨b', off', none⟩ → ∀ q, q < j + 1 → ((((wr.setCell ⟨b, off + j * 4, none⟩ (.int .i64 (k + 4 * (j : Int)))).setCell ⟨b, off + j * 4 + 1, none⟩ (.int .i64 (k + 4 * (j : Int) + 1))).setCell ⟨b, off + j * 4 + 2, none⟩ (.bool u)).setCell ⟨b, off + j * 4 + 3, none⟩ (.int .i64 (k + 4 * (j : Int) + 1 + 1 + 1))).cell? ⟨b', off' + q * 4, none⟩ = some (.int .i64 (arF (upArcs k n) q)) ∧
          ((((wr.setCell ⟨b, off + j * 4, none⟩ (.int .i64 (k + 4 * (j : Int)))).setCell ⟨b, off + j * 4 + 1, none⟩ (.int .i64 (k + 4 * (j : Int) + 1))).setCell ⟨b, off + j * 4 + 2, none⟩ (.bool u)).setCell ⟨b, off + j * 4 + 3, none⟩ (.int .i64 (k + 4 * (j : Int) + 1 + 1 + 1))).cell? ⟨b', off' + q * 4 + 1, none⟩ = some (.int .i64 (arS (upArcs k n) q)) ∧
          ((((wr.setCell ⟨b, off + j * 4, none⟩ (.int .i64 (k + 4 * (j : Int)))).setCell ⟨b, off + j * 4 + 1, none⟩ (.int .i64 (k + 4 * (j : Int) + 1))).setCell ⟨b, off + j * 4 + 2, none⟩ (.bool u)).setCell ⟨b, off + j * 4 + 3, none⟩ (.int .i64 (k + 4 * (j : Int) + 1 + 1 + 1))).cell? ⟨b', off' + q * 4 + 2, none⟩ = some (.bool (arU (upArcs k n) q)) ∧
          ((((wr.setCell ⟨b, off + j * 4, none⟩ (.int .i64 (k + 4 * (j : Int)))).setCell ⟨b, off + j * 4 + 1, none⟩ (.int .i64 (k + 4 * (j : Int) + 1))).setCell ⟨b, off + j * 4 + 2, none⟩ (.bool u)).setCell ⟨b, off + j * 4 + 3, none⟩ (.int .i64 (k + 4 * (j : Int) + 1 + 1 + 1))).cell? ⟨b', off' + q * 4 + 3, none⟩ = some (.int .i64 (arT (upArcs k n) q))) := by
        intro u hu b' off' he q hq
        obtain ⟨rfl, rfl⟩ : b = b' ∧ off = off' := by simpa using he
        obtain ⟨p0, p1, p2, p3, pf⟩ := HPUT.out u
        by_cases e : q = j
        · subst e
          rw [GG.out.1, GG.out.2.1, GG.out.2.2.1, GG.out.2.2.2, ← hu]
          exact ⟨p0, p1, p2, p3⟩
        · obtain ⟨g0, g1, g2, g3⟩ := hex.out b off rfl q (by omega)
          exact ⟨pf _ _ (by omega) (by omega) (by omega) (by omega) g0, pf _ _ (by omega) (by omega) (by omega) (by omega) g1, pf _ _ (by omega) (by omega) (by omega) (by omega) g2, pf _ _ (by omega) (by omega) (by omega) (by omega) g3⟩
      clear hm hbox hex HPUT
      go_wp2_with fail
      go_roundw
      case rel => exact ⟨j + 1, by omega, by go_num, by simp; omega, HM3.out _, HB3.out _, HX3.out _ rfl⟩
      case measure => simp [intOf]; omega
    · have hjj : j = n := by omega
      subst hjj
      go_wp2_with fail
      go_ret
      exact ⟨rfl, hm, fun b off c he q hq => hex.out b off (by injection he with h1 h2 h3) q hq⟩

/-- an answer of toStateGraph: what it reads as; its parts lie one behind the other, and may be written -/
def SgOw (B : Nat) (w : World) (v : Value) (r : SgD) : Prop :=
  ∃ (m1 m2 : Nat) (vg vs vm : Value), v = .agg #[vg, vs, vm] ∧ B ≤ m1 ∧ m1 ≤ m2 ∧ m2 ≤ w.heap.size ∧ PairBox B m1 w vg r.sigs.length ∧ CellBox m1 m2 w vs r.codes.length 1 ∧ CellBox m2 w.heap.size w vm r.arcs.length 4 ∧ SgAt B w v r
theorem SgOw.at {B : Nat} {w : World} {v : Value} {r : SgD} (h : SgOw B w v r) : SgAt B w v r := by
  obtain ⟨_, _, _, _, _, _, _, _, _, _, _, _, h⟩ := h
  exact h
theorem PairBox.same {lo hi B : Nat} {w w' : World} {v : Value} {n : Nat} (h : PairBox lo hi w v n) (hs : Same B w w') (hB : B ≤ lo) : PairBox lo hi w' v n := by
  obtain ⟨ao, cap, hv, hz⟩ := h
  refine ⟨ao, cap, hv, ?_⟩
  rcases hz with hz | ⟨b, off, ha, q1, q2, hcell⟩
  · exact Or.inl hz
  · refine Or.inr ⟨b, off, ha, q1, q2, fun i hi => ?_⟩
    obtain ⟨⟨u, hu⟩, hf⟩ := hcell i hi
    have he := hs.2 b (by omega) (by have := cell_old hu; simpa using this)
    exact ⟨⟨u, (World.cell?_of_block (w := w) (w' := w') (a := ⟨b, off + i, none⟩) he).trans hu⟩, (World.frozen?_of_block (w := w) (w' := w') (a := ⟨b, off + i, none⟩) he).trans hf⟩

set_option maxRecDepth 100000 in
set_option maxHeartbeats 2000000 in
theorem toSg_ow (v : Value) (r : SgD) (w : World) (lo : Nat) (hv : SgAt lo w v r) (hs : SmallSg r) :
    Calls Try.prog 14 #[v] w (fun e w' => ∃ u, e = .returned u ∧ SgOw w.heap.size w' u r ∧ Below w.heap.size w w') := by
  obtain ⟨a0, c0, a1, c1, a2, c2, rfl, hg, hm, hl⟩ := hv.form
  clear hv
  obtain ⟨gs, ss, ls⟩ := r
  obtain ⟨k0, k1, k2⟩ := hs
  simp only at hg hm hl k0 k1 k2 ⊢
  have HD := Lib.hid hg; clear hg
  have HG := Lib.hid hm; clear hm
  have HL := Lib.hid hl; clear hl
  have K0 := Lib.hid k0; clear k0
  have K1 := Lib.hid k1; clear k1
  go_enter Try.func14, Try.ntmps14
  go_wp2_with fail
  refine (toSignalS_row _ gs _ lo (HD.out.keep ?_) K0.out.1).mono ?_
  · (repeat' (first | (with_reducible exact Carries.refl _ _) | (with_reducible assumption) | (with_reducible refine Carries.alloc ?_ _) | (with_reducible refine Carries.drew ?_) | (with_reducible refine Carries.drewN ?_ _) | (with_reducible refine Carries.set ?_ ?_ _) | go_size))
  rintro e w1 ⟨bg, rfl, hbg0, hbg1, hrow0, hb0⟩
  obtain ⟨hc, hf⟩ := bcell hb0
  have hw1 : Below w.heap.size w w1 := by
    refine Below.trans ?_ (hb0.mono ?_)
    · (repeat' (first | (with_reducible exact Below.refl _ _) | (with_reducible assumption) | (with_reducible refine Below.alloc ?_ ?_ _) | (with_reducible refine Below.drew ?_) | (with_reducible refine below_drewN ?_ _) | (with_reducible refine Below.setCell ?_ ?_ _) | go_size))
    · simp; omega
  have hbg2 : w.heap.size + 3 ≤ bg := by simp at hbg0; omega
  have hz1 : w.heap.size + 1 + 1 < w1.heap.size := by have := hb0.size; simp at this; omega
  have hz1a : w.heap.size + 1 < w1.heap.size := by omega
  have hz1b : w.heap.size < w1.heap.size := by omega
  have J0 := Lib.hid hrow0; clear hrow0
  go_wp2_with fail
  refine (toStringS_row _ ss _ lo (HG.out.keep (Carries.of lo ?_)) K1.out.1).mono ?_
  · (repeat' (first | (with_reducible exact Below.refl _ _) | (with_reducible assumption) | (with_reducible refine Below.alloc ?_ ?_ _) | (with_reducible refine Below.drew ?_) | (with_reducible refine below_drewN ?_ _) | (with_reducible refine Below.setCell ?_ ?_ _) | go_size))
  rintro e w2 ⟨bs, rfl, hbs0, hbs1, hrow1, hb1⟩
  obtain ⟨hc2, hf2⟩ := bcell hb1
  have hw2 : Below w.heap.size w w2 := by
    refine Below.trans ?_ (hb1.mono ?_)
    · (repeat' (first | (with_reducible exact Below.refl _ _) | (with_reducible assumption) | (with_reducible refine Below.alloc ?_ ?_ _) | (with_reducible refine Below.drew ?_) | (with_reducible refine below_drewN ?_ _) | (with_reducible refine Below.setCell ?_ ?_ _) | go_size))
    · simp; omega
  have hbs2 : w1.heap.size ≤ bs := by simpa using hbs0
  have hz2 : w1.heap.size ≤ w2.heap.size := by have := hb1.size; simpa using this
  have hz2z : w.heap.size + 1 + 1 < w2.heap.size := by omega
  have hz2a : w.heap.size + 1 < w2.heap.size := by omega
  have hz2b : w.heap.size < w2.heap.size := by omega
  have S12 := Lib.hid (show Same (w.heap.size + 3) w1 w2 from Same.trans (by (repeat' (first | (with_reducible exact Same.refl _ _) | (with_reducible assumption) | (with_reducible refine Same.alloc ?_ _) | (with_reducible refine Same.drew ?_) | (with_reducible refine Same.drewN ?_ _) | (with_reducible refine Same.set ?_ ?_ _) | go_size))) (Same.of _ hb1))
  have J1 := Lib.hid hrow1; clear hrow1
  go_wp2_with fail
  refine (toArcS_row _ ls _ lo (HL.out.keep (Carries.of lo ?_)) k2).mono ?_
  · (repeat' (first | (with_reducible exact Below.refl _ _) | (with_reducible assumption) | (with_reducible refine Below.alloc ?_ ?_ _) | (with_reducible refine Below.drew ?_) | (with_reducible refine below_drewN ?_ _) | (with_reducible refine Below.setCell ?_ ?_ _) | go_size))
  rintro e w3 ⟨bl, rfl, hbl0, hbl1, hrow2, hb2⟩
  obtain ⟨hc3, hf3⟩ := bcell hb2
  have hw3 : Below w.heap.size w w3 := by
    refine Below.trans ?_ (hb2.mono ?_)
    · (repeat' (first | (with_reducible exact Below.refl _ _) | (with_reducible assumption) | (with_reducible refine Below.alloc ?_ ?_ _) | (with_reducible refine Below.drew ?_) | (with_reducible refine below_drewN ?_ _) | (with_reducible refine Below.setCell ?_ ?_ _) | go_size))
    · simp; omega
  have hbl2 : w2.heap.size ≤ bl := by simpa using hbl0
  have hz3 : w2.heap.size ≤ w3.heap.size := by have := hb2.size; simpa using this
  have hz3a : w.heap.size + 1 + 1 < w3.heap.size := by omega
  have hz3b : w.heap.size + 1 < w3.heap.size := by omega
  have hz3c : w.heap.size < w3.heap.size := by omega
  have S23 := Lib.hid (show Same (w.heap.size + 3) w2 w3 from Same.trans (by (repeat' (first | (with_reducible exact Same.refl _ _) | (with_reducible assumption) | (with_reducible refine Same.alloc ?_ _) | (with_reducible refine Same.drew ?_) | (with_reducible refine Same.drewN ?_ _) | (with_reducible refine Same.set ?_ ?_ _) | go_size))) (Same.of _ hb2))
  have J2 := Lib.hid hrow2; clear hrow2
  go_wp2_with fail
  refine bodyPost_ret (v := .agg #[.slice (some ⟨bg, 0, none⟩) gs.length gs.length, .slice (some ⟨bs, 0, none⟩) ss.length ss.length, .slice (some ⟨bl, 0, none⟩) ls.length ls.length]) (by simp [results, Try.results14, go_sem, hc, hc2, hc3, hz1a, hz2a, hz3a, hz3b]) rfl ?_
  have fin : ∀ (X : World), Same (w.heap.size + 3) w3 X → Below w.heap.size w X → ∃ u, Ending.returned (.agg #[.slice (some ⟨bg, 0, none⟩) gs.length gs.length, .slice (some ⟨bs, 0, none⟩) ss.length ss.length, .slice (some ⟨bl, 0, none⟩) ls.length ls.length]) = .returned u ∧ SgOw w.heap.size X u ⟨gs, ss, ls⟩ ∧ Below w.heap.size w X := by
    intro X hX hB
    have x2 := S23.out.trans hX
    have x1 := S12.out.trans x2
    have row0 := J0.out.keep (w' := X) (x1.2 bg (by omega) hbg1)
    have row1 := World.rowIs.of_block J1.out (x2.2 bs (by omega) hbs1)
    have row2 := J2.out.keep (w' := X) (hX.2 bl (by omega) hbl1)
    have zX := hX.1
    obtain ⟨f2, hf2, _⟩ := id row2
    refine ⟨_, rfl, ⟨w1.heap.size, w2.heap.size, _, _, _, rfl, by omega, by omega, by omega, (PairRow.box row0).wide (by omega) (by omega), (row_box (n := ss.length) (sz := 1) row1 (by omega)).wide (by omega) (by omega), (row_box (n := ls.length) (sz := 4) hf2 rfl).wide (by omega) (by omega), ?_⟩, hB⟩
    exact ⟨_, _, _, rfl, (PairsAt.low row0.read (by omega) : SigsAt _ _ _ _), (texts_of_row row1 (fun i hi => by unfold scopied; rw [if_pos hi])).low (by omega), (QuadsAt.low row2.read (by omega) : ArcsAt _ _ _ _)⟩
  refine fin _ ?_ ?_
  · (repeat' (first | (with_reducible exact Same.refl _ _) | (with_reducible assumption) | (with_reducible refine Same.alloc ?_ _) | (with_reducible refine Same.drew ?_) | (with_reducible refine Same.drewN ?_ _) | (with_reducible refine Same.set ?_ ?_ _) | go_size))
  · (repeat' (first | (with_reducible exact Below.refl _ _) | (with_reducible assumption) | (with_reducible refine Below.alloc ?_ ?_ _) | (with_reducible refine Below.drew ?_) | (with_reducible refine below_drewN ?_ _) | (with_reducible refine Below.setCell ?_ ?_ _) | go_size))

set_option maxRecDepth 100000 in
set_option maxHeartbeats 1000000 in
theorem markSg_any (v : Value) (r : SgD) (w0 w : World) (B : Nat) (hv : SgOw B w0 v r) (hsm : Same B w0 w) (hs : SmallSg r) :
    Calls Try.prog 18 #[v, .int .i64 1] w (fun e w' => ∃ T : Nat, e = .returned (.int .i64 (T : Int)) ∧ 0 ≤ (T : Int) ∧ Stir B w0.heap.size w w') := by
  obtain ⟨m1, m2, vg, vs, vm, rfl, hBm, hm12, hmw, hb0, hb1, hb2, hat⟩ := hv
  obtain ⟨gs, ss, ls⟩ := r
  obtain ⟨k0, k1, k2⟩ := hs
  simp only at hb0 hb1 hb2 hat k0 k1 k2 ⊢
  obtain ⟨a0, c0, rfl⟩ := hb0.form
  obtain ⟨a1, c1, rfl⟩ := hb1.form
  obtain ⟨a2, c2, rfl⟩ := hb2.form
  have z0 := hsm.1
  have HB0 := Lib.hid (hb0.same hsm (Nat.le_refl _)); clear hb0
  have HB1 := Lib.hid (hb1.same hsm hBm); clear hb1
  have HB2 := Lib.hid (hb2.same hsm (by omega)); clear hb2 hat hsm
  have K0 := k0.1; clear k0
  have K1 := k1.1; clear k1
  go_enter Try.func18, Try.ntmps18
  have hal : Below w.heap.size w (w.alloc (.cells #[.slice a0 gs.length c0, .slice a1 ss.length c1, .slice a2 ls.length c2] 34)) := (Below.refl _ _).alloc (Nat.le_refl _) _
  go_wp2_with fail
  have x1 : (w.alloc (.cells #[.slice a0 gs.length c0, .slice a1 ss.length c1, .slice a2 ls.length c2] 34)).cell? ⟨w.heap.size, 1, none⟩ = some (.slice a1 ss.length c1) := by simp
  have x2 : (w.alloc (.cells #[.slice a0 gs.length c0, .slice a1 ss.length c1, .slice a2 ls.length c2] 34)).cell? ⟨w.heap.size, 2, none⟩ = some (.slice a2 ls.length c2) := by simp
  generalize w.alloc (.cells #[.slice a0 gs.length c0, .slice a1 ss.length c1, .slice a2 ls.length c2] 34) = W at hal x1 x2 ⊢
  refine (markSignalS_any _ gs.length 1 W B m1 (HB0.out.after hal) K0 (by omega) (by omega)).mono ?_
  rintro e w1 ⟨rfl, hst⟩
  have x1 := hst.cell (Or.inr (by simp; omega)) x1
  have x2 := hst.cell (Or.inr (by simp; omega)) x2
  have HC1 := Lib.hid ((HB1.out.after hal).stir hst (Or.inr (Nat.le_refl _)))
  have HC2 := Lib.hid ((HB2.out.after hal).stir hst (Or.inr (by omega)))
  have HST := Lib.hid ((Stir.of B w0.heap.size hal).trans (hst.wide (Nat.le_refl _) (by omega)))
  clear hal hst HB0 HB1 HB2
  go_wp2_with fail
  refine (markStringS_any _ ss.length (1 + 2 * (gs.length : Int)) w1 m1 m2 HC1.out K1 (by omega) (by omega)).mono ?_
  rintro e w2 ⟨rfl, hst⟩
  have x2 := hst.cell (Or.inr (by simp; omega)) x2
  have HD2 := Lib.hid (HC2.out.stir hst (Or.inr (Nat.le_refl _)))
  have HST2 := Lib.hid (HST.out.trans (hst.wide hBm (by omega)))
  clear hst HST HC1 HC2 x1
  go_wp2_with fail
  refine (markArcS_any _ ls.length (1 + 2 * (gs.length : Int) + (ss.length : Int)) w2 m2 w0.heap.size HD2.out k2 (by omega) (by omega)).mono ?_
  rintro e w3 ⟨rfl, hst, _⟩
  have HST3 := Lib.hid (HST2.out.trans (hst.wide (by omega) (Nat.le_refl _)))
  clear hst HST2 x2
  go_wp2_with fail
  go_ret
  exact ⟨1 + 2 * gs.length + ss.length + 4 * ls.length, by push_cast; rfl, by omega, HST3.out⟩

end Go.Proofs.Ytgmnknlnlmcmfaa
