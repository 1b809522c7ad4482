/- WALK: l4Reach of the model. -/
import Derived.Test.YtigkgfdnnfmmmaaVRgbt
import Derived.Test.YtigkgfdnnfmmmaaVRgs
import Derived.Test.YtigkgfdnnfmmmaaVExp
import Derived.Test.YtigkgfdnnfmmmaaVSteps
import Derived.Deep.CutRange
import Derived.Deep.RegionHeld3
namespace Go.Proofs.Ytigkgfdnnfmmmaa
open Go.RowKit

theorem fired_exL {n : NetD} {m : ByteArray} {t : Nat} (h : exOk n m t = true) : bstr (fired m (n.ts.getD t ([], []))) = exNext n m t := by
  unfold exOk exTr at h
  unfold fired exNext exTr
  rw [if_pos h]
section
variable {B O : Nat} {w w' : World} {vM vV vB : Value} {mk bad : Int} {fu : Bool} {s : ExS} {bys : List Mv}
theorem LrAt.cells (h : LrAt B O w vM vV vB mk bad fu s bys) {b : Option Nat} (hg : w.grownBy w' b) (hn : some O ≠ b) : w'.cell? ⟨O, 0, none⟩ = some vM ∧ w'.cell? ⟨O, 1, none⟩ = some vV ∧ w'.cell? ⟨O, 2, none⟩ = some vB ∧ ∀ i, w'.frozen? ⟨O, i, none⟩ = false :=
  ⟨hg.cell h.c0 hn, hg.cell h.c1 hn, hg.cell h.c2 hn, fun i => (World.frozen?_of_block (a := ⟨O, i, none⟩) (hg.block O h.ty.lt hn)).trans (h.fr i)⟩
theorem LrAt.rest (h : LrAt B O w vM vV vB mk bad fu s bys) {B1 B2 n1 z1 n2 z2 : Nat} {e1 e2 : TypeId} {v1 v2 : Value} {xs ys : List Value} (h1 : w.ownsRow B1 e1 z1 v1 n1 xs) (hg : w.grownBy w' v1.ownBlock) (hi : w.ownsRow B2 e2 z2 v2 n2 ys) (he1 : e2 ≠ e1) (he2 : e2 ≠ 74) (he3 : e1 ≠ 74) (i : Nat) (u : Value) : (w'.setCell ⟨O, i, none⟩ u).ownsRow B2 e2 z2 v2 n2 ys :=
  owns_setT (hi.kept hg (rows_apartT hi h1 he1)) (p := ⟨O, i, none⟩) (h.ty.grown hg (owns_ne h1 h.ty he3)) he2 u
theorem LrAt.bel (h : LrAt B O w vM vV vB mk bad fu s bys) {w0 : World} {z1 n1 : Nat} {e1 : TypeId} {v1 : Value} {xs : List Value} (h1 : w.ownsRow B e1 z1 v1 n1 xs) (hg : w.grownBy w' v1.ownBlock) (hb : Below B w0 w) (i : Nat) (u : Value) : Below B w0 (w'.setCell ⟨O, i, none⟩ u) :=
  (hb.grown hg (Nat.le_trans h.bO (Nat.le_of_lt h.ty.lt)) (fun j hj => (ownsB_base h1 j hj).1)).setCell h.bO u
theorem LrAt.base (h : LrAt B O w vM vV vB mk bad fu s bys) : B ≤ w.heap.size := Nat.le_trans h.bO (Nat.le_of_lt h.ty.lt)
end

/-- what the model's search comes to -/
def RetRch (n : NetD) (s0 : ByteArray) (w : World) (e : Ending) (w' : World) : Prop :=
  Below w.heap.size w w' ∧ ∃ (vM vV vB : Value) (mk bad : Int) (fu : Bool), e = .returned (.agg #[vM, vV, vB, .int .i64 mk, .int .i64 bad, .bool fu]) ∧ (∃ a l c, vM = .slice a l c) ∧ (∃ a l c, vV = .slice a l c) ∧ (∃ a l c, vB = .slice a l c) ∧
  ((∃ (s : ExS) (i k t : Nat), exF n true 300 s0 = .done s ∧ bad = -1 ∧ fu = false ∧ ExOk n 300 s0 i k t s ∧ SRow w.heap.size w' vM s.ms ∧ MRow w.heap.size w' vV s.mv) ∨
   (∃ (k t : Nat) (s : ExS), exF n true 300 s0 = .bad k t s ∧ bad = (t : Int)) ∨
   (exF n true 300 s0 = .full ∧ fu = true))

/-- the result's box, all zero -/
structure LrZ (R : Nat) (w : World) : Prop where
  c0 : w.cell? ⟨R, 0, none⟩ = some (.slice none 0 0)
  c1 : w.cell? ⟨R, 1, none⟩ = some (.slice none 0 0)
  c2 : w.cell? ⟨R, 2, none⟩ = some (.slice none 0 0)
  c3 : w.cell? ⟨R, 3, none⟩ = some (.int .i64 0)
  c4 : w.cell? ⟨R, 4, none⟩ = some (.int .i64 0)
  c5 : w.cell? ⟨R, 5, none⟩ = some (.bool false)
  fr : ∀ i, w.frozen? ⟨R, i, none⟩ = false
  ty : TyAt w R 74
theorem LrZ.low {B R : Nat} {w w' : World} (h : LrZ R w) (hb : Below B w w') (hR : R < B) : LrZ R w' :=
  ⟨cell_low hb hR h.c0, cell_low hb hR h.c1, cell_low hb hR h.c2, cell_low hb hR h.c3, cell_low hb hR h.c4, cell_low hb hR h.c5, fun i => (frozen_low hb hR).trans (h.fr i), by
    obtain ⟨cur, f, h⟩ := h.ty
    exact ⟨cur, f, (hb.block _ hR).trans h⟩⟩
theorem LrZ.new (w : World) : LrZ w.heap.size (w.alloc (.cells #[.slice none 0 0, .slice none 0 0, .slice none 0 0, .int .i64 0, .int .i64 0, .bool false] 74)) :=
  ⟨by simp [go_sem], by simp [go_sem], by simp [go_sem], by simp [go_sem], by simp [go_sem], by simp [go_sem], fun i => by simp [go_sem], TyAt.new _ _ _⟩

section
variable {R : Nat} {w : World} (v0 v1 v2 v3 v4 v5 : Value)
theorem LrZ.row {B : Nat} {e : TypeId} {sz n : Nat} {v : Value} {xs : List Value} (h : LrZ R w) (hr : w.ownsRow B e sz v n xs) (hne : e ≠ 74) : ((((((w.setCell ⟨R, 0, none⟩ v0).setCell ⟨R, 1, none⟩ v1).setCell ⟨R, 2, none⟩ v2).setCell ⟨R, 3, none⟩ v3).setCell ⟨R, 4, none⟩ v4).setCell ⟨R, 5, none⟩ v5).ownsRow B e sz v n xs := by
  have t1 := h.ty.set ⟨R, 0, none⟩ v0
  have t2 := t1.set ⟨R, 1, none⟩ v1
  have t3 := t2.set ⟨R, 2, none⟩ v2
  have t4 := t3.set ⟨R, 3, none⟩ v3
  have t5 := t4.set ⟨R, 4, none⟩ v4
  exact owns_setT (owns_setT (owns_setT (owns_setT (owns_setT (owns_setT hr (p := ⟨R, 0, none⟩) h.ty hne v0) (p := ⟨R, 1, none⟩) t1 hne v1) (p := ⟨R, 2, none⟩) t2 hne v2) (p := ⟨R, 3, none⟩) t3 hne v3) (p := ⟨R, 4, none⟩) t4 hne v4) (p := ⟨R, 5, none⟩) t5 hne v5
theorem LrZ.bel {B : Nat} {w0 : World} (hb : Below B w0 w) (hR : B ≤ R) : Below B w0 ((((((w.setCell ⟨R, 0, none⟩ v0).setCell ⟨R, 1, none⟩ v1).setCell ⟨R, 2, none⟩ v2).setCell ⟨R, 3, none⟩ v3).setCell ⟨R, 4, none⟩ v4).setCell ⟨R, 5, none⟩ v5) :=
  (((((hb.setCell hR _).setCell hR _).setCell hR _).setCell hR _).setCell hR _).setCell hR _
end

set_option maxRecDepth 100000 in
set_option maxHeartbeats 4000000 in
theorem l4Reach_any (v : Value) (S : StgD) (w : World) (lo : Nat) (hv : StgAt lo w v S) (hs : SmallStg S) (hq : goodS S = true) :
    Calls Try.prog 44 #[v] w (RetRch S.net S.start w) := by
  obtain ⟨hg, hm0⟩ := good_parts hq
  obtain ⟨A0, C0, A1, C1, A2, C2, rfl, hn, _, _⟩ := hv.form
  have hsm := hs.1
  obtain ⟨n, hnn⟩ : ∃ q, q = S.net := ⟨_, rfl⟩
  obtain ⟨s0, hs0⟩ : ∃ q, q = S.start := ⟨_, rfl⟩
  obtain ⟨ns, hns⟩ : ∃ q, q = S.sigs.length := ⟨_, rfl⟩
  obtain ⟨nl, hnl⟩ : ∃ q, q = S.labs.length := ⟨_, rfl⟩
  rw [← hnn] at hg hm0 hn hsm ⊢
  rw [← hs0] at hm0 ⊢
  rw [← hns, ← hnl]
  clear hnn hs0 hns hnl hv hs hq
  have hT24 := (goodN_parts hg).2.2.1
  have HOK := Lib.hid (fun i k t s hx => ex_ok (ea := true) hg (by omega : 1 ≤ 300) hm0 i k t s hx)
  have HFI := Lib.hid (fun (i : Nat) (c : ExC) (hx : exTo n true 300 s0 i = c) hc => exF_is hg (by omega : 1 ≤ 300) hm0 hx hc)
  have HIN := Lib.hid (fun (mm : ByteArray) (hmm : markB n mm = true) (t : Nat) (ht : t < n.ts.length) => (show InS mm.size (n.ts.getD t ([], [])).1 ∧ InS mm.size (n.ts.getD t ([], [])).2 ∧ (n.ts.getD t ([], [])).2.Pairwise (· < ·) by
    obtain ⟨i1, i2, _, i4⟩ := good_tr hg ht
    rw [← mark_size hmm] at i1 i2
    exact ⟨i1, i2, i4⟩))
  have HSZ := Lib.hid (fun (mm : ByteArray) (hmm : markB n mm = true) => (show mm.size ≤ 30 by
    have := mark_size hmm
    have := (goodN_parts hg).2.1
    omega))
  obtain ⟨p, hp⟩ : ∃ q, q = n.places := ⟨_, rfl⟩
  obtain ⟨m, hm⟩ : ∃ q, q = n.ts.length := ⟨_, rfl⟩
  rw [← hp, ← hm] at hn ⊢
  rw [← hm] at hT24
  have HV := Lib.hid hn; have HS := Lib.hid hsm; have HMM := Lib.hid hm
  clear hn hm hsm hp hg hm0
  obtain ⟨W1, hW1⟩ : ∃ q, q = w.alloc (.cells #[.int .i64 p, .slice A0 m C0, .slice A1 ns C1, .slice A2 nl C2, .string s0] 42) := ⟨_, rfl⟩
  obtain ⟨W2, hW2⟩ : ∃ q, q = W1.alloc (.cells #[.slice none 0 0, .slice none 0 0, .slice none 0 0, .int .i64 0, .int .i64 0, .bool false] 74) := ⟨_, rfl⟩
  have zW1 : W1.heap.size = w.heap.size + 1 := by rw [hW1]; simp
  have zW2 : W2.heap.size = w.heap.size + 2 := by rw [hW2]; simp; omega
  have hZ := LrZ.new W1
  rw [← hW2, zW1] at hZ
  have hbw : Below w.heap.size w W2 := by rw [hW2, hW1]; (repeat' (first | (with_reducible exact Below.refl _ _) | (with_reducible assumption) | (with_reducible refine Below.alloc ?_ ?_ _) | (with_reducible refine Below.drew ?_) | (with_reducible refine below_drewN ?_ _) | (with_reducible refine Below.setCell ?_ ?_ _) | go_size))
  have b0 : W2.cell? ⟨w.heap.size, 0, none⟩ = some (.int .i64 p) := by rw [hW2, hW1]; simp [go_sem]
  have b1 : W2.cell? ⟨w.heap.size, 1, none⟩ = some (.slice A0 m C0) := by rw [hW2, hW1]; simp [go_sem]
  have b4 : W2.cell? ⟨w.heap.size, 4, none⟩ = some (.string s0) := by rw [hW2, hW1]; simp [go_sem]
  obtain ⟨W3, hW3⟩ : ∃ q, q = W2.alloc (.cells #[.string s0] 9) := ⟨_, rfl⟩
  obtain ⟨W4, hW4⟩ : ∃ q, q = W3.alloc (.cells #[.int .i64 0, .int .i64 0, .int .i64 0] 93) := ⟨_, rfl⟩
  obtain ⟨W5, hW5⟩ : ∃ q, q = W4.alloc (.cells #[.slice (some ⟨w.heap.size + 1 + 1, 0, none⟩) 1 1, .slice none 0 0, .slice (some ⟨w.heap.size + 1 + 1 + 1, 0, none⟩) 1 1, .int .i64 0, .int .i64 (-1), .bool false] 74) := ⟨_, rfl⟩
  have zW3 : W3.heap.size = w.heap.size + 1 + 1 + 1 := by rw [hW3]; simp; omega
  have zW4 : W4.heap.size = w.heap.size + 1 + 1 + 1 + 1 := by rw [hW4]; simp; omega
  have b23 : Below W2.heap.size W2 W3 := by rw [hW3]; (repeat' (first | (with_reducible exact Below.refl _ _) | (with_reducible assumption) | (with_reducible refine Below.alloc ?_ ?_ _) | (with_reducible refine Below.drew ?_) | (with_reducible refine below_drewN ?_ _) | (with_reducible refine Below.setCell ?_ ?_ _) | go_size))
  have b34 : Below W3.heap.size W3 W4 := by rw [hW4]; (repeat' (first | (with_reducible exact Below.refl _ _) | (with_reducible assumption) | (with_reducible refine Below.alloc ?_ ?_ _) | (with_reducible refine Below.drew ?_) | (with_reducible refine below_drewN ?_ _) | (with_reducible refine Below.setCell ?_ ?_ _) | go_size))
  have b45 : Below W4.heap.size W4 W5 := by rw [hW5]; (repeat' (first | (with_reducible exact Below.refl _ _) | (with_reducible assumption) | (with_reducible refine Below.alloc ?_ ?_ _) | (with_reducible refine Below.drew ?_) | (with_reducible refine below_drewN ?_ _) | (with_reducible refine Below.setCell ?_ ?_ _) | go_size))
  have b25 : Below W2.heap.size W2 W5 := (b23.trans (b34.mono b23.size)).trans (b45.mono (Nat.le_trans b23.size b34.size))
  have hL0 : LrAt W2.heap.size W4.heap.size W5 (.slice (some ⟨w.heap.size + 1 + 1, 0, none⟩) 1 1) (.slice none 0 0) (.slice (some ⟨w.heap.size + 1 + 1 + 1, 0, none⟩) 1 1) 0 (-1) false ⟨[s0], []⟩ [(0, 0, 0)] := by
    have hM : SRow W2.heap.size W3 (.slice (some ⟨w.heap.size + 1 + 1, 0, none⟩) 1 1) [s0] := by
      have := World.ownsRow_lit (base := W2.heap.size) (e := 9) (size := 1) W2 #[.string s0] 1 (Nat.le_refl _) (by decide) (by simp)
      rw [← hW3, zW2] at this
      rw [zW2]
      simpa [SRow, txCells] using this
    have hB : MRow W2.heap.size W4 (.slice (some ⟨w.heap.size + 1 + 1 + 1, 0, none⟩) 1 1) [(0, 0, 0)] := by
      have := World.ownsRow_lit (base := W2.heap.size) (e := 93) (size := 3) W3 #[.int .i64 0, .int .i64 0, .int .i64 0] 1 b23.size (by decide) (by simp)
      rw [← hW4, zW3] at this
      simpa [MRow, mvCells] using this
    refine ⟨by rw [hW5]; simp [go_sem], by rw [hW5]; simp [go_sem], by rw [hW5]; simp [go_sem], by rw [hW5]; simp [go_sem], by rw [hW5]; simp [go_sem], by rw [hW5]; simp [go_sem], fun i => by rw [hW5]; simp [go_sem], by rw [hW5]; exact TyAt.new _ _ _, Nat.le_trans b23.size b34.size, owns_after (owns_after hM b34) b45, World.ownsRow_nil _ _ _ _, owns_after hB b45, fun b h => by simp [Value.ownBlock] at h⟩
  rw [zW4] at hL0
  have HL0 := Lib.hid hL0; have HZ := Lib.hid hZ
  rw [hW4, hW3, hW2, hW1] at hW5
  clear hL0 hZ b23 b34 b45 zW3 zW4 hW4 hW3
  rw [hW1] at hW2
  have b4e := b4
  rw [hW2] at b4e
  go_enter Try.func44, Try.ntmps44
  go_wp2_with fail
  rw [← hW5]
  obtain ⟨O, hO⟩ : ∃ q, q = w.heap.size + 1 + 1 + 1 + 1 := ⟨_, rfl⟩
  rw [← hO] at HL0 ⊢
  have zH : w.heap.size < W2.heap.size := by omega
  have zR : w.heap.size + 1 < W2.heap.size := by omega
  clear hW5 hW2 hW1 b4e b4 W1 W3 W4 zW1 hO
  go_loopw [4] (fun v4 wr => ∃ (i k : Nat) (s : ExS) (bys : List Mv) (vM vV vB : Value), exTo n true 300 s0 i = .on k 0 s ∧ v4 = .int .i64 (k : Int) ∧ Hid (LrAt W2.heap.size O wr vM vV vB 0 (-1) false s bys) ∧ bys.length = s.ms.length ∧ Below W2.heap.size W2 wr) (fun v4 _ => 400 - (intOf v4).toNat)
  case atStart => exact ⟨0, 0, ⟨[s0], []⟩, _, _, _, _, rfl, rfl, HL0, rfl, b25⟩
  case round =>
  clear HL0 b25
  obtain ⟨i, k, s, bys, vM, vV, vB, hx, rfl, HL, hby, hbz⟩ := hrel
  obtain ⟨ho, hmx⟩ := HOK.out i k 0 s hx
  have hmx : s.ms.length ≤ 300 := hmx (by trivial)
  have HX := Lib.hid hx; have HO := Lib.hid ho
  obtain ⟨a7, c7, rfl⟩ := HL.out.rm.form
  obtain ⟨a8, c8, rfl⟩ : ∃ a c, vV = .slice a s.mv.length c := HL.out.rv.form
  obtain ⟨a9, c9, rfl⟩ : ∃ a c, vB = .slice a bys.length c := HL.out.rb.form
  obtain ⟨N, hN⟩ : ∃ q, q = s.ms.length := ⟨_, rfl⟩
  have HN := Lib.hid hN
  have hkle : k ≤ N := by rw [hN]; exact ho.kle
  have hNb : N ≤ 300 := by rw [hN]; exact hmx
  have zO : w.heap.size + 1 ≠ O := by have := HL.out.bO; omega
  have d0 := HL.out.c0
  have d1 := HL.out.c1
  have d2 := HL.out.c2
  have d3 := HL.out.c3
  have d4 := HL.out.c4
  have d5 := HL.out.c5
  rw [← hN] at d0
  rw [hby, ← hN] at d2
  have a0 := cell_low hbz zH b0
  have a1 := cell_low hbz zH b1
  obtain ⟨Y, hY⟩ : ∃ q, q = s.mv.length := ⟨_, rfl⟩
  have HY := Lib.hid hY
  rw [← hY] at d1
  have HBZ := Lib.hid hbz
  clear hx ho hN hY hmx hbz
  by_cases hlt : k < N
  case neg =>
    have hkN : ¬ k < s.ms.length := by rw [← HN.out]; exact hlt
    have HFN := Lib.hid (HFI.out _ _ (ex_end HX.out hkN) rfl)
    have t0 : decide ((k : Int) < (N : Int)) = false := by rw [decide_eq_false_iff_not]; omega
    have z := HZ.out.low HBZ.out zR
    have Z := Lib.hid z
    have z0 := z.c0
    have z1 := z.c1
    have z2 := z.c2
    have z3 := z.c3
    have z4 := z.c4
    have z5 := z.c5
    have f0 := z.fr 0
    have f1 := z.fr 1
    have f2 := z.fr 2
    have f3 := z.fr 3
    have f4 := z.fr 4
    have f5 := z.fr 5
    clear hkN z
    go_wp2_with fail
    refine bodyPost_ret (v := .agg #[.slice a7 N c7, .slice a8 Y c8, .slice a9 N c9, .int .i64 0, .int .i64 (-1), .bool false]) (by simp [results, Try.results44, go_sem, z0, z1, z2, z3, z4, z5]) rfl ?_
    exact ⟨LrZ.bel _ _ _ _ _ _ (hbw.trans (HBZ.out.mono hbw.size)) (Nat.le_succ _), _, _, _, _, _, _, rfl, ⟨_, _, _, rfl⟩, ⟨_, _, _, rfl⟩, ⟨_, _, _, rfl⟩, Or.inl ⟨s, i, k, 0, HFN.out, rfl, rfl, HO.out, by
      rw [HN.out]; exact Go.Joins.ownsRow_le (Z.out.row _ _ _ _ _ _ HL.out.rm (by decide)) hbw.size, by
      rw [HY.out]; exact Go.Joins.ownsRow_le (Z.out.row _ _ _ _ _ _ HL.out.rv (by decide)) hbw.size⟩⟩
  have t0 : decide ((k : Int) < (N : Int)) = true := decide_eq_true (by omega)
  have hkN : k < s.ms.length := by rw [← HN.out]; exact hlt
  obtain ⟨mk, hmk⟩ : ∃ q, q = stN s.ms k := ⟨_, rfl⟩
  have hmkm : markB n mk = true := by rw [hmk]; exact HO.out.mks k hkN
  have HKN := Lib.hid hkN; have HMK := Lib.hid hmk; have HKM := Lib.hid hmkm
  have hrng : ∃ g, a7 = some ⟨g, 0, none⟩ := by
    rcases HL.out.rm.2 with ⟨hv0, hn0⟩ | ⟨g, cap', cur, hv0, _⟩
    · rw [← HN.out] at hn0; omega
    · injection hv0 with e1 e2 e3; exact ⟨g, e1⟩
  obtain ⟨g7, rfl⟩ := hrng
  have hck : wr.cell? ⟨g7, k, none⟩ = some (.string mk) := by
    have h := HL.out.rm
    unfold SRow at h
    rw [← HN.out] at h
    rw [h.cellAt k (by omega), hmk]
    exact txCells_get hkN
  obtain ⟨wo, hwo⟩ : ∃ q, q = wr := ⟨_, rfl⟩
  subst hwo
  obtain ⟨f, hf⟩ : ∃ q, q = readyOf n mk := ⟨_, rfl⟩
  have HFF := Lib.hid hf
  clear hkN hmk hmkm hf d1 d2 d3 d4 d5
  go_upto_region 5 with fail
  go_cut [33, 34, 35] from 25 to 36 (fun vA vB vC wx => ∃ (aL : Option Addr) (cL : Nat), vA = .slice aL (enTo f m).length cL ∧ vB = .int .i64 ((enTo f m).length : Int) ∧ vC = .int .i64 0 ∧ wx.ownsRow wo.heap.size 3 1 (.slice aL (enTo f m).length cL) (enTo f m).length (intCells (enTo f m)) ∧ Below wo.heap.size wo wx)
  case first =>
    refine wp_region_held_drew (S := fun w' => w'.cell? ⟨w.heap.size, 0, none⟩ = some (.int .i64 p) ∧ w'.cell? ⟨w.heap.size, 1, none⟩ = some (.slice A0 m C0) ∧ w'.cell? ⟨O, 0, none⟩ = some (.slice (some ⟨g7, 0, none⟩) N c7) ∧ w'.cell? ⟨g7, k, none⟩ = some (.string mk)) (by kernel_rfl) ⟨a0, a1, d0, hck⟩ (fun hHeld => ?_)
    refine tk0 (v := ?_) (by kernel_rfl) (by kernel_rfl) (by kernel_rfl) (by first | exact fun _ _ _ h => h | exact fun _ _ _ h => absurd h.1 (by simp)) (Or.inl ⟨by rfl, ?_⟩) (by assumption) ?_
    rotate_left 1
    focus (intro wx hSw; (try dsimp only at hSw); go_simp; try (with_reducible rfl))
    try simp only [Act.put, List.setIfInBounds_toArray, List.set_cons_zero, List.set_cons_succ]
    refine tk1 (v := ?_) (by kernel_rfl) (by kernel_rfl) (by kernel_rfl) (by first | exact fun _ _ _ h => h | exact fun _ _ _ h => absurd h.1 (by simp)) (Or.inl ⟨by rfl, ?_⟩) (by assumption) ?_
    rotate_left 1
    focus (intro wx hSw; (try dsimp only at hSw); go_simp; try (with_reducible rfl))
    try simp only [Act.put, List.setIfInBounds_toArray, List.set_cons_zero, List.set_cons_succ]
    refine tk2 (v := ?_) (by kernel_rfl) (by kernel_rfl) (by kernel_rfl) (by first | exact fun _ _ _ h => h | exact fun _ _ _ h => absurd h.1 (by simp)) (Or.inl ⟨by rfl, ?_⟩) (by assumption) ?_
    rotate_left 1
    focus (intro wx hSw; (try dsimp only at hSw); go_simp; try (with_reducible rfl))
    try simp only [Act.put, List.setIfInBounds_toArray, List.set_cons_zero, List.set_cons_succ]
    refine tk3 (v := ?_) (by kernel_rfl) (by kernel_rfl) (by kernel_rfl) (by first | exact fun _ _ _ h => h | exact fun _ _ _ h => absurd h.1 (by simp)) (Or.inl ⟨by rfl, ?_⟩) (by assumption) ?_
    rotate_left 1
    focus (intro wx hSw; (try dsimp only at hSw); go_simp; try (with_reducible rfl))
    try simp only [Act.put, List.setIfInBounds_toArray, List.set_cons_zero, List.set_cons_succ]
    refine tk4 (v := ?_) (by kernel_rfl) (by kernel_rfl) (by kernel_rfl) (by first | exact fun _ _ _ h => h | exact fun _ _ _ h => absurd h.1 (by simp)) (Or.inl ⟨by rfl, ?_⟩) (by assumption) ?_
    rotate_left 1
    focus (intro wx hSw; (try dsimp only at hSw); go_simp; try (with_reducible rfl))
    try simp only [Act.put, List.setIfInBounds_toArray, List.set_cons_zero, List.set_cons_succ]
    refine tk5 (v := ?_) (by kernel_rfl) (by kernel_rfl) (by kernel_rfl) (by first | exact fun _ _ _ h => h | exact fun _ _ _ h => absurd h.1 (by simp)) (Or.inl ⟨by rfl, ?_⟩) (by assumption) ?_
    rotate_left 1
    focus (intro wx hSw; (try dsimp only at hSw); go_simp; try (with_reducible rfl))
    try simp only [Act.put, List.setIfInBounds_toArray, List.set_cons_zero, List.set_cons_succ]
    refine tk6 (v := ?_) (by kernel_rfl) (by kernel_rfl) (by kernel_rfl) (by first | exact fun _ _ _ h => h | exact fun _ _ _ h => absurd h.1 (by simp)) (Or.inl ⟨by rfl, ?_⟩) (by assumption) ?_
    rotate_left 1
    focus (intro wx hSw; (try dsimp only at hSw); go_simp; try (with_reducible rfl))
    try simp only [Act.put, List.setIfInBounds_toArray, List.set_cons_zero, List.set_cons_succ]
    refine tk7 (v := ?_) (by kernel_rfl) (by kernel_rfl) (by kernel_rfl) (by first | exact fun _ _ _ h => h | exact fun _ _ _ h => absurd h.1 (by simp)) (Or.inl ⟨by rfl, ?_⟩) (by assumption) ?_
    rotate_left 1
    focus (intro wx hSw; (try dsimp only at hSw); go_simp; try (with_reducible rfl))
    try simp only [Act.put, List.setIfInBounds_toArray, List.set_cons_zero, List.set_cons_succ]
    refine tk10 (v := ?_) (by kernel_rfl) (by kernel_rfl) (by kernel_rfl) (by first | exact fun _ _ _ h => h | exact fun _ _ _ h => absurd h.1 (by simp)) (Or.inl ⟨by rfl, ?_⟩) (by assumption) ?_
    rotate_left 1
    focus (intro wx hSw; (try dsimp only at hSw); go_simp; try (with_reducible rfl))
    try simp only [Act.put, List.setIfInBounds_toArray, List.set_cons_zero, List.set_cons_succ]
    refine rd8 (by kernel_rfl) (fun K hK => ?_)
    go_simp
    have hdr : Below wo.heap.size wo wo.drew := (Below.refl _ _).drew
    have a0 := cell_carry a0 (Carries.of 0 hdr)
    have a1 := cell_carry a1 (Carries.of 0 hdr)
    have d0 := cell_carry d0 (Carries.of 0 hdr)
    have hck := cell_carry hck (Carries.of 0 hdr)
    have hbo := hbw.trans (HBZ.out.mono hbw.size)
    generalize wo.drew = wd at hdr a0 a1 d0 hck ⊢
    refine (l1Enabled_any _ n mk wd lo (HV.out.keep (Carries.of lo (hbo.trans (hdr.mono hbo.size)))) HS.out (fun t ht => (HIN.out mk HKM.out t ht).1) (by have := HSZ.out mk HKM.out; omega)).mono ?_
    rintro e x1 ⟨vL, rfl, hL, hb1⟩
    rw [← HMM.out, ← HFF.out] at hL
    have hLf : ∃ aL cL, vL = .slice aL (enTo f m).length cL := by
      rcases hL.2 with ⟨rfl, hn0⟩ | ⟨gL, cL, cur, rfl, _⟩
      · exact ⟨none, 0, by rw [hn0]⟩
      · exact ⟨_, _, rfl⟩
    obtain ⟨aL, cL, rfl⟩ := hLf
    have HLL := Lib.hid (Go.Joins.ownsRow_le hL hdr.size)
    have hb2 := hdr.trans (hb1.mono hdr.size)
    have a0 := cell_carry a0 (Carries.of 0 hb1)
    have a1 := cell_carry a1 (Carries.of 0 hb1)
    have d0 := cell_carry d0 (Carries.of 0 hb1)
    have hck := cell_carry hck (Carries.of 0 hb1)
    clear hL hb1 hdr
    obtain ⟨nL, hnL⟩ : ∃ q, q = (enTo f m).length := ⟨_, rfl⟩
    have HNL := Lib.hid hnL
    rw [← hnL] at HLL ⊢
    clear hnL
    refine hK.out _ _ ⟨a0, a1, d0, hck⟩ (fun hHeld => ?_)
    clear hK K
    try simp only [Act.put, List.setIfInBounds_toArray, List.set_cons_zero, List.set_cons_succ]
    refine tk9 (v := ?_) (by kernel_rfl) (by kernel_rfl) (by kernel_rfl) (by first | exact fun _ _ _ h => h | exact fun _ _ _ h => absurd h.1 (by simp)) (Or.inl ⟨by rfl, ?_⟩) (by assumption) ?_
    rotate_left 1
    focus (intro wx hSw; (try dsimp only at hSw); go_simp; try (with_reducible rfl))
    try simp only [Act.put, List.setIfInBounds_toArray, List.set_cons_zero, List.set_cons_succ]
    refine wpAnyH_done (by kernel_rfl) ?_ _
    go_wp2_with fail
    go_meet
    case rel => exact ⟨aL, cL, by rw [HNL.out], by rw [HNL.out], rfl, by rw [← HNL.out]; exact HLL.out, hb2⟩
  case rest =>
  obtain ⟨aL, cL, rfl, rfl, rfl, hL, hb5⟩ := hcut
  obtain ⟨w5, hw5e⟩ : ∃ x, x = wc := ⟨_, rfl⟩
  subst hw5e
  have zow : W2.heap.size ≤ wo.heap.size := HBZ.out.size
  have HL5 := Lib.hid (HL.out.after hb5)
  have HB5 := Lib.hid (HBZ.out.trans (hb5.mono zow))
  obtain ⟨nL, hnL⟩ : ∃ q, q = (enTo f m).length := ⟨_, rfl⟩
  have HNL := Lib.hid hnL
  rw [← hnL] at hL ⊢
  have HLL := Lib.hid hL
  have hnL24 : nL ≤ 24 := by rw [hnL]; exact Nat.le_trans (enTo_length _ _) hT24
  have z5 : wo.heap.size ≤ w5.heap.size := hb5.size
  clear hnL hL hb5 hck HL HBZ hlt t0 hkle hNb a0 a1 d0
  go_wp2_with fail
  go_loopw [35] (fun v35 wr => ∃ (i t j : Nat) (s : ExS) (bys : List Mv) (vM vV vB : Value), exTo n true 300 s0 i = .on k t s ∧ stN s.ms k = mk ∧ k < s.ms.length ∧ v35 = .int .i64 (j : Int) ∧ j ≤ nL ∧ (enTo f t).length = j ∧ t ≤ m ∧ Hid (LrAt W2.heap.size O wr vM vV vB 0 (-1) false s bys) ∧ Hid (wr.ownsRow wo.heap.size 3 1 (.slice aL nL cL) nL (intCells (enTo f m))) ∧ bys.length = s.ms.length ∧ Below W2.heap.size W2 wr ∧ wo.heap.size ≤ wr.heap.size) (fun v35 _ => 25 - (intOf v35).toNat)
  case atStart => exact ⟨i, 0, 0, s, bys, _, _, _, HX.out, HMK.out.symm, HKN.out, rfl, Nat.zero_le _, rfl, Nat.zero_le _, HL5, HLL, hby, HB5.out, z5⟩
  case round =>
  clear HL5 HB5 HLL HX HO HN HKN HMK HY hby z5 zow
  obtain ⟨i, t, j, s, bys, vM, vV, vB, hx, hsm, hks, rfl, hj, hje, htm, HL, hil, hby, hbz, hzz⟩ := hrel
  obtain ⟨ho, hmx⟩ := HOK.out i k t s hx
  have hmx : s.ms.length ≤ 300 := hmx (by trivial)
  have HX := Lib.hid hx; have HO := Lib.hid ho; have HKS := Lib.hid hks; have HSM := Lib.hid hsm; have HJE := Lib.hid hje
  obtain ⟨wi, hwi⟩ : ∃ q, q = wr := ⟨_, rfl⟩
  subst hwi
  obtain ⟨a7', c7', rfl⟩ := HL.out.rm.form
  obtain ⟨a8', c8', rfl⟩ : ∃ a c, vV = .slice a s.mv.length c := HL.out.rv.form
  obtain ⟨a9', c9', rfl⟩ : ∃ a c, vB = .slice a bys.length c := HL.out.rb.form
  obtain ⟨N, hN⟩ : ∃ q, q = s.ms.length := ⟨_, rfl⟩
  obtain ⟨Y, hY⟩ : ∃ q, q = s.mv.length := ⟨_, rfl⟩
  have HN := Lib.hid hN; have HY := Lib.hid hY
  have hNb : N ≤ 300 := by rw [hN]; exact hmx
  have hkN : k < N := by rw [hN]; exact hks
  have hYb : Y ≤ 100000 := by
    have h1 := ho.mvs
    have h2 := ho.place
    have h3 := ho.tle
    rw [← HMM.out] at h2 h3
    have h4 : k * (m + 1) ≤ 300 * 25 := Nat.mul_le_mul (by omega) (by omega)
    omega
  rw [hby, ← hN, ← hY] at HL
  have d0 := HL.out.c0
  have hrng : ∃ g, a7' = some ⟨g, 0, none⟩ := by
    rcases HL.out.rm.2 with ⟨hv0, hn0⟩ | ⟨g, cap', cur, hv0, _⟩
    · omega
    · injection hv0 with e1 e2 e3; exact ⟨g, e1⟩
  obtain ⟨g7, rfl⟩ := hrng
  have hck : wi.cell? ⟨g7, k, none⟩ = some (.string mk) := by
    have h := HL.out.rm
    unfold SRow at h
    rw [← hN] at h
    rw [h.cellAt k (by omega), ← hsm]
    exact txCells_get hks
  have a0 := cell_low hbz zH b0
  have a1 := cell_low hbz zH b1
  have HBZ := Lib.hid hbz; have HIL := Lib.hid hil.out; have HBY := Lib.hid hby
  have hft : ∀ q, f q = readyOf n (stN s.ms k) q := fun q => by rw [HSM.out, HFF.out]
  have HFT := Lib.hid hft
  clear hx ho hks hsm hje hN hY hil hft hbz hmx hby
  by_cases hlt : j < nL
  case neg =>
    have hjL : (enTo f t).length = (enTo f m).length := by rw [HJE.out, ← HNL.out]; omega
    have hno := en_end f m (m - t) t (by omega) hjL
    have hsk := ex_skip HKS.out (m - t) i t HX.out (by rw [← HMM.out]; omega) (fun q h1 h2 => by rw [← HFT.out]; exact hno q h1 (by omega))
    rw [show t + (m - t) = m by omega] at hsk
    have hmn : ¬ m < n.ts.length := by rw [← HMM.out]; omega
    have t0 : decide ((j : Int) < (nL : Int)) = false := by rw [decide_eq_false_iff_not]; omega
    have HRR := Lib.hid (ex_row hsk HKS.out hmn (Or.inl rfl))
    clear hjL hno hsk hmn
    go_wp2_with fail
    go_roundw
    case rel => exact ⟨_, k + 1, s, bys, _, _, _, HRR.out, by go_num, HL, HBY.out, HBZ.out⟩
    case measure => simp [intOf]; omega
  have t0 : decide ((j : Int) < (nL : Int)) = true := decide_eq_true (by omega)
  obtain ⟨t2, ht1, ht2, hft2, hgap, hget, hlen2⟩ := en_next f m j (by rw [← HNL.out]; exact hlt) (m - t) t (by omega) HJE.out
  have hsk := ex_skip HKS.out (t2 - t) i t HX.out (by rw [← HMM.out]; omega) (fun q h1 h2 => by rw [← HFT.out]; exact hgap q h1 (by omega))
  rw [show t + (t2 - t) = t2 by omega] at hsk
  have hrd : readyOf n (stN s.ms k) t2 = true := by rw [← HFT.out]; exact hft2
  have ht2n : t2 < n.ts.length := by rw [← HMM.out]; exact ht2
  have hiL : ∃ gL, aL = some ⟨gL, 0, none⟩ := by
    rcases HIL.out.2 with ⟨hv0, hn0⟩ | ⟨g, cap', cur, hv0, _⟩
    · omega
    · injection hv0 with e1 e2 e3; exact ⟨g, e1⟩
  obtain ⟨gL, rfl⟩ := hiL
  have hcj : wi.cell? ⟨gL, j, none⟩ = some (.int .i64 (t2 : Int)) := by
    rw [HIL.out.cellAt j (by omega), intCells, List.getElem?_map, ← hget]
    have hjl : j < (enTo f m).length := by rw [← HNL.out]; exact hlt
    rw [List.getElem?_eq_getElem hjl, List.getD, List.getElem?_eq_getElem hjl]
    rfl
  have HSK := Lib.hid hsk; have HRD := Lib.hid hrd; have HT2 := Lib.hid ht2n; have HL2 := Lib.hid hlen2
  clear hsk hrd ht2n hlen2 hgap hget hft2
  go_upto_region 8 with fail
  refine wp_region_held_drew (S := fun w' => w'.cell? ⟨w.heap.size, 0, none⟩ = some (.int .i64 p) ∧ w'.cell? ⟨w.heap.size, 1, none⟩ = some (.slice A0 m C0) ∧ w'.cell? ⟨O, 0, none⟩ = some (.slice (some ⟨g7, 0, none⟩) N c7') ∧ w'.cell? ⟨g7, k, none⟩ = some (.string mk)) (by kernel_rfl) ⟨a0, a1, d0, hck⟩ (fun hHeld => ?_)
  refine tk0 (v := ?_) (by kernel_rfl) (by kernel_rfl) (by kernel_rfl) (by first | exact fun _ _ _ h => h | exact fun _ _ _ h => absurd h.1 (by simp)) (Or.inl ⟨by rfl, ?_⟩) (by assumption) ?_
  rotate_left 1
  focus (intro wx hSw; (try dsimp only at hSw); go_simp; try (with_reducible rfl))
  try simp only [Act.put, List.setIfInBounds_toArray, List.set_cons_zero, List.set_cons_succ]
  refine tk1 (v := ?_) (by kernel_rfl) (by kernel_rfl) (by kernel_rfl) (by first | exact fun _ _ _ h => h | exact fun _ _ _ h => absurd h.1 (by simp)) (Or.inl ⟨by rfl, ?_⟩) (by assumption) ?_
  rotate_left 1
  focus (intro wx hSw; (try dsimp only at hSw); go_simp; try (with_reducible rfl))
  try simp only [Act.put, List.setIfInBounds_toArray, List.set_cons_zero, List.set_cons_succ]
  refine tk2 (v := ?_) (by kernel_rfl) (by kernel_rfl) (by kernel_rfl) (by first | exact fun _ _ _ h => h | exact fun _ _ _ h => absurd h.1 (by simp)) (Or.inl ⟨by rfl, ?_⟩) (by assumption) ?_
  rotate_left 1
  focus (intro wx hSw; (try dsimp only at hSw); go_simp; try (with_reducible rfl))
  try simp only [Act.put, List.setIfInBounds_toArray, List.set_cons_zero, List.set_cons_succ]
  refine tk3 (v := ?_) (by kernel_rfl) (by kernel_rfl) (by kernel_rfl) (by first | exact fun _ _ _ h => h | exact fun _ _ _ h => absurd h.1 (by simp)) (Or.inl ⟨by rfl, ?_⟩) (by assumption) ?_
  rotate_left 1
  focus (intro wx hSw; (try dsimp only at hSw); go_simp; try (with_reducible rfl))
  try simp only [Act.put, List.setIfInBounds_toArray, List.set_cons_zero, List.set_cons_succ]
  refine tk4 (v := ?_) (by kernel_rfl) (by kernel_rfl) (by kernel_rfl) (by first | exact fun _ _ _ h => h | exact fun _ _ _ h => absurd h.1 (by simp)) (Or.inl ⟨by rfl, ?_⟩) (by assumption) ?_
  rotate_left 1
  focus (intro wx hSw; (try dsimp only at hSw); go_simp; try (with_reducible rfl))
  try simp only [Act.put, List.setIfInBounds_toArray, List.set_cons_zero, List.set_cons_succ]
  refine tk5 (v := ?_) (by kernel_rfl) (by kernel_rfl) (by kernel_rfl) (by first | exact fun _ _ _ h => h | exact fun _ _ _ h => absurd h.1 (by simp)) (Or.inl ⟨by rfl, ?_⟩) (by assumption) ?_
  rotate_left 1
  focus (intro wx hSw; (try dsimp only at hSw); go_simp; try (with_reducible rfl))
  try simp only [Act.put, List.setIfInBounds_toArray, List.set_cons_zero, List.set_cons_succ]
  refine tk6 (v := ?_) (by kernel_rfl) (by kernel_rfl) (by kernel_rfl) (by first | exact fun _ _ _ h => h | exact fun _ _ _ h => absurd h.1 (by simp)) (Or.inl ⟨by rfl, ?_⟩) (by assumption) ?_
  rotate_left 1
  focus (intro wx hSw; (try dsimp only at hSw); go_simp; try (with_reducible rfl))
  try simp only [Act.put, List.setIfInBounds_toArray, List.set_cons_zero, List.set_cons_succ]
  refine tk7 (v := ?_) (by kernel_rfl) (by kernel_rfl) (by kernel_rfl) (by first | exact fun _ _ _ h => h | exact fun _ _ _ h => absurd h.1 (by simp)) (Or.inl ⟨by rfl, ?_⟩) (by assumption) ?_
  rotate_left 1
  focus (intro wx hSw; (try dsimp only at hSw); go_simp; try (with_reducible rfl))
  try simp only [Act.put, List.setIfInBounds_toArray, List.set_cons_zero, List.set_cons_succ]
  refine tk8 (v := ?_) (by kernel_rfl) (by kernel_rfl) (by kernel_rfl) (by first | exact fun _ _ _ h => h | exact fun _ _ _ h => absurd h.1 (by simp)) (Or.inl ⟨by rfl, ?_⟩) (by assumption) ?_
  rotate_left 1
  focus (intro wx hSw; (try dsimp only at hSw); go_simp; try (with_reducible rfl))
  try simp only [Act.put, List.setIfInBounds_toArray, List.set_cons_zero, List.set_cons_succ]
  refine rd9 (by kernel_rfl) (fun K hK => ?_)
  go_simp
  have hdr : Below wi.heap.size wi wi.drew := (Below.refl _ _).drew
  have a0 := cell_carry a0 (Carries.of 0 hdr)
  have a1 := cell_carry a1 (Carries.of 0 hdr)
  have d0 := cell_carry d0 (Carries.of 0 hdr)
  have hck := cell_carry hck (Carries.of 0 hdr)
  have hbo := hbw.trans (HBZ.out.mono hbw.size)
  generalize wi.drew = wd at hdr a0 a1 d0 hck ⊢
  refine (l1Fire_any _ n mk t2 wd lo (HV.out.keep (Carries.of lo (hbo.trans (hdr.mono hbo.size)))) HS.out HT2.out (HIN.out mk HKM.out t2 HT2.out).1 (HIN.out mk HKM.out t2 HT2.out).2.1 (HIN.out mk HKM.out t2 HT2.out).2.2 (by have := HSZ.out mk HKM.out; omega)).mono ?_
  rintro e w1 ⟨rfl, hb1⟩
  have hb2 := hdr.trans (hb1.mono hdr.size)
  have zwi : W2.heap.size ≤ wi.heap.size := HBZ.out.size
  have a0 := cell_carry a0 (Carries.of 0 hb1)
  have a1 := cell_carry a1 (Carries.of 0 hb1)
  have d0 := cell_carry d0 (Carries.of 0 hb1)
  have hck := cell_carry hck (Carries.of 0 hb1)
  have HL1 := Lib.hid (HL.out.after hb2)
  have HI1 := Lib.hid (owns_after HIL.out hb2)
  have HB1 := Lib.hid (HBZ.out.trans (hb2.mono zwi))
  have z1 : wo.heap.size ≤ w1.heap.size := Nat.le_trans hzz hb2.size
  obtain ⟨FO, hFO⟩ : ∃ q, q = exOk n mk t2 := ⟨_, rfl⟩
  have hpo : postB (restB mk (n.ts.getD t2 ([], []))) (n.ts.getD t2 ([], [])).2 = FO := by rw [hFO]; rfl
  rw [hpo]
  obtain ⟨FM, hFM⟩ : ∃ q, q = bstr (fired mk (n.ts.getD t2 ([], []))) := ⟨_, rfl⟩
  rw [← hFM]
  have HFO := Lib.hid hFO; have HFM := Lib.hid hFM
  clear hpo hFO hFM hdr hb1 hb2 HL HIL HBZ zwi
  refine hK.out _ _ ⟨a0, a1, d0, hck⟩ (fun hHeld => ?_)
  clear hK K
  try simp only [Act.put, List.setIfInBounds_toArray, List.set_cons_zero, List.set_cons_succ]
  refine tk10 (v := ?_) (by kernel_rfl) (by kernel_rfl) (by kernel_rfl) (by first | exact fun _ _ _ h => h | exact fun _ _ _ h => absurd h.1 (by simp)) (Or.inl ⟨by rfl, ?_⟩) (by assumption) ?_
  rotate_left 1
  focus (intro wx hSw; (try dsimp only at hSw); go_simp; try (with_reducible rfl))
  try simp only [Act.put, List.setIfInBounds_toArray, List.set_cons_zero, List.set_cons_succ]
  refine tk11 (v := ?_) (by kernel_rfl) (by kernel_rfl) (by kernel_rfl) (by first | exact fun _ _ _ h => h | exact fun _ _ _ h => absurd h.1 (by simp)) (Or.inl ⟨by rfl, ?_⟩) (by assumption) ?_
  rotate_left 1
  focus (intro wx hSw; (try dsimp only at hSw); go_simp; try (with_reducible rfl))
  try simp only [Act.put, List.setIfInBounds_toArray, List.set_cons_zero, List.set_cons_succ]
  refine tk12 (v := ?_) (by kernel_rfl) (by kernel_rfl) (by kernel_rfl) (by first | exact fun _ _ _ h => h | exact fun _ _ _ h => absurd h.1 (by simp)) (Or.inl ⟨by rfl, ?_⟩) (by assumption) ?_
  rotate_left 1
  focus (intro wx hSw; (try dsimp only at hSw); go_simp; try (with_reducible rfl))
  try simp only [Act.put, List.setIfInBounds_toArray, List.set_cons_zero, List.set_cons_succ]
  refine tk13 (v := ?_) (by kernel_rfl) (by kernel_rfl) (by kernel_rfl) (by first | exact fun _ _ _ h => h | exact fun _ _ _ h => absurd h.1 (by simp)) (Or.inl ⟨by rfl, ?_⟩) (by assumption) ?_
  rotate_left 1
  focus (intro wx hSw; (try dsimp only at hSw); go_simp; try (with_reducible rfl))
  try simp only [Act.put, List.setIfInBounds_toArray, List.set_cons_zero, List.set_cons_succ]
  refine tk14 (v := ?_) (by kernel_rfl) (by kernel_rfl) (by kernel_rfl) (by first | exact fun _ _ _ h => h | exact fun _ _ _ h => absurd h.1 (by simp)) (Or.inl ⟨by rfl, ?_⟩) (by assumption) ?_
  rotate_left 1
  focus (intro wx hSw; (try dsimp only at hSw); go_simp; try (with_reducible rfl))
  try simp only [Act.put, List.setIfInBounds_toArray, List.set_cons_zero, List.set_cons_succ]
  refine wpAnyH_done (by kernel_rfl) ?_ _
  clear hck hHeld d0 a0 a1 hbo
  have d0 := HL1.out.c0
  have d1 := HL1.out.c1
  have d2 := HL1.out.c2
  have d3 := HL1.out.c3
  have d4 := HL1.out.c4
  have d5 := HL1.out.c5
  have e3 := HL1.out.fr 3
  have e4 := HL1.out.fr 4
  cases FO with
  | false =>
    have HFN := Lib.hid (HFI.out _ _ (ex_bad HSK.out HKS.out HT2.out HRD.out (by rw [HSM.out]; exact HFO.out.symm)) rfl)
    have hbS : Below W2.heap.size W2 ((w1.setCell ⟨O, 3, none⟩ (.int .i64 (k : Int))).setCell ⟨O, 4, none⟩ (.int .i64 (t2 : Int))) := (HB1.out.setCell HL1.out.bO _).setCell HL1.out.bO _
    have z := HZ.out.low hbS zR
    have Z := Lib.hid z
    have z0 := z.c0
    have z1 := z.c1
    have z2 := z.c2
    have z3 := z.c3
    have z4 := z.c4
    have z5 := z.c5
    have f0 := z.fr 0
    have f1 := z.fr 1
    have f2 := z.fr 2
    have f3 := z.fr 3
    have f4 := z.fr 4
    have f5 := z.fr 5
    have LS := (HL1.out.set3 (k : Int)).set4 (t2 : Int)
    have y0 := LS.c0
    have y1 := LS.c1
    have y2 := LS.c2
    have y3 := LS.c3
    have y4 := LS.c4
    have y5 := LS.c5
    have HBS := Lib.hid hbS
    clear z LS hbS
    go_wp2_with fail
    refine bodyPost_ret (v := .agg #[.slice (some ⟨g7, 0, none⟩) N c7', .slice a8' Y c8', .slice a9' N c9', .int .i64 (k : Int), .int .i64 (t2 : Int), .bool false]) (by simp [results, Try.results44, go_sem, z0, z1, z2, z3, z4, z5]) rfl ?_
    exact ⟨LrZ.bel _ _ _ _ _ _ (hbw.trans (HBS.out.mono hbw.size)) (Nat.le_succ _), _, _, _, _, _, _, rfl, ⟨_, _, _, rfl⟩, ⟨_, _, _, rfl⟩, ⟨_, _, _, rfl⟩, Or.inr (Or.inl ⟨k, t2, s, HFN.out, rfl⟩)⟩
  | true =>
  have hFMe : FM = exNext n (stN s.ms k) t2 := by rw [HFM.out, HSM.out]; exact fired_exL HFO.out.symm
  have HFE := Lib.hid hFMe
  clear hFMe d3 d4 d5 e3 e4
  go_wp2_with fail
  refine (l4Find_any _ s.ms FM w1 W2.heap.size HL1.out.rm.at (by rw [← HN.out]; omega)).mono ?_
  rintro e w2 ⟨rfl, hb2⟩
  have HL2' := Lib.hid (HL1.out.after hb2)
  have HI2 := Lib.hid (owns_after HI1.out hb2)
  have HB2 := Lib.hid (HB1.out.trans (hb2.mono HL1.out.base))
  have z2 : wo.heap.size ≤ w2.heap.size := Nat.le_trans z1 hb2.size
  have d0 := HL2'.out.c0
  have d1 := HL2'.out.c1
  have d2 := HL2'.out.c2
  have d3 := HL2'.out.c3
  have d4 := HL2'.out.c4
  have d5 := HL2'.out.c5
  have e0 := HL2'.out.fr 0
  have e1 := HL2'.out.fr 1
  have e2 := HL2'.out.fr 2
  have e5 := HL2'.out.fr 5
  clear hb2 HL1 HI1 HB1 z1
  by_cases hfi : findN s.ms FM < s.ms.length
  · have hme : exMs s.ms FM = s.ms := by unfold exMs; rw [if_pos hfi]
    rw [show findI s.ms FM = (findN s.ms FM : Int) from if_pos hfi]
    have hfire := ex_fire HSK.out HKS.out HT2.out HRD.out (by rw [HSM.out]; exact HFO.out.symm) (Or.inr (by rw [← HFE.out, hme, ← HN.out]; exact hNb))
    rw [← HFE.out] at hfire
    have HFR := Lib.hid hfire
    obtain ⟨F, hF⟩ : ∃ q, q = findN s.ms FM := ⟨_, rfl⟩
    rw [← hF]
    have HEX := Lib.hid (show exAdd s k t2 FM = ⟨s.ms, s.mv ++ [((k : Int), (t2 : Int), (F : Int))]⟩ by unfold exAdd; rw [hme, hF])
    have tF : decide ((F : Int) < 0) = false := by rw [decide_eq_false_iff_not]; omega
    clear hfire hF hme hfi
    have hal : Below w2.heap.size w2 (w2.alloc (.cells #[.int .i64 (k : Int), .int .i64 (t2 : Int), .int .i64 (F : Int)] 93)) := (Below.refl _ _).alloc (Nat.le_refl _) _
    have HAL := Lib.hid hal
    have HLA := Lib.hid (HL2'.out.after hal)
    have HIA := Lib.hid (owns_after HI2.out hal)
    have hrv : MRow W2.heap.size (w2.alloc (.cells #[.int .i64 (k : Int), .int .i64 (t2 : Int), .int .i64 (F : Int)] 93)) (.slice a8' Y c8') s.mv := HLA.out.rv
    have HRV := Lib.hid hrv
    have hY30 : s.mv.length ≤ 1073741824 := by rw [← HY.out]; omega
    have hbs : W2.heap.size ≤ (w2.alloc (.cells #[.int .i64 (k : Int), .int .i64 (t2 : Int), .int .i64 (F : Int)] 93)).heap.size := HLA.out.base
    clear hal hrv d0 d2 d3 d4 d5 e0 e2 e5
    go_wp2_with (refine wpList_append_mvl rfl _ _ rfl W2.heap.size (.slice a8' Y c8') s.mv rfl HRV.out w2.heap.size ((k : Int), (t2 : Int), (F : Int)) rfl (by simp) (by simp) (by simp) hY30 hbs ?_; intro g9 k9 w3 hro3 hgr hat; obtain ⟨_, q1, _, qf⟩ := HLA.out.cells hgr (owns_ne HRV.out HLA.out.ty (by decide)); have qf1 := qf 1; clear qf)
    go_roundw
    case rel =>
      refine ⟨_, t2 + 1, j + 1, _, bys, _, _, _, HFR.out, ?_, ?_, by go_num, by omega, HL2.out, by omega, Lib.hid (by rw [HEX.out]; exact HLA.out.pushV hgr hro3 hat), Lib.hid (HLA.out.rest HRV.out hgr HIA.out (by decide) (by decide) (by decide) 1 _), by rw [HEX.out]; exact HBY.out, HLA.out.bel HRV.out hgr (HB2.out.trans (HAL.out.mono HB2.out.size)) 1 _, ?_⟩
      · rw [HEX.out]; exact HSM.out
      · rw [HEX.out]; exact HKS.out
      · have := hgr.size
        simp at this ⊢
        omega
    case measure => simp [intOf]; omega
  · have hme : exMs s.ms FM = s.ms ++ [FM] := by unfold exMs; rw [if_neg hfi]
    have hFN : findN s.ms FM = N := by rw [HN.out]; exact (findN_new hfi).1
    rw [show findI s.ms FM = (-1 : Int) from if_neg hfi]
    by_cases hful : N = 300
    · have tF : decide ((N : Int) = 300) = true := decide_eq_true (by omega)
      have HFN := Lib.hid (HFI.out _ _ (ex_full HSK.out HKS.out HT2.out HRD.out (by rw [HSM.out]; exact HFO.out.symm) rfl (by rw [← HFE.out, hme, List.length_append, ← HN.out]; simp; omega)) rfl)
      clear d3 d4 d0 d1 d2 d5 hfi hme hFN
      have d0 := HL2'.out.c0
      have d5 := HL2'.out.c5
      have hbS : Below W2.heap.size W2 (w2.setCell ⟨O, 5, none⟩ (.bool true)) := HB2.out.setCell HL2'.out.bO _
      have z := HZ.out.low hbS zR
      have Z := Lib.hid z
      have z0 := z.c0
      have z1 := z.c1
      have z2 := z.c2
      have z3 := z.c3
      have z4 := z.c4
      have z5 := z.c5
      have f0 := z.fr 0
      have f1 := z.fr 1
      have f2 := z.fr 2
      have f3 := z.fr 3
      have f4 := z.fr 4
      have f5 := z.fr 5
      have LS := HL2'.out.set5 true
      have y0 := LS.c0
      have y1 := LS.c1
      have y2 := LS.c2
      have y3 := LS.c3
      have y4 := LS.c4
      have y5 := LS.c5
      have HBS := Lib.hid hbS
      clear z LS hbS
      go_wp2_with fail
      refine bodyPost_ret (v := .agg #[.slice (some ⟨g7, 0, none⟩) N c7', .slice a8' Y c8', .slice a9' N c9', .int .i64 0, .int .i64 (-1), .bool true]) (by simp [results, Try.results44, go_sem, z0, z1, z2, z3, z4, z5, hful]) rfl ?_
      exact ⟨LrZ.bel _ _ _ _ _ _ (hbw.trans (HBS.out.mono hbw.size)) (Nat.le_succ _), _, _, _, _, _, _, rfl, ⟨_, _, _, rfl⟩, ⟨_, _, _, rfl⟩, ⟨_, _, _, rfl⟩, Or.inr (Or.inr ⟨HFN.out, rfl⟩)⟩
    have tF : decide ((N : Int) = 300) = false := by rw [decide_eq_false_iff_not]; omega
    have hfire := ex_fire HSK.out HKS.out HT2.out HRD.out (by rw [HSM.out]; exact HFO.out.symm) (Or.inr (by rw [← HFE.out, hme, List.length_append, ← HN.out]; simp; omega))
    rw [← HFE.out] at hfire
    have HFR := Lib.hid hfire
    have HME := Lib.hid hme
    have HEX := Lib.hid (show exAdd s k t2 FM = ⟨exMs s.ms FM, s.mv ++ [((k : Int), (t2 : Int), (N : Int))]⟩ by unfold exAdd; rw [hFN])
    clear hfire hfi hme hFN
    have hal : Below w2.heap.size w2 (w2.alloc (.cells #[.string FM] 9)) := (Below.refl _ _).alloc (Nat.le_refl _) _
    have HLA := Lib.hid (HL2'.out.after hal)
    have HIA := Lib.hid (owns_after HI2.out hal)
    have HBA := Lib.hid (HB2.out.trans (hal.mono HB2.out.size))
    have hrm : SRow W2.heap.size (w2.alloc (.cells #[.string FM] 9)) (.slice (some ⟨g7, 0, none⟩) N c7') s.ms := HLA.out.rm
    have HRM := Lib.hid hrm
    have zA : wo.heap.size ≤ (w2.alloc (.cells #[.string FM] 9)).heap.size := Nat.le_trans z2 hal.size
    have hN30 : s.ms.length ≤ 1073741824 := by rw [← HN.out]; omega
    have hbs : W2.heap.size ≤ (w2.alloc (.cells #[.string FM] 9)).heap.size := HLA.out.base
    clear hal hrm d1 d2 d3 d4 d5 e1 e2 e5
    go_upto_region 20 with (refine wpList_append_tx rfl _ _ rfl W2.heap.size (.slice (some ⟨g7, 0, none⟩) N c7') s.ms rfl HRM.out w2.heap.size FM rfl (by simp) hN30 hbs ?_; intro g9 k9 w3 hro3 hgr; obtain ⟨q0, _, _, qf⟩ := HLA.out.cells hgr (owns_ne HRM.out HLA.out.ty (by decide)); have qf0 := qf 0; clear qf)
    have HL3 := Lib.hid (HLA.out.pushM hgr hro3)
    have HI3 := Lib.hid (HLA.out.rest HRM.out hgr HIA.out (by decide) (by decide) (by decide) 0 (.slice (some ⟨g9, 0, none⟩) (s.ms.length + 1) k9))
    have HB3 := Lib.hid (HLA.out.bel HRM.out hgr HBA.out 0 (.slice (some ⟨g9, 0, none⟩) (s.ms.length + 1) k9))
    have zX : wo.heap.size ≤ (w3.setCell ⟨O, 0, none⟩ (.slice (some ⟨g9, 0, none⟩) (s.ms.length + 1) k9)).heap.size := by
      have := hgr.size
      rw [World.size_setCell]
      omega
    generalize w3.setCell ⟨O, 0, none⟩ (.slice (some ⟨g9, 0, none⟩) (s.ms.length + 1) k9) = X at HL3 HI3 HB3 zX ⊢
    clear HLA HIA HBA HRM hro3 hgr hbs qf0 q0 zA d0 e0 HL2' HI2 HB2 z2 hN30
    have hal : Below X.heap.size X (X.alloc (.cells #[.int .i64 (k : Int), .int .i64 (t2 : Int), .int .i64 (N : Int)] 93)) := (Below.refl _ _).alloc (Nat.le_refl _) _
    have HLA := Lib.hid (HL3.out.after hal)
    have HIA := Lib.hid (owns_after HI3.out hal)
    have HBA := Lib.hid (HB3.out.trans (hal.mono HB3.out.size))
    have hrb : MRow W2.heap.size (X.alloc (.cells #[.int .i64 (k : Int), .int .i64 (t2 : Int), .int .i64 (N : Int)] 93)) (.slice a9' N c9') bys := HLA.out.rb
    have HRB := Lib.hid hrb
    have zA : wo.heap.size ≤ (X.alloc (.cells #[.int .i64 (k : Int), .int .i64 (t2 : Int), .int .i64 (N : Int)] 93)).heap.size := Nat.le_trans zX hal.size
    have hb30 : bys.length ≤ 1073741824 := by rw [HBY.out, ← HN.out]; omega
    have hbs : W2.heap.size ≤ (X.alloc (.cells #[.int .i64 (k : Int), .int .i64 (t2 : Int), .int .i64 (N : Int)] 93)).heap.size := HLA.out.base
    have d2 := HL3.out.c2
    have e2 := HL3.out.fr 2
    clear hal hrb
    go_upto_region 21 with (refine wpList_append_mvl rfl _ _ rfl W2.heap.size (.slice a9' N c9') bys rfl HRB.out X.heap.size ((k : Int), (t2 : Int), (N : Int)) rfl (by simp) (by simp) (by simp) hb30 hbs ?_; intro g8 k8 w4 hro4 hgr hat; obtain ⟨_, _, q2, qf⟩ := HLA.out.cells hgr (owns_ne HRB.out HLA.out.ty (by decide)); have qf2 := qf 2; clear qf)
    have HL4 := Lib.hid (HLA.out.pushB hgr hro4 hat)
    have HI4 := Lib.hid (HLA.out.rest HRB.out hgr HIA.out (by decide) (by decide) (by decide) 2 (.slice (some ⟨g8, 0, none⟩) (bys.length + 1) k8))
    have HB4 := Lib.hid (HLA.out.bel HRB.out hgr HBA.out 2 (.slice (some ⟨g8, 0, none⟩) (bys.length + 1) k8))
    have zZ : wo.heap.size ≤ (w4.setCell ⟨O, 2, none⟩ (.slice (some ⟨g8, 0, none⟩) (bys.length + 1) k8)).heap.size := by
      have := hgr.size
      rw [World.size_setCell]
      omega
    generalize w4.setCell ⟨O, 2, none⟩ (.slice (some ⟨g8, 0, none⟩) (bys.length + 1) k8) = Z at HL4 HI4 HB4 zZ ⊢
    clear HLA HIA HBA HRB hro4 hgr hat hbs qf2 q2 zA zX d2 e2 HL3 HI3 HB3 hb30
    have hal : Below Z.heap.size Z (Z.alloc (.cells #[.int .i64 (k : Int), .int .i64 (t2 : Int), .int .i64 (N : Int)] 93)) := (Below.refl _ _).alloc (Nat.le_refl _) _
    have HLA := Lib.hid (HL4.out.after hal)
    have HIA := Lib.hid (owns_after HI4.out hal)
    have HBA := Lib.hid (HB4.out.trans (hal.mono HB4.out.size))
    have hrv : MRow W2.heap.size (Z.alloc (.cells #[.int .i64 (k : Int), .int .i64 (t2 : Int), .int .i64 (N : Int)] 93)) (.slice a8' Y c8') s.mv := HLA.out.rv
    have HRV := Lib.hid hrv
    have zA : wo.heap.size ≤ (Z.alloc (.cells #[.int .i64 (k : Int), .int .i64 (t2 : Int), .int .i64 (N : Int)] 93)).heap.size := Nat.le_trans zZ hal.size
    have hY30 : s.mv.length ≤ 1073741824 := by rw [← HY.out]; omega
    have hbs : W2.heap.size ≤ (Z.alloc (.cells #[.int .i64 (k : Int), .int .i64 (t2 : Int), .int .i64 (N : Int)] 93)).heap.size := HLA.out.base
    have d1 := HL4.out.c1
    have e1 := HL4.out.fr 1
    clear hal hrv
    go_wp2_with (refine wpList_append_mvl rfl _ _ rfl W2.heap.size (.slice a8' Y c8') s.mv rfl HRV.out Z.heap.size ((k : Int), (t2 : Int), (N : Int)) rfl (by simp) (by simp) (by simp) hY30 hbs ?_; intro g9 k9 w5' hro5 hgr hat; obtain ⟨_, q1, _, qf⟩ := HLA.out.cells hgr (owns_ne HRV.out HLA.out.ty (by decide)); have qf1 := qf 1; clear qf)
    go_roundw
    case rel =>
      refine ⟨_, t2 + 1, j + 1, _, bys ++ [((k : Int), (t2 : Int), (N : Int))], _, _, _, HFR.out, ?_, ?_, by go_num, by omega, HL2.out, by omega, Lib.hid (by rw [HEX.out, HME.out]; exact HLA.out.pushV hgr hro5 hat), Lib.hid (HLA.out.rest HRV.out hgr HIA.out (by decide) (by decide) (by decide) 1 _), ?_, HLA.out.bel HRV.out hgr HBA.out 1 _, ?_⟩
      · rw [HEX.out]
        show stN (exMs s.ms FM) k = mk
        rw [exMs_old HKS.out]; exact HSM.out
      · rw [HEX.out]
        show k < (exMs s.ms FM).length
        rw [HME.out, List.length_append]
        have := HKS.out
        omega
      · rw [HEX.out]
        show (bys ++ [((k : Int), (t2 : Int), (N : Int))]).length = (exMs s.ms FM).length
        rw [HME.out, List.length_append, List.length_append, HBY.out]
        rfl
      · have := hgr.size
        rw [World.size_setCell]
        omega
    case measure => simp [intOf]; omega

end Go.Proofs.Ytigkgfdnnfmmmaa
