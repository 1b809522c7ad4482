/- PLAIN PART: blocks that may have changed (Stir); pairs of cells that may be written (PairBox). No program is named here.
   MARKS IN UNFOLDINGS: markConditionS writes them, heldConditionS finds them; of an unfolding with no events. -/
import Derived.Test.YtigkgfdnnfmmmaaGreatVPair
import Derived.Test.YtigkgfdnnfmmmaaGreatVUfe
namespace Go.Proofs.YtigkgfdnnfmmmaaGreat
open Go.RowKit

/-- the blocks from lo on, before hi, may have changed; of the others that were there none -/
structure Stir (lo hi : Nat) (w w' : World) : Prop where
  os : w'.os = w.os
  tape : w'.tape = w.tape
  output : w'.output = w.output
  size : w.heap.size ≤ w'.heap.size
  block : ∀ b, b < w.heap.size → (b < lo ∨ hi ≤ b) → w'.heap[b]? = w.heap[b]?
theorem Stir.of {w w' : World} (lo hi : Nat) (h : Below w.heap.size w w') : Stir lo hi w w' := ⟨h.os, h.tape, h.output, h.size, fun b hb _ => h.block b hb⟩
theorem Stir.refl (lo hi : Nat) (w : World) : Stir lo hi w w := Stir.of lo hi (Below.refl _ _)
theorem Stir.trans {lo hi : Nat} {a b c : World} (h : Stir lo hi a b) (k : Stir lo hi b c) : Stir lo hi a c :=
  ⟨k.os.trans h.os, k.tape.trans h.tape, k.output.trans h.output, Nat.le_trans h.size k.size, fun x hx hc => (k.block x (Nat.lt_of_lt_of_le hx h.size) hc).trans (h.block x hx hc)⟩
theorem Stir.wide {lo hi lo' hi' : Nat} {w w' : World} (h : Stir lo hi w w') (h1 : lo' ≤ lo) (h2 : hi ≤ hi') : Stir lo' hi' w w' :=
  ⟨h.os, h.tape, h.output, h.size, fun b hb hc => h.block b hb (by omega)⟩
theorem Stir.set {lo hi : Nat} {a w : World} (h : Stir lo hi a w) {p : Addr} (h1 : lo ≤ p.block) (h2 : p.block < hi) (u : Value) : Stir lo hi a (w.setCell p u) :=
  h.trans ⟨rfl, rfl, rfl, by simp, fun b _ hc => Below.heap_setCell _ _ _ _ (by omega)⟩
theorem Stir.cell {lo hi : Nat} {w w' : World} {a : Addr} {v : Value} (h : Stir lo hi w w') (ha : a.block < lo ∨ hi ≤ a.block) (hc : w.cell? a = some v) : w'.cell? a = some v :=
  (World.cell?_of_block (h.block a.block (cell_old hc) ha)).trans hc
theorem Stir.frozen {lo hi : Nat} {w w' : World} {a : Addr} (h : Stir lo hi w w') (ha : a.block < lo ∨ hi ≤ a.block) (hb : a.block < w.heap.size) : w'.frozen? a = w.frozen? a :=
  World.frozen?_of_block (h.block a.block hb ha)
theorem Stir.below {lo hi B : Nat} {a w w' : World} (h : Stir lo hi w w') (hb : Below B a w) (hB : B ≤ lo) (hB2 : B ≤ w.heap.size) : Below B a w' :=
  hb.trans ⟨h.os, h.tape, h.output, h.size, fun k hk => h.block k (Nat.lt_of_lt_of_le hk hB2) (Or.inl (by omega))⟩

/-- n pairs of cells that may be written, in a block from lo on, before hi -/
def PairBox (lo hi : Nat) (w : World) (v : Value) (n : Nat) : Prop :=
  ∃ (ao : Option Addr) (cap : Nat), v = .slice ao n cap ∧
    (n = 0 ∨ ∃ b off, ao = some ⟨b, off, none⟩ ∧ lo ≤ b ∧ b < hi ∧ ∀ i, i < n * 2 → (∃ u, w.cell? ⟨b, off + i, none⟩ = some u) ∧ w.frozen? ⟨b, off + i, none⟩ = false)
theorem PairBox.form {lo hi : Nat} {w : World} {v : Value} {n : Nat} (h : PairBox lo hi w v n) : ∃ a c, v = .slice a n c := by
  obtain ⟨a, c, rfl, _⟩ := h
  exact ⟨a, c, rfl⟩
theorem PairBox.stir {lo hi l k : Nat} {w w' : World} {v : Value} {n : Nat} (h : PairBox lo hi w v n) (hs : Stir l k w w') (hc : hi ≤ l ∨ k ≤ lo) : PairBox lo hi w' v n := by
  obtain ⟨ao, cap, hv, hz⟩ := h
  refine ⟨ao, cap, hv, ?_⟩
  rcases hz with hz | ⟨b, off, ha, h1, h2, hcell⟩
  · exact Or.inl hz
  · refine Or.inr ⟨b, off, ha, h1, h2, fun i hi => ?_⟩
    obtain ⟨⟨u, hu⟩, hf⟩ := hcell i hi
    have hb := cell_old hu
    exact ⟨⟨u, hs.cell (by simp; omega) hu⟩, (hs.frozen (by simp; omega) hb).trans hf⟩

theorem PairRow.box {b : Nat} {t : TypeId} {w : World} {n : Nat} {x y : Nat → Value} (h : PairRow b t w n n x y) : PairBox b (b + 1) w (.slice (some ⟨b, 0, none⟩) n n) n := by
  obtain ⟨f, hr, _⟩ := h
  refine ⟨_, _, rfl, Or.inr ⟨b, 0, rfl, Nat.le_refl _, Nat.lt_succ_self _, fun i hi => ⟨⟨f i, ?_⟩, ?_⟩⟩⟩
  · rw [Nat.zero_add]; exact hr.cell hi
  · exact hr.frozen _
theorem PairBox.wide {lo hi lo' hi' : Nat} {w : World} {v : Value} {n : Nat} (h : PairBox lo hi w v n) (h1 : lo' ≤ lo) (h2 : hi ≤ hi') : PairBox lo' hi' w v n := by
  obtain ⟨ao, cap, hv, hz⟩ := h
  refine ⟨ao, cap, hv, ?_⟩
  rcases hz with hz | ⟨b, off, ha, q1, q2, hcell⟩
  · exact Or.inl hz
  · exact Or.inr ⟨b, off, ha, by omega, by omega, hcell⟩
theorem PairBox.after {lo hi : Nat} {w w' : World} {v : Value} {n : Nat} (h : PairBox lo hi w v n) (hb : Below w.heap.size w w') : PairBox lo hi w' v n := h.stir (Stir.of 0 0 hb) (Or.inr (Nat.zero_le _))
theorem PairBox.set {lo hi : Nat} {w : World} {v : Value} {n : Nat} (h : PairBox lo hi w v n) (p : Addr) (u : Value) : PairBox lo hi (w.setCell p u) v n := by
  obtain ⟨ao, cap, hv, hz⟩ := h
  refine ⟨ao, cap, hv, ?_⟩
  rcases hz with hz | ⟨b, off, ha, q1, q2, hcell⟩
  · exact Or.inl hz
  · refine Or.inr ⟨b, off, ha, q1, q2, fun i hi => ?_⟩
    obtain ⟨⟨z, hu⟩, hf⟩ := hcell i hi
    refine ⟨?_, (World.frozen?_setCell _ _ _ _).trans hf⟩
    by_cases e : p = ⟨b, off + i, none⟩
    · subst e; exact ⟨u, World.cell?_setCell_same _ _ _ hu⟩
    · exact ⟨z, (World.cell?_setCell_other _ _ _ _ e).trans hu⟩



end Go.Proofs.YtigkgfdnnfmmmaaGreat

namespace Go.Proofs.YtigkgfdnnfmmmaaGreat
open Go.RowKit

/-- what the conditions hold behind the marks from k on -/
def markedCnds (k : Int) (n : Nat) : List Cnd := (List.range n).map fun (i : Nat) => (k + 2 * (i : Int), k + 2 * (i : Int) + 1)
theorem markedCnds_length (k : Int) (n : Nat) : (markedCnds k n).length = n := by simp [markedCnds]
theorem markedCnds_S {k : Int} {n i : Nat} (h : i < n) : cnP (markedCnds k n) i = k + 2 * (i : Int) := by simp [markedCnds, cnP, List.getD, h]
theorem markedCnds_U {k : Int} {n i : Nat} (h : i < n) : cnB (markedCnds k n) i = k + 2 * (i : Int) + 1 := by simp [markedCnds, cnB, List.getD, h]

set_option maxRecDepth 100000 in
set_option maxHeartbeats 1000000 in
theorem markConditionS_at (v : Value) (n : Nat) (k : Int) (w : World) (lo hi : Nat) (hv : PairBox lo hi w v n) (hc : ∃ ao cap, v = .slice ao n cap ∧ n ≤ cap) (hn : n ≤ 1048576) (h0 : 0 ≤ k) (h1 : k ≤ 109951162777600) :
    Calls Tryz.prog 43 #[v, .int .i64 k] w (fun e w' => e = .returned (.int .i64 (k + 2 * (n : Int))) ∧ Stir lo hi w w' ∧ CndsAt lo w' v (markedCnds k n)) := by
  obtain ⟨ao, cap, rfl, hcap⟩ := hc
  have HB := Lib.hid hv; clear hv
  go_enter Tryz.func43, Tryz.ntmps43
  go_wp2_with fail
  go_loopw [1, 5] (fun kv i wr => ∃ j : Nat, j ≤ n ∧ i = .int .i64 j ∧ kv = .int .i64 (k + 2 * (j : Int)) ∧ Stir lo hi w wr ∧ Hid (PairBox lo hi wr (.slice ao n cap) n) ∧ Hid (∀ b off, ao = some ⟨b, off, none⟩ → ∀ q, q < j → wr.cell? ⟨b, off + q * 2, none⟩ = some (.int .i64 (cnP (markedCnds k n) q)) ∧ wr.cell? ⟨b, off + q * 2 + 1, none⟩ = some (.int .i64 (cnB (markedCnds k n) q)))) (fun _ i _ => n - (intOf i).toNat)
  case atStart => exact ⟨0, Nat.zero_le _, rfl, by simp, Stir.refl _ _ _, HB.out, fun _ _ _ q hq => absurd hq (Nat.not_lt_zero _)⟩
  case round =>
    obtain ⟨j, hj, rfl, rfl, hm, hbox, hex⟩ := hrel
    by_cases hlt : j < n
    · obtain ⟨a, c, e, hz⟩ := id hbox.out
      simp only [Value.slice.injEq, true_and] at e
      obtain ⟨rfl, rfl⟩ := e
      rcases hz with h | ⟨b, off, rfl, hlo, hhi, hcell⟩
      · omega
      obtain ⟨⟨u0, c0⟩, f0⟩ := hcell (j * 2) (by omega)
      obtain ⟨⟨u1, c1⟩, f1⟩ := hcell (j * 2 + 1) (by omega)
      rw [← Nat.add_assoc] at c1 f1
      clear hcell
      have HM3 := Lib.hid (fun (u : Value) => (hm.set (p := ⟨b, off + j * 2, none⟩) hlo hhi (.int .i64 (k + 2 * (j : Int)))).set (p := ⟨b, off + j * 2 + 1, none⟩) hlo hhi u)
      have HB3 := Lib.hid (fun (u : Value) => (hbox.out.set ⟨b, off + j * 2, none⟩ (.int .i64 (k + 2 * (j : Int)))).set ⟨b, off + j * 2 + 1, none⟩ u)
      have HE3 : Hid (∀ u, u = k + 2 * (j : Int) + 1 → ∀ b' off', some (⟨b, off, none⟩ : Addr) = some ⟨b', off', none⟩ → ∀ q, q < j + 1 → ((wr.setCell ⟨b, off + j * 2, none⟩ (.int .i64 (k + 2 * (j : Int)))).setCell ⟨b, off + j * 2 + 1, none⟩ (.int .i64 u)).cell? ⟨b', off' + q * 2, none⟩ = some (.int .i64 (cnP (markedCnds k n) q)) ∧ ((wr.setCell ⟨b, off + j * 2, none⟩ (.int .i64 (k + 2 * (j : Int)))).setCell ⟨b, off + j * 2 + 1, none⟩ (.int .i64 u)).cell? ⟨b', off' + q * 2 + 1, none⟩ = some (.int .i64 (cnB (markedCnds k n) q))) := by
        intro u hu b' off' he q hq
        obtain ⟨rfl, rfl⟩ : b = b' ∧ off = off' := by simpa using he
        have m1 : (wr.setCell ⟨b, off + j * 2, none⟩ (.int .i64 (k + 2 * (j : Int)))).cell? ⟨b, off + j * 2 + 1, none⟩ = some u1 := (World.cell?_setCell_other _ _ _ _ (by intro h; injection h with h1 h2 h3; omega)).trans c1
        by_cases e : q = j
        · subst e
          rw [markedCnds_S hlt, markedCnds_U hlt, ← hu]
          exact ⟨(World.cell?_setCell_other _ _ _ _ (by intro h; injection h with h1 h2 h3; omega)).trans (World.cell?_setCell_same _ _ _ c0), World.cell?_setCell_same _ _ _ m1⟩
        · obtain ⟨q0, q1⟩ := hex.out b off rfl q (by omega)
          exact ⟨(World.cell?_setCell_other _ _ _ _ (by intro h; injection h with h1 h2 h3; omega)).trans ((World.cell?_setCell_other _ _ _ _ (by intro h; injection h with h1 h2 h3; omega)).trans q0),
            (World.cell?_setCell_other _ _ _ _ (by intro h; injection h with h1 h2 h3; omega)).trans ((World.cell?_setCell_other _ _ _ _ (by intro h; injection h with h1 h2 h3; omega)).trans q1)⟩
      clear hm hbox hex
      go_wp2_with fail
      go_roundw
      case rel =>
        exact ⟨j + 1, by omega, by go_num, by simp; omega, HM3.out _, HB3.out _, HE3.out _ rfl⟩
      case measure => simp [intOf]; omega
    · have hjj : j = n := by omega
      subst hjj
      have HX := Lib.hid hex.out; clear hex
      have HBB := Lib.hid hbox.out; clear hbox
      go_wp2_with fail
      go_ret
      refine ⟨rfl, hm, ao, cap, by rw [markedCnds_length], by rw [markedCnds_length]; exact hcap, ?_⟩
      rw [markedCnds_length]
      obtain ⟨a, c, e, hz⟩ := HBB.out
      simp only [Value.slice.injEq, true_and] at e
      obtain ⟨rfl, rfl⟩ := e
      rcases hz with h | ⟨b, off, rfl, hlo, hhi, _⟩
      · exact Or.inl h
      · exact Or.inr ⟨b, off, rfl, hlo, fun i hi => HX.out b off rfl i hi⟩

set_option maxRecDepth 100000 in
set_option maxHeartbeats 1000000 in
theorem heldConditionS_any (v : Value) (n : Nat) (k : Int) (w : World) (lo : Nat) (hv : CndsAt lo w v (markedCnds k n)) (hn : n ≤ 1048576) (h0 : 0 ≤ k) (h1 : k ≤ 109951162777600) :
    Calls Tryz.prog 46 #[v, .int .i64 k] w (RetV w (.int .i64 (k + 2 * (n : Int)))) := by
  obtain ⟨ao, cap, rfl, hc, hz⟩ := hv
  rw [markedCnds_length] at hz hc ⊢
  have HF := Lib.hid hz; clear hz hc
  go_enter Tryz.func46, Tryz.ntmps46
  go_wp2_with fail
  go_loopw [1, 5] (fun kv i wr => ∃ j : Nat, j ≤ n ∧ i = .int .i64 j ∧ kv = .int .i64 (k + 2 * (j : Int)) ∧ Below w.heap.size w wr) (fun _ i _ => n - (intOf i).toNat)
  case atStart => exact ⟨0, Nat.zero_le _, rfl, by simp, Below.refl _ _⟩
  case round =>
    obtain ⟨j, hj, rfl, rfl, hb1⟩ := hrel
    by_cases hlt : j < n
    · rcases HF.out with h | ⟨b, off, rfl, hlo, hcell⟩
      · omega
      obtain ⟨c0, c1⟩ := hcell j hlt
      try dsimp only at c0 c1
      rw [markedCnds_S hlt] at c0
      rw [markedCnds_U hlt] at c1
      have d0 := Carries.of lo hb1 _ _ hlo c0
      have d1 := Carries.of lo hb1 _ _ hlo c1
      clear hcell c0 c1
      have hne : (k + 2 * (j : Int) != k + 2 * (j : Int)) = false := by simp
      go_wp2_with fail
      go_roundw
      case rel => exact ⟨j + 1, by omega, by go_num, by simp; omega, by first | exact hb1 | exact below_drewN hb1 _ | exact hb1.drew⟩
      case measure => simp [intOf]; omega
    · have hjj : j = n := by omega
      subst hjj
      go_wp2_with fail
      go_ret
      exact ⟨rfl, hb1⟩


set_option maxHeartbeats 400000 in
theorem markEventS_nil (a : Option Addr) (c : Nat) (k : Int) (w : World) :
    Calls Tryz.prog 44 #[.slice a 0 c, .int .i64 k] w (RetV w (.int .i64 k)) := by
  go_enter Tryz.func44, Tryz.ntmps44
  go_wp2
  go_rounds 1
  go_ret
  exact ⟨rfl, Below.refl _ _⟩
set_option maxHeartbeats 400000 in
theorem heldEventS_nil (a : Option Addr) (c : Nat) (k : Int) (w : World) :
    Calls Tryz.prog 47 #[.slice a 0 c, .int .i64 k] w (RetV w (.int .i64 k)) := by
  go_enter Tryz.func47, Tryz.ntmps47
  go_wp2
  go_rounds 1
  go_ret
  exact ⟨rfl, Below.refl _ _⟩

end Go.Proofs.YtigkgfdnnfmmmaaGreat
