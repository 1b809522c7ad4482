/- BOXES of cells that may be written; WALKS: markStringS, toStringS once more.
   PLAIN PART: three cells in a row are written. No program is named here. -/
import Derived.Test.YtgmnknlnlmcmfaaVMtext
import Derived.Test.YtgmnknlnlmcmfaaVNetb
import Derived.Test.YtgmnknlnlmcmfaaVApb
import Derived.Test.YtgmnknlnlmcmfaaVNetd
namespace Go.Proofs.Ytgmnknlnlmcmfaa
open Go.RowKit

/-- n elements of sz cells each that may be written, in a block from lo on, before hi -/
def CellBox (lo hi : Nat) (w : World) (v : Value) (n sz : Nat) : Prop :=
  ∃ (ao : Option Addr) (cap : Nat), v = .slice ao n cap ∧
    (n = 0 ∨ ∃ b off, ao = some ⟨b, off, none⟩ ∧ lo ≤ b ∧ b < hi ∧ ∀ i, i < n * sz → (∃ u, w.cell? ⟨b, off + i, none⟩ = some u) ∧ w.frozen? ⟨b, off + i, none⟩ = false)
theorem CellBox.form {lo hi : Nat} {w : World} {v : Value} {n sz : Nat} (h : CellBox lo hi w v n sz) : ∃ a c, v = .slice a n c := by
  obtain ⟨a, c, rfl, _⟩ := h
  exact ⟨a, c, rfl⟩
theorem CellBox.stir {lo hi l k : Nat} {w w' : World} {v : Value} {n sz : Nat} (h : CellBox lo hi w v n sz) (hs : Stir l k w w') (hc : hi ≤ l ∨ k ≤ lo) : CellBox lo hi w' v n sz := by
  obtain ⟨ao, cap, hv, hz⟩ := h
  refine ⟨ao, cap, hv, ?_⟩
  rcases hz with hz | ⟨b, off, ha, h1, h2, hcell⟩
  · exact Or.inl hz
  · refine Or.inr ⟨b, off, ha, h1, h2, fun i hi => ?_⟩
    obtain ⟨⟨u, hu⟩, hf⟩ := hcell i hi
    have hb := cell_old hu
    exact ⟨⟨u, hs.cell (by simp; omega) hu⟩, (hs.frozen (by simp; omega) hb).trans hf⟩
theorem CellBox.wide {lo hi lo' hi' : Nat} {w : World} {v : Value} {n sz : Nat} (h : CellBox lo hi w v n sz) (h1 : lo' ≤ lo) (h2 : hi ≤ hi') : CellBox lo' hi' w v n sz := by
  obtain ⟨ao, cap, hv, hz⟩ := h
  refine ⟨ao, cap, hv, ?_⟩
  rcases hz with hz | ⟨b, off, ha, q1, q2, hcell⟩
  · exact Or.inl hz
  · exact Or.inr ⟨b, off, ha, by omega, by omega, hcell⟩
theorem CellBox.after {lo hi : Nat} {w w' : World} {v : Value} {n sz : Nat} (h : CellBox lo hi w v n sz) (hb : Below w.heap.size w w') : CellBox lo hi w' v n sz := h.stir (Stir.of 0 0 hb) (Or.inr (Nat.zero_le _))
theorem CellBox.same {lo hi B : Nat} {w w' : World} {v : Value} {n sz : Nat} (h : CellBox lo hi w v n sz) (hs : Same B w w') (hB : B ≤ lo) : CellBox lo hi w' v n sz := by
  obtain ⟨ao, cap, hv, hz⟩ := h
  refine ⟨ao, cap, hv, ?_⟩
  rcases hz with hz | ⟨b, off, ha, q1, q2, hcell⟩
  · exact Or.inl hz
  · refine Or.inr ⟨b, off, ha, q1, q2, fun i hi => ?_⟩
    obtain ⟨⟨u, hu⟩, hf⟩ := hcell i hi
    have he := hs.2 b (by omega) (by have := cell_old hu; simpa using this)
    exact ⟨⟨u, (World.cell?_of_block (w := w) (w' := w') (a := ⟨b, off + i, none⟩) he).trans hu⟩, (World.frozen?_of_block (w := w) (w' := w') (a := ⟨b, off + i, none⟩) he).trans hf⟩
theorem CellBox.set {lo hi : Nat} {w : World} {v : Value} {n sz : Nat} (h : CellBox lo hi w v n sz) (p : Addr) (u : Value) : CellBox lo hi (w.setCell p u) v n sz := by
  obtain ⟨ao, cap, hv, hz⟩ := h
  refine ⟨ao, cap, hv, ?_⟩
  rcases hz with hz | ⟨b, off, ha, q1, q2, hcell⟩
  · exact Or.inl hz
  · refine Or.inr ⟨b, off, ha, q1, q2, fun i hi => ?_⟩
    obtain ⟨⟨z, hu⟩, hf⟩ := hcell i hi
    refine ⟨?_, (World.frozen?_setCell _ _ _ _).trans hf⟩
    by_cases e : p = ⟨b, off + i, none⟩
    · subst e; exact ⟨u, World.cell?_setCell_same _ _ _ hu⟩
    · exact ⟨z, (World.cell?_setCell_other _ _ _ _ e).trans hu⟩

set_option maxHeartbeats 1000000 in
theorem markStringS_any (v : Value) (n : Nat) (k : Int) (w : World) (lo hi : Nat) (hv : CellBox lo hi w v n 1) (hn : n ≤ 1048576) (h0 : 0 ≤ k) (h1 : k ≤ 109951162777600) :
    Calls Try.prog 65 #[v, .int .i64 k] w (fun e w' => e = .returned (.int .i64 (k + (n : Int))) ∧ Stir lo hi w w') := by
  obtain ⟨ao, cap, rfl⟩ := hv.form
  have HB := Lib.hid hv; clear hv
  go_enter Try.func65, Try.ntmps65
  go_wp2_with fail
  go_loopw [1, 5] (fun kv i wr => ∃ j : Nat, j ≤ n ∧ i = .int .i64 j ∧ kv = .int .i64 (k + (j : Int)) ∧ Stir lo hi w wr ∧ Hid (CellBox lo hi wr (.slice ao n cap) n 1)) (fun _ i _ => n - (intOf i).toNat)
  case atStart => exact ⟨0, Nat.zero_le _, rfl, by simp, Stir.refl _ _ _, HB.out⟩
  case round =>
    obtain ⟨j, hj, rfl, rfl, hm, hbox⟩ := hrel
    by_cases hlt : j < n
    · obtain ⟨a, c, e, hz⟩ := id hbox.out
      simp only [Value.slice.injEq, true_and] at e
      obtain ⟨rfl, rfl⟩ := e
      rcases hz with h | ⟨b, off, rfl, hlo, hhi, hcell⟩
      · omega
      obtain ⟨⟨u0, c0⟩, f0⟩ := hcell j (by omega)
      clear hcell
      have hb00 : b < wr.heap.size := cell_old c0
      go_wp2_with fail
      refine (markText_any _ _ (by omega) (by omega)).mono ?_
      rintro e w1 ⟨s, rfl, hb⟩
      have c0 := cell_carry c0 (Carries.of 0 hb)
      have f0 := (hb.frozen (p := ⟨b, off + j, none⟩) hb00).trans f0
      have HM3 := Lib.hid ((hm.trans (Stir.of lo hi hb)).set (p := ⟨b, off + j, none⟩) hlo hhi (.string s))
      have HB3 := Lib.hid ((hbox.out.after hb).set ⟨b, off + j, none⟩ (.string s))
      clear hm hbox hb
      go_wp2_with fail
      go_roundw
      case rel => exact ⟨j + 1, by omega, by go_num, by simp; omega, HM3.out, HB3.out⟩
      case measure => simp [intOf]; omega
    · have hjj : j = n := by omega
      subst hjj
      go_wp2_with fail
      go_ret
      exact ⟨rfl, hm⟩

set_option maxHeartbeats 400000 in
theorem toStringS_row (v : Value) (zs : List ByteArray) (w : World) (lo : Nat) (hv : TextsAt lo w v zs) (hn : zs.length ≤ 1048576) :
    Calls Try.prog 57 #[v] w (fun e w' => ∃ b, e = .returned (.slice (some ⟨b, 0, none⟩) zs.length zs.length) ∧ w.heap.size ≤ b ∧ b < w'.heap.size ∧ w'.rowIs b 9 zs.length (scopied zs zs.length) ∧ Below w.heap.size w w') := by
  obtain ⟨ao, cap, rfl, hc, hz⟩ := hv
  have hmk := run_make_row' (P := Try.prog) 23 9 (.string ByteArray.empty) 16 Try.underlying23 Try.infoStr rfl .i64 .i64 zs.length (by omega) (by omega)
  have HF := Lib.hid hz; clear hz
  go_enter Try.func57, Try.ntmps57
  go_wp2
  go_loopw [4] (fun i wr => ∃ k : Nat, k ≤ zs.length ∧ i = .int .i64 k ∧ wr.rowIs w.heap.size 9 zs.length (scopied zs k) ∧ Below w.heap.size w wr ∧ w.heap.size < wr.heap.size) (fun i _ => zs.length - (intOf i).toNat)
  case atStart => exact ⟨0, Nat.zero_le _, rfl, (World.rowIs_made _ _ _ _).congr (fun i _ => by simp [scopied]), (Below.refl _ _).alloc (Nat.le_refl _) _, by simp⟩
  case round =>
    obtain ⟨k, hk, rfl, hrow, hb1, hz1⟩ := hrel
    by_cases hlt : k < zs.length
    · rcases HF.out with h0 | ⟨b, off, rfl, _, hcell⟩
      · omega
      have c1 := cell_keep (hcell k hlt) hb1 (Nat.le_refl _)
      have c2 := hrow.cell hlt
      have f2 := hrow.frozen k
      clear hcell
      go_wp2
      have h3 := hrow.set k (.string (stN zs k))
      rw [scopied_step] at h3
      have h4 := hb1.setCell (p := ⟨w.heap.size, k, none⟩) (Nat.le_refl _) (.string (stN zs k))
      go_roundw
      case rel => exact ⟨k + 1, by omega, by go_num, h3, h4, by simpa using hz1⟩
      case measure => simp [intOf]; omega
    · have hkk : k = zs.length := by omega
      subst hkk
      have HR := Lib.hid hrow; clear hrow
      go_wp2
      go_ret
      exact ⟨_, rfl, Nat.le_refl _, hz1, HR.out, hb1⟩

theorem row_box {b : Nat} {t : TypeId} {w : World} {n m sz : Nat} {f : Nat → Value} (h : w.rowIs b t m f) (hm : m = n * sz) : CellBox b (b + 1) w (.slice (some ⟨b, 0, none⟩) n n) n sz := by
  refine ⟨_, _, rfl, Or.inr ⟨b, 0, rfl, Nat.le_refl _, Nat.lt_succ_self _, fun i hi => ⟨⟨f i, ?_⟩, ?_⟩⟩⟩
  · rw [Nat.zero_add]; exact h.cell (by omega)
  · exact h.frozen _

end Go.Proofs.Ytgmnknlnlmcmfaa

namespace Go.Proofs.Ytgmnknlnlmcmfaa
open Go.RowKit

theorem trip_put {w : World} {b c : Nat} {u0 u1 u2 : Value} (v0 v1 v2 : Value) (c0 : w.cell? ⟨b, c, none⟩ = some u0) (c1 : w.cell? ⟨b, c + 1, none⟩ = some u1) (c2 : w.cell? ⟨b, c + 2, none⟩ = some u2) :
    (((w.setCell ⟨b, c, none⟩ v0).setCell ⟨b, c + 1, none⟩ v1).setCell ⟨b, c + 2, none⟩ v2).cell? ⟨b, c, none⟩ = some v0 ∧
    (((w.setCell ⟨b, c, none⟩ v0).setCell ⟨b, c + 1, none⟩ v1).setCell ⟨b, c + 2, none⟩ v2).cell? ⟨b, c + 1, none⟩ = some v1 ∧
    (((w.setCell ⟨b, c, none⟩ v0).setCell ⟨b, c + 1, none⟩ v1).setCell ⟨b, c + 2, none⟩ v2).cell? ⟨b, c + 2, none⟩ = some v2 ∧
    ∀ i v, i ≠ c → i ≠ c + 1 → i ≠ c + 2 → w.cell? ⟨b, i, none⟩ = some v → (((w.setCell ⟨b, c, none⟩ v0).setCell ⟨b, c + 1, none⟩ v1).setCell ⟨b, c + 2, none⟩ v2).cell? ⟨b, i, none⟩ = some v := by
  have far : ∀ {i i' : Nat}, i ≠ i' → (⟨b, i, none⟩ : Addr) ≠ ⟨b, i', none⟩ := fun h e => h (by injection e)
  have s1 : (w.setCell ⟨b, c, none⟩ v0).cell? ⟨b, c, none⟩ = some v0 := World.cell?_setCell_same _ _ _ c0
  have s2 : (w.setCell ⟨b, c, none⟩ v0).cell? ⟨b, c + 1, none⟩ = some u1 := by rw [World.cell?_setCell_other _ _ _ _ (far (by omega))]; exact c1
  have s3 : (w.setCell ⟨b, c, none⟩ v0).cell? ⟨b, c + 2, none⟩ = some u2 := by rw [World.cell?_setCell_other _ _ _ _ (far (by omega))]; exact c2
  have r1 : ((w.setCell ⟨b, c, none⟩ v0).setCell ⟨b, c + 1, none⟩ v1).cell? ⟨b, c, none⟩ = some v0 := by rw [World.cell?_setCell_other _ _ _ _ (far (by omega))]; exact s1
  have r2 : ((w.setCell ⟨b, c, none⟩ v0).setCell ⟨b, c + 1, none⟩ v1).cell? ⟨b, c + 1, none⟩ = some v1 := World.cell?_setCell_same _ _ _ s2
  have r3 : ((w.setCell ⟨b, c, none⟩ v0).setCell ⟨b, c + 1, none⟩ v1).cell? ⟨b, c + 2, none⟩ = some u2 := by rw [World.cell?_setCell_other _ _ _ _ (far (by omega))]; exact s3
  refine ⟨?_, ?_, World.cell?_setCell_same _ _ _ r3, fun i v h1 h2 h3 h => ?_⟩
  · rw [World.cell?_setCell_other _ _ _ _ (far (by omega))]; exact r1
  · rw [World.cell?_setCell_other _ _ _ _ (far (by omega))]; exact r2
  · rw [World.cell?_setCell_other _ _ _ _ (far (fun e => h3 e.symm)), World.cell?_setCell_other _ _ _ _ (far (fun e => h2 e.symm)), World.cell?_setCell_other _ _ _ _ (far (fun e => h1 e.symm))]; exact h

end Go.Proofs.Ytgmnknlnlmcmfaa
