/- WALK: markText answers some string. What may be stirred: blocks from lo on, before hi.
   WALKS: toStringS of the laws; make of moves.
   BOXES of cells that may be written; WALKS: markStringS, toStringS once more.
   PLAIN PART: three cells in a row are written. No program is named here. -/
import Derived.Test.YtigkgfdnnfmmmaaVSep
import Derived.Test.YtigkgfdnnfmmmaaVSiga
import Derived.Test.YtigkgfdnnfmmmaaVStga
import Derived.Laws.BytesString
import Derived.Test.YtigkgfdnnfmmmaaVRgp
import Derived.Test.YtigkgfdnnfmmmaaVWrm
import Derived.Test.YtigkgfdnnfmmmaaVInts
namespace Go.Proofs.Ytigkgfdnnfmmmaa
open Go.RowKit

theorem conv_one (w : World) (e : TypeId) (z : Int) : (convert 154 9 (.slice (some ⟨w.heap.size, 0, none⟩) 1 1)).run Try.prog (w.alloc (.cells #[.int .u8 z] e)) = .ok (.string (ByteArray.empty.push (UInt8.ofNat z.toNat))) (w.alloc (.cells #[.int .u8 z] e)) := by
  rw [run_convert_bytes_string _ 154 9 5 _ _ _ Try.underlying154 Try.underlying5 Try.underlying9]
  have hl := run_loadCells_list (P := Try.prog) (w.alloc (.cells #[.int .u8 z] e)) ⟨w.heap.size, 0, none⟩ [.int .u8 z] (fun j v hv => by
    match j, hv with
    | 0, hv => simp only [List.getElem?_cons_zero, Option.some.injEq] at hv; subst hv; simp [Addr.add]
    | (j + 1), hv => simp at hv)
  exact run_bytesToString _ ⟨w.heap.size, 0, none⟩ 1 1 [z] hl

set_option maxHeartbeats 1000000 in
theorem markText_any (k : Int) (w : World) (h0 : 0 ≤ k) (h1 : k ≤ 1099511627776000) :
    Calls Try.prog 69 #[.int .i64 k] w (fun e w' => ∃ s, e = .returned (.string s) ∧ Below w.heap.size w w') := by
  have kc := conv_one
  go_enter Try.func69, Try.ntmps69
  by_cases hk : k ≤ 0
  · go_wp2_with fail
    go_ret
    exact ⟨_, rfl, Below.refl _ _⟩
  go_wp2_with fail
  go_loopw [0, 3] (fun nv sv wr => ∃ (x : Int) (s : ByteArray), 0 ≤ x ∧ (s.size : Int) + x ≤ k ∧ nv = .int .i64 x ∧ sv = .string s ∧ Below w.heap.size w wr) (fun nv _ _ => (intOf nv).toNat)
  case atStart => exact ⟨k, ByteArray.empty, h0, by show ((0 : Nat) : Int) + k ≤ k; omega, rfl, rfl, Below.refl _ _⟩
  case round =>
    obtain ⟨x, s, hx0, hx1, rfl, rfl, hb1⟩ := hrel
    have zz1 := hb1.size
    by_cases hlt : 0 < x
    · have e1 : x.tdiv 10 = x / 10 := Int.tdiv_eq_ediv_of_nonneg hx0
      have e2 : x.tmod 10 = x % 10 := Int.tmod_eq_emod_of_nonneg hx0
      have q0 : 0 ≤ x / 10 := by omega
      have q1 : x / 10 ≤ x := by omega
      have q2 : x / 10 < x := by omega
      have r0 : 0 ≤ x % 10 := by omega
      have r1 : x % 10 ≤ 9 := by omega
      have hsz : (ByteArray.empty.push (UInt8.ofNat (48 + x % 10).toNat) ++ s).size = 1 + s.size := by rw [ByteArray.size_append]; rfl
      have hsz2 : (ByteArray.empty.push (UInt8.ofNat (48 + x % 10).toNat)).size = 1 := rfl
      go_wp2_with fail
      go_roundw
      case rel => exact ⟨x / 10, _, q0, by rw [hsz]; omega, by go_num, rfl, by (repeat' (first | (with_reducible exact Below.refl _ _) | (with_reducible assumption) | (with_reducible refine Below.alloc ?_ ?_ _) | (with_reducible refine Below.drew ?_) | (with_reducible refine below_drewN ?_ _) | (with_reducible refine Below.setCell ?_ ?_ _) | go_size))⟩
      case measure => simp [intOf]; omega
    · have hsz3 : (s.size : Int) ≤ k := by omega
      go_wp2_with fail
      go_ret
      first
        | exact ⟨_, rfl, hb1⟩
        | exact ⟨⟨_, rfl⟩, hb1⟩

theorem Marks.stir {lo hi : Nat} {w w' : World} (h : Marks lo hi w w') : Stir lo hi w w' := ⟨h.os, h.tape, h.output, by rw [h.size]; exact Nat.le_refl _, fun b _ hc => h.block b hc⟩

end Go.Proofs.Ytigkgfdnnfmmmaa

namespace Go.Proofs.Ytigkgfdnnfmmmaa
open Go.RowKit

theorem Try.infoStr : (Try.prog.info? 9).map (fun i => (i.zero, i.size, i.bytes)) = some (some (.string ByteArray.empty), 1, 16) := by kernel_rfl
theorem Try.infoMv : (Try.prog.info? 93).map (fun i => (i.zero, i.size, i.bytes)) = some (some (.agg #[.int .i64 0, .int .i64 0, .int .i64 0]), 3, 24) := by kernel_rfl

theorem run_make_moves (n : Nat) (hn : n ≤ 1048576) (w : World) :
    (Instr.makeSlice 31 (.int .i64 (n : Int)) (.int .i64 (n : Int))).run Try.prog w = .ok (.slice (some ⟨w.heap.size, 0, none⟩) n n) (w.alloc (.cells (madeCells #[.int .i64 0, .int .i64 0, .int .i64 0] (n * 3)) 93)) := by
  obtain ⟨i, hi, hzz⟩ := Option.map_eq_some_iff.1 Try.infoMv
  simp only [Prod.mk.injEq] at hzz
  obtain ⟨hz, hs, hb⟩ := hzz
  have hr := run_make (P := Try.prog) w 31 93 i _ Try.underlying31 hi hz .i64 .i64 n n (by omega) (Int.le_refl _) (by rw [hb]; omega) (by omega)
  rw [hs] at hr
  exact hr

end Go.Proofs.Ytigkgfdnnfmmmaa

namespace Go.Proofs.Ytigkgfdnnfmmmaa
open Go.RowKit

/-- n elements of sz cells each that may be written, in a block from lo on, before hi -/
def CellBox (lo hi : Nat) (w : World) (v : Value) (n sz : Nat) : Prop :=
  ∃ (ao : Option Addr) (cap : Nat), v = .slice ao n cap ∧
    (n = 0 ∨ ∃ b off, ao = some ⟨b, off, none⟩ ∧ lo ≤ b ∧ b < hi ∧ ∀ i, i < n * sz → (∃ u, w.cell? ⟨b, off + i, none⟩ = some u) ∧ w.frozen? ⟨b, off + i, none⟩ = false)
theorem CellBox.form {lo hi : Nat} {w : World} {v : Value} {n sz : Nat} (h : CellBox lo hi w v n sz) : ∃ a c, v = .slice a n c := by
  obtain ⟨a, c, rfl, _⟩ := h
  exact ⟨a, c, rfl⟩
theorem CellBox.stir {lo hi l k : Nat} {w w' : World} {v : Value} {n sz : Nat} (h : CellBox lo hi w v n sz) (hs : Stir l k w w') (hc : hi ≤ l ∨ k ≤ lo) : CellBox lo hi w' v n sz := by
  obtain ⟨ao, cap, hv, hz⟩ := h
  refine ⟨ao, cap, hv, ?_⟩
  rcases hz with hz | ⟨b, off, ha, h1, h2, hcell⟩
  · exact Or.inl hz
  · refine Or.inr ⟨b, off, ha, h1, h2, fun i hi => ?_⟩
    obtain ⟨⟨u, hu⟩, hf⟩ := hcell i hi
    have hb := cell_old hu
    exact ⟨⟨u, hs.cell (by simp; omega) hu⟩, (hs.frozen (by simp; omega) hb).trans hf⟩
theorem CellBox.wide {lo hi lo' hi' : Nat} {w : World} {v : Value} {n sz : Nat} (h : CellBox lo hi w v n sz) (h1 : lo' ≤ lo) (h2 : hi ≤ hi') : CellBox lo' hi' w v n sz := by
  obtain ⟨ao, cap, hv, hz⟩ := h
  refine ⟨ao, cap, hv, ?_⟩
  rcases hz with hz | ⟨b, off, ha, q1, q2, hcell⟩
  · exact Or.inl hz
  · exact Or.inr ⟨b, off, ha, by omega, by omega, hcell⟩
theorem CellBox.after {lo hi : Nat} {w w' : World} {v : Value} {n sz : Nat} (h : CellBox lo hi w v n sz) (hb : Below w.heap.size w w') : CellBox lo hi w' v n sz := h.stir (Stir.of 0 0 hb) (Or.inr (Nat.zero_le _))
theorem CellBox.same {lo hi B : Nat} {w w' : World} {v : Value} {n sz : Nat} (h : CellBox lo hi w v n sz) (hs : Same B w w') (hB : B ≤ lo) : CellBox lo hi w' v n sz := by
  obtain ⟨ao, cap, hv, hz⟩ := h
  refine ⟨ao, cap, hv, ?_⟩
  rcases hz with hz | ⟨b, off, ha, q1, q2, hcell⟩
  · exact Or.inl hz
  · refine Or.inr ⟨b, off, ha, q1, q2, fun i hi => ?_⟩
    obtain ⟨⟨u, hu⟩, hf⟩ := hcell i hi
    have he := hs.2 b (by omega) (by have := cell_old hu; simpa using this)
    exact ⟨⟨u, (World.cell?_of_block (w := w) (w' := w') (a := ⟨b, off + i, none⟩) he).trans hu⟩, (World.frozen?_of_block (w := w) (w' := w') (a := ⟨b, off + i, none⟩) he).trans hf⟩
theorem CellBox.set {lo hi : Nat} {w : World} {v : Value} {n sz : Nat} (h : CellBox lo hi w v n sz) (p : Addr) (u : Value) : CellBox lo hi (w.setCell p u) v n sz := by
  obtain ⟨ao, cap, hv, hz⟩ := h
  refine ⟨ao, cap, hv, ?_⟩
  rcases hz with hz | ⟨b, off, ha, q1, q2, hcell⟩
  · exact Or.inl hz
  · refine Or.inr ⟨b, off, ha, q1, q2, fun i hi => ?_⟩
    obtain ⟨⟨z, hu⟩, hf⟩ := hcell i hi
    refine ⟨?_, (World.frozen?_setCell _ _ _ _).trans hf⟩
    by_cases e : p = ⟨b, off + i, none⟩
    · subst e; exact ⟨u, World.cell?_setCell_same _ _ _ hu⟩
    · exact ⟨z, (World.cell?_setCell_other _ _ _ _ e).trans hu⟩

set_option maxHeartbeats 1000000 in
theorem markStringS_any (v : Value) (n : Nat) (k : Int) (w : World) (lo hi : Nat) (hv : CellBox lo hi w v n 1) (hn : n ≤ 1048576) (h0 : 0 ≤ k) (h1 : k ≤ 109951162777600) :
    Calls Try.prog 33 #[v, .int .i64 k] w (fun e w' => e = .returned (.int .i64 (k + (n : Int))) ∧ Stir lo hi w w') := by
  obtain ⟨ao, cap, rfl⟩ := hv.form
  have HB := Lib.hid hv; clear hv
  go_enter Try.func33, Try.ntmps33
  go_wp2_with fail
  go_loopw [1, 5] (fun kv i wr => ∃ j : Nat, j ≤ n ∧ i = .int .i64 j ∧ kv = .int .i64 (k + (j : Int)) ∧ Stir lo hi w wr ∧ Hid (CellBox lo hi wr (.slice ao n cap) n 1)) (fun _ i _ => n - (intOf i).toNat)
  case atStart => exact ⟨0, Nat.zero_le _, rfl, by simp, Stir.refl _ _ _, HB.out⟩
  case round =>
    obtain ⟨j, hj, rfl, rfl, hm, hbox⟩ := hrel
    by_cases hlt : j < n
    · obtain ⟨a, c, e, hz⟩ := id hbox.out
      simp only [Value.slice.injEq, true_and] at e
      obtain ⟨rfl, rfl⟩ := e
      rcases hz with h | ⟨b, off, rfl, hlo, hhi, hcell⟩
      · omega
      obtain ⟨⟨u0, c0⟩, f0⟩ := hcell j (by omega)
      clear hcell
      have hb00 : b < wr.heap.size := cell_old c0
      go_wp2_with fail
      refine (markText_any _ _ (by omega) (by omega)).mono ?_
      rintro e w1 ⟨s, rfl, hb⟩
      have c0 := cell_carry c0 (Carries.of 0 hb)
      have f0 := (hb.frozen (p := ⟨b, off + j, none⟩) hb00).trans f0
      have HM3 := Lib.hid ((hm.trans (Stir.of lo hi hb)).set (p := ⟨b, off + j, none⟩) hlo hhi (.string s))
      have HB3 := Lib.hid ((hbox.out.after hb).set ⟨b, off + j, none⟩ (.string s))
      clear hm hbox hb
      go_wp2_with fail
      go_roundw
      case rel => exact ⟨j + 1, by omega, by go_num, by simp; omega, HM3.out, HB3.out⟩
      case measure => simp [intOf]; omega
    · have hjj : j = n := by omega
      subst hjj
      go_wp2_with fail
      go_ret
      exact ⟨rfl, hm⟩

theorem row_box {b : Nat} {t : TypeId} {w : World} {n m sz : Nat} {f : Nat → Value} (h : w.rowIs b t m f) (hm : m = n * sz) : CellBox b (b + 1) w (.slice (some ⟨b, 0, none⟩) n n) n sz := by
  refine ⟨_, _, rfl, Or.inr ⟨b, 0, rfl, Nat.le_refl _, Nat.lt_succ_self _, fun i hi => ⟨⟨f i, ?_⟩, ?_⟩⟩⟩
  · rw [Nat.zero_add]; exact h.cell (by omega)
  · exact h.frozen _

end Go.Proofs.Ytigkgfdnnfmmmaa

namespace Go.Proofs.Ytigkgfdnnfmmmaa
open Go.RowKit

theorem trip_put {w : World} {b c : Nat} {u0 u1 u2 : Value} (v0 v1 v2 : Value) (c0 : w.cell? ⟨b, c, none⟩ = some u0) (c1 : w.cell? ⟨b, c + 1, none⟩ = some u1) (c2 : w.cell? ⟨b, c + 2, none⟩ = some u2) :
    (((w.setCell ⟨b, c, none⟩ v0).setCell ⟨b, c + 1, none⟩ v1).setCell ⟨b, c + 2, none⟩ v2).cell? ⟨b, c, none⟩ = some v0 ∧
    (((w.setCell ⟨b, c, none⟩ v0).setCell ⟨b, c + 1, none⟩ v1).setCell ⟨b, c + 2, none⟩ v2).cell? ⟨b, c + 1, none⟩ = some v1 ∧
    (((w.setCell ⟨b, c, none⟩ v0).setCell ⟨b, c + 1, none⟩ v1).setCell ⟨b, c + 2, none⟩ v2).cell? ⟨b, c + 2, none⟩ = some v2 ∧
    ∀ i v, i ≠ c → i ≠ c + 1 → i ≠ c + 2 → w.cell? ⟨b, i, none⟩ = some v → (((w.setCell ⟨b, c, none⟩ v0).setCell ⟨b, c + 1, none⟩ v1).setCell ⟨b, c + 2, none⟩ v2).cell? ⟨b, i, none⟩ = some v := by
  have far : ∀ {i i' : Nat}, i ≠ i' → (⟨b, i, none⟩ : Addr) ≠ ⟨b, i', none⟩ := fun h e => h (by injection e)
  have s1 : (w.setCell ⟨b, c, none⟩ v0).cell? ⟨b, c, none⟩ = some v0 := World.cell?_setCell_same _ _ _ c0
  have s2 : (w.setCell ⟨b, c, none⟩ v0).cell? ⟨b, c + 1, none⟩ = some u1 := by rw [World.cell?_setCell_other _ _ _ _ (far (by omega))]; exact c1
  have s3 : (w.setCell ⟨b, c, none⟩ v0).cell? ⟨b, c + 2, none⟩ = some u2 := by rw [World.cell?_setCell_other _ _ _ _ (far (by omega))]; exact c2
  have r1 : ((w.setCell ⟨b, c, none⟩ v0).setCell ⟨b, c + 1, none⟩ v1).cell? ⟨b, c, none⟩ = some v0 := by rw [World.cell?_setCell_other _ _ _ _ (far (by omega))]; exact s1
  have r2 : ((w.setCell ⟨b, c, none⟩ v0).setCell ⟨b, c + 1, none⟩ v1).cell? ⟨b, c + 1, none⟩ = some v1 := World.cell?_setCell_same _ _ _ s2
  have r3 : ((w.setCell ⟨b, c, none⟩ v0).setCell ⟨b, c + 1, none⟩ v1).cell? ⟨b, c + 2, none⟩ = some u2 := by rw [World.cell?_setCell_other _ _ _ _ (far (by omega))]; exact s3
  refine ⟨?_, ?_, World.cell?_setCell_same _ _ _ r3, fun i v h1 h2 h3 h => ?_⟩
  · rw [World.cell?_setCell_other _ _ _ _ (far (by omega))]; exact r1
  · rw [World.cell?_setCell_other _ _ _ _ (far (by omega))]; exact r2
  · rw [World.cell?_setCell_other _ _ _ _ (far (fun e => h3 e.symm)), World.cell?_setCell_other _ _ _ _ (far (fun e => h2 e.symm)), World.cell?_setCell_other _ _ _ _ (far (fun e => h1 e.symm))]; exact h

end Go.Proofs.Ytigkgfdnnfmmmaa
