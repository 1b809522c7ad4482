/- WALKS: toStringS of the laws; make of moves. -/
import Derived.Test.YtnmoocgocnjdjaaVSigas
import Derived.Test.YtnmoocgocnjdjaaVRgd
namespace Go.Proofs.Ytnmoocgocnjdjaa
open Go.RowKit

theorem Try.infoStr : (Try.prog.info? 9).map (fun i => (i.zero, i.size, i.bytes)) = some (some (.string ByteArray.empty), 1, 16) := by kernel_rfl
theorem Try.infoMv : (Try.prog.info? 201).map (fun i => (i.zero, i.size, i.bytes)) = some (some (.agg #[.int .i64 0, .int .i64 0, .int .i64 0]), 3, 24) := by kernel_rfl

set_option maxHeartbeats 400000 in
theorem toStringS_any (v : Value) (zs : List ByteArray) (w : World) (lo : Nat) (hv : TextsAt lo w v zs) (hn : zs.length ≤ 1048576) :
    Calls Try.prog 60 #[v] w (RetTexts w zs) := by
  obtain ⟨ao, cap, rfl, hc, hz⟩ := hv
  have hmk := run_make_row' (P := Try.prog) 53 9 (.string ByteArray.empty) 16 Try.underlying53 Try.infoStr rfl .i64 .i64 zs.length (by omega) (by omega)
  have HF := Lib.hid hz; clear hz
  go_enter Try.func60, Try.ntmps60
  go_wp2
  go_loopw [4] (fun i wr => ∃ k : Nat, k ≤ zs.length ∧ i = .int .i64 k ∧ wr.rowIs w.heap.size 9 zs.length (scopied zs k) ∧ Below w.heap.size w wr) (fun i _ => zs.length - (intOf i).toNat)
  case atStart => exact ⟨0, Nat.zero_le _, rfl, (World.rowIs_made _ _ _ _).congr (fun i _ => by simp [scopied]), (Below.refl _ _).alloc (Nat.le_refl _) _⟩
  case round =>
    obtain ⟨k, hk, rfl, hrow, hb1⟩ := hrel
    by_cases hlt : k < zs.length
    · rcases HF.out with h0 | ⟨b, off, rfl, _, hcell⟩
      · omega
      have c1 := cell_keep (hcell k hlt) hb1 (Nat.le_refl _)
      have c2 := hrow.cell hlt
      have f2 := hrow.frozen k
      clear hcell
      go_wp2
      have h3 := hrow.set k (.string (stN zs k))
      rw [scopied_step] at h3
      have h4 := hb1.setCell (p := ⟨w.heap.size, k, none⟩) (Nat.le_refl _) (.string (stN zs k))
      go_roundw
      case rel => exact ⟨k + 1, by omega, by go_num, h3, h4⟩
      case measure => simp [intOf]; omega
    · go_wp2
      go_ret
      exact ⟨_, rfl, texts_of_row hrow (fun i hi => by unfold scopied; rw [if_pos (by omega)]), hb1⟩

theorem run_make_moves (n : Nat) (hn : n ≤ 1048576) (w : World) :
    (Instr.makeSlice 176 (.int .i64 (n : Int)) (.int .i64 (n : Int))).run Try.prog w = .ok (.slice (some ⟨w.heap.size, 0, none⟩) n n) (w.alloc (.cells (madeCells #[.int .i64 0, .int .i64 0, .int .i64 0] (n * 3)) 201)) := by
  obtain ⟨i, hi, hzz⟩ := Option.map_eq_some_iff.1 Try.infoMv
  simp only [Prod.mk.injEq] at hzz
  obtain ⟨hz, hs, hb⟩ := hzz
  have hr := run_make (P := Try.prog) w 176 201 i _ Try.underlying176 hi hz .i64 .i64 n n (by omega) (Int.le_refl _) (by rw [hb]; omega) (by omega)
  rw [hs] at hr
  exact hr

end Go.Proofs.Ytnmoocgocnjdjaa
