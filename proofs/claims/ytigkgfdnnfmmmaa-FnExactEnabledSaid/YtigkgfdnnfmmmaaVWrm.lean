/- WALK: writeMarking (out of Read). -/
import Derived.Test.YtigkgfdnnfmmmaaVArr
import Derived.Test.YtigkgfdnnfmmmaaVBst
namespace Go.Proofs.Ytigkgfdnnfmmmaa
open Go.RowKit

theorem ArrAt.string {w : World} {g : Nat} {xs : List UInt8} (h : ArrAt w g xs) (n cap : Nat) (hn : n ≤ 30) : (convert 154 9 (.slice (some ⟨g, 0, none⟩) n cap)).run Try.prog w = .ok (.string (bstr (xs.take n))) w := by
  rw [run_convert_bytes_string w 154 9 5 _ _ _ Try.underlying154 Try.underlying5 Try.underlying9]
  have hlen : ((xs.take n).map (fun b => (b.toNat : Int))).length = n := by simp; have := h.2; omega
  have hl := run_loadCells_list (P := Try.prog) w ⟨g, 0, none⟩ (((xs.take n).map (fun b => (b.toNat : Int))).map (Value.int .u8)) (fun j v hv => by
    have hj : j < n := by have := (List.getElem?_eq_some_iff.1 hv).1; rw [List.length_map, hlen] at this; exact this
    rw [Addr.add_mid, Nat.zero_add, h.cell (by omega)]
    rw [← hv]
    have hj2 : j < xs.length := by rw [h.2]; omega
    simp [hj, hj2, List.getD])
  rw [List.length_map, hlen] at hl
  rw [run_bytesToString w ⟨g, 0, none⟩ n cap _ hl, foldl_push]
  congr 2
  simp [bstr, ByteArray.empty, ByteArray.emptyWithCapacity]
  rfl

theorem slice_arr (g p : Nat) (hp : p ≤ 30) (W : World) : (Instr.sliceAt 111 (.pointer (some ⟨g, 0, none⟩)) none (some (.int .i64 (p : Int))) none).run Try.prog W = .ok (.slice (some ⟨g, 0, none⟩) p 30) W := by
  have hb : (Instr.sliceBound (.int .i64 (p : Int)) 30 .sliceAlen).run Try.prog W = .ok p W := by
    have h1 : (0 : Int) ≤ (p : Int) ∧ (p : Int) ≤ ((30 : Nat) : Int) := ⟨by omega, by omega⟩
    simp [Instr.sliceBound, asIntOf, h1.1, h1.2]
    omega
  have hz : ∀ w, (Go.sizeOf 5).run Try.prog w = .ok 1 w := fun _ => by kernel_rfl
  simp [Instr.sliceAt, Instr.sureAddr, slicedAt, run_underlying Try.underlying111, Instr.sliceBounds, hb, sliced, hz]
  rfl

set_option maxRecDepth 100000 in
set_option maxHeartbeats 1000000 in
theorem writeMarking_any (p : Nat) (u : Value) (xs : List UInt8) (hx : xs.length = 30) (w : World) (hp : p ≤ 30) (ao : Option Addr) (m cap : Nat) (hu : u = .slice ao m cap) :
    Calls Try.prog 79 #[.agg #[.int .i64 p, u], .agg (arr xs).toArray] w (RetV w (.string (bstr (xs.take p)))) := by
  subst hu
  have hA := ArrAt.new (w.alloc (.cells #[.int .i64 p, .slice ao m cap] 38)) hx
  rw [World.size_alloc] at hA
  have kc := hA.string p 30 hp
  have HA := Lib.hid hA; clear hA
  have ks : ∀ W : World, (Instr.sliceAt 111 (.pointer (some ⟨w.heap.size + 1, 0, none⟩)) none (some (.int .i64 (p : Int))) none).run Try.prog W = .ok (.slice (some ⟨w.heap.size + 1, 0, none⟩) p 30) W := fun W => slice_arr _ p hp W
  go_enter Try.func79, Try.ntmps79
  go_wp2_with fail
  go_ret
  exact ⟨rfl, by (repeat' (first | (with_reducible exact Below.refl _ _) | (with_reducible assumption) | (with_reducible refine Below.alloc ?_ ?_ _) | (with_reducible refine Below.drew ?_) | (with_reducible refine below_drewN ?_ _) | (with_reducible refine Below.setCell ?_ ?_ _) | go_size))⟩

end Go.Proofs.Ytigkgfdnnfmmmaa
