/-
  WALKS: readMarking, writeMarking.
-/
import Derived.Test.YtkkfglolameogaaSfireb
namespace Go.Proofs.Ytkkfglolameogaa
open Go.RowKit

def pad (bs : List UInt8) : List UInt8 := bs ++ List.replicate (30 - bs.length) 0
theorem pad_length {bs : List UInt8} (h : bs.length ≤ 30) : (pad bs).length = 30 := by simp [pad]; omega

theorem run_copy_row_string (w : World) (ty : TypeId) (g : Nat) (s : ByteArray) (hs : s.size ≤ 30) (h : ArrAt w g zeros) :
    (Builtin.copy_ #[54, 9] ty #[.slice (some ⟨g, 0, none⟩) 30 30, .string s]).run Try.prog w = .ok (goInt s.size) (w.setRow g (arr (pad (bytes s))).toArray) := by
  have hl : (arr (bytes s)).length = s.size := by rw [arr_length, bytes_length]
  have hst := run_storeCells_at (P := Try.prog) g 0 118 (arr (bytes s)) 0 _ w h.1 (by rw [hl, List.size_toArray, arr_length, zeros_length]; omega) (arr_one _)
  have hmin : Nat.min s.size 30 = s.size := Nat.min_eq_left hs
  have hz : ∀ w, (Go.sizeOf 5).run Try.prog w = .ok 1 w := fun _ => by kernel_rfl
  simp only [Nat.zero_add, Nat.add_zero] at hst
  have hrow : ((arr zeros).toArray.toList.take 0 ++ arr (bytes s) ++ (arr zeros).toArray.toList.drop (arr (bytes s)).length).toArray = (arr (pad (bytes s))).toArray := by
    rw [hl]
    simp only [List.take_zero, List.nil_append]
    have e1 : (arr zeros).drop s.size = arr (List.replicate (30 - s.size) 0) := by
      unfold arr zeros
      rw [← List.map_drop, List.drop_replicate]
    have e2 : arr (pad (bytes s)) = arr (bytes s) ++ arr (List.replicate (30 - s.size) 0) := by
      unfold arr pad
      rw [List.map_append, bytes_length]
    show (arr (bytes s) ++ (arr zeros).drop s.size).toArray = _
    rw [e1, e2]
  rw [hrow] at hst
  have e : List.take s.size (List.map (fun b => Value.int IntKind.u8 (b.toNat : Int)) s.data.toList) = arr (bytes s) := by
    rw [List.take_of_length_le (by simp)]; rfl
  simp [Builtin.copy_, run_underlying Try.underlying54, Builtin.lenOf, Builtin.firstCells, hz, hmin]
  rw [e, hst]
  rfl

theorem wpList_copy_mark {ops : Array Oper} {rest : List Oper} {o : Oper} {a : Act} {w : World} {Q : Exit → Act → World → Prop} (hgd : o.guard = none) (d x : Operand)
    (ho : o.op = .call { callee := .builtin .copy, args := #[d, x], argTypes := #[54, 9] }) (g : Nat) (s : ByteArray) (hd : a.eval d = .slice (some ⟨g, 0, none⟩) 30 30) (hx : a.eval x = .string s) (hs : s.size ≤ 30) (h : ArrAt w g zeros)
    (hK : wpList Try.prog ops Q rest (a.put o.dst (goInt s.size)) (w.setRow g (arr (pad (bytes s))).toArray)) : wpList Try.prog ops Q (o :: rest) a w :=
  wpList_plain hgd fun K hK' => by
    have hr := run_copy_row_string w o.type g s hs h
    unfold Oper.wp execOp
    simp only [ho, resolve, invoke, builtin, Sem.run_bind, Sem.run_pure, Result.andThen_ok, List.map_toArray, List.map_cons, List.map_nil, hd, hx, hr]
    exact hK' _ _ hK

set_option maxRecDepth 100000 in
set_option maxHeartbeats 1000000 in
theorem readMarking_any (s : ByteArray) (w : World) (hs : s.size ≤ 30) :
    Calls Try.prog 92 #[.string s] w (RetA w (pad (bytes s))) := by
  have hl : (pad (bytes s)).length = 30 := pad_length (by rw [bytes_length]; exact hs)
  have HA := ArrAt.new w zeros_length
  have HB := ArrAt.new (w.alloc (.cells (arr zeros).toArray 118)) zeros_length
  have HA2 := HA.after (w' := (w.alloc (.cells (arr zeros).toArray 118)).alloc (.cells (arr zeros).toArray 118)) ((Below.refl _ _).alloc (Nat.le_refl _) _)
  rw [World.size_alloc] at HB
  have HA' := Lib.hid HA2
  have HB' := Lib.hid HB
  have hbw : Below w.heap.size w ((w.alloc (.cells (arr zeros).toArray 118)).alloc (.cells (arr zeros).toArray 118)) := by (repeat' (first | (with_reducible exact Below.refl _ _) | (with_reducible assumption) | (with_reducible refine Below.alloc ?_ ?_ _) | (with_reducible refine Below.drew ?_) | (with_reducible refine below_drewN ?_ _) | (with_reducible refine Below.setCell ?_ ?_ _) | go_size))
  have HW := Lib.hid hbw
  clear HA HB HA2 hbw
  go_enter Try.func92, Try.ntmps92
  go_wp2_with (first
    | (refine wpList_copy_mark rfl (.tmp 4) (.tmp 5) rfl (w.heap.size + 1) s rfl rfl hs HB'.out ?_)
    | (refine wpList_load_row rfl 118 _ rfl (w.heap.size + 1) rfl _ _ _ _ (setRow_heap _ _ _ _ _ _ HB'.out.1) Try.underlying118 rfl (infoArr hl) ?_)
    | (refine wpList_store_row rfl 118 _ _ rfl w.heap.size _ rfl rfl _ _ ((setRow_other _ _ _ _ (by simp)).trans HA'.out.1) (infoArr hl) (by simp [arr_length, hl, zeros_length]) (arr_all _) ?_))
  refine bodyPost_ret (v := .agg (arr (pad (bytes s))).toArray) (results_cell_row rfl _ _ w.heap.size _ _ _ _ rfl (setRow_heap _ _ _ _ _ _ ((setRow_other _ _ _ _ (by simp)).trans HA'.out.1)) Try.underlying118 rfl (infoArr hl)) rfl ⟨rfl, ?_⟩
  exact below_setRow (below_setRow HW.out (by simp) _) (by simp) _

theorem load_arr {w : World} {g : Nat} {xs : List UInt8} (h : ArrAt w g xs) : (loadCells ⟨g, 0, none⟩ 30).run Try.prog w = .ok (arr xs).toArray w := by
  have := run_loadCells_list (P := Try.prog) w ⟨g, 0, none⟩ (arr xs) (fun j v hv => by rw [Addr.add_mid]; exact h.range j v hv)
  rw [arr_length, h.2] at this
  exact this

theorem ArrAt.string {w : World} {g : Nat} {xs : List UInt8} (h : ArrAt w g xs) (n cap : Nat) (hn : n ≤ 30) : (convert 54 9 (.slice (some ⟨g, 0, none⟩) n cap)).run Try.prog w = .ok (.string (bstr (xs.take n))) w := by
  rw [run_convert_bytes_string w 54 9 5 _ _ _ Try.underlying54 Try.underlying5 Try.underlying9]
  have hlen : ((xs.take n).map (fun b => (b.toNat : Int))).length = n := by simp; have := h.2; omega
  have hl := run_loadCells_list (P := Try.prog) w ⟨g, 0, none⟩ (((xs.take n).map (fun b => (b.toNat : Int))).map (Value.int .u8)) (fun j v hv => by
    have hj : j < n := by have := (List.getElem?_eq_some_iff.1 hv).1; rw [List.length_map, hlen] at this; exact this
    rw [Addr.add_mid, Nat.zero_add, h.cell (by omega)]
    rw [← hv]
    have hj2 : j < xs.length := by rw [h.2]; omega
    simp [hj, hj2, List.getD])
  rw [List.length_map, hlen] at hl
  rw [run_bytesToString w ⟨g, 0, none⟩ n cap _ hl, foldl_push]
  congr 2
  simp [bstr, ByteArray.empty, ByteArray.emptyWithCapacity]
  rfl

theorem slice_arr (g p : Nat) (hp : p ≤ 30) (W : World) : (Instr.sliceAt 118 (.pointer (some ⟨g, 0, none⟩)) none (some (.int .i64 (p : Int))) none).run Try.prog W = .ok (.slice (some ⟨g, 0, none⟩) p 30) W := by
  have hb : (Instr.sliceBound (.int .i64 (p : Int)) 30 .sliceAlen).run Try.prog W = .ok p W := by
    have h1 : (0 : Int) ≤ (p : Int) ∧ (p : Int) ≤ ((30 : Nat) : Int) := ⟨by omega, by omega⟩
    simp [Instr.sliceBound, asIntOf, h1.1, h1.2]
    omega
  have hz : ∀ w, (Go.sizeOf 5).run Try.prog w = .ok 1 w := fun _ => by kernel_rfl
  simp [Instr.sliceAt, Instr.sureAddr, slicedAt, run_underlying Try.underlying118, Instr.sliceBounds, hb, sliced, hz]
  rfl

set_option maxRecDepth 100000 in
set_option maxHeartbeats 1000000 in
theorem writeMarking_any (p : Nat) (u : Value) (xs : List UInt8) (hx : xs.length = 30) (w : World) (hp : p ≤ 30) (ao : Option Addr) (m cap : Nat) (hu : u = .slice ao m cap) :
    Calls Try.prog 93 #[.agg #[.int .i64 p, u], .agg (arr xs).toArray] w (RetV w (.string (bstr (xs.take p)))) := by
  subst hu
  have hA := ArrAt.new (w.alloc (.cells #[.int .i64 p, .slice ao m cap] 32)) hx
  rw [World.size_alloc] at hA
  have kc := hA.string p 30 hp
  have HA := Lib.hid hA; clear hA
  have ks : ∀ W : World, (Instr.sliceAt 118 (.pointer (some ⟨w.heap.size + 1, 0, none⟩)) none (some (.int .i64 (p : Int))) none).run Try.prog W = .ok (.slice (some ⟨w.heap.size + 1, 0, none⟩) p 30) W := fun W => slice_arr _ p hp W
  go_enter Try.func93, Try.ntmps93
  go_wp2_with fail
  go_ret
  exact ⟨rfl, by (repeat' (first | (with_reducible exact Below.refl _ _) | (with_reducible assumption) | (with_reducible refine Below.alloc ?_ ?_ _) | (with_reducible refine Below.drew ?_) | (with_reducible refine below_drewN ?_ _) | (with_reducible refine Below.setCell ?_ ?_ _) | go_size))⟩

end Go.Proofs.Ytkkfglolameogaa
