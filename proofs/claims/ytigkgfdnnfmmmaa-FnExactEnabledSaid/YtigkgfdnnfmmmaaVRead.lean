/- WALKS: readMarking, writeMarking. -/
import Derived.Test.YtigkgfdnnfmmmaaVSfireb
import Derived.Test.YtigkgfdnnfmmmaaVWrm
namespace Go.Proofs.Ytigkgfdnnfmmmaa
open Go.RowKit

def pad (bs : List UInt8) : List UInt8 := bs ++ List.replicate (30 - bs.length) 0
theorem pad_length {bs : List UInt8} (h : bs.length ≤ 30) : (pad bs).length = 30 := by simp [pad]; omega

theorem run_copy_row_string (w : World) (ty : TypeId) (g : Nat) (s : ByteArray) (hs : s.size ≤ 30) (h : ArrAt w g zeros) :
    (Builtin.copy_ #[154, 9] ty #[.slice (some ⟨g, 0, none⟩) 30 30, .string s]).run Try.prog w = .ok (goInt s.size) (w.setRow g (arr (pad (bytes s))).toArray) := by
  have hl : (arr (bytes s)).length = s.size := by rw [arr_length, bytes_length]
  have hst := run_storeCells_at (P := Try.prog) g 0 111 (arr (bytes s)) 0 _ w h.1 (by rw [hl, List.size_toArray, arr_length, zeros_length]; omega) (arr_one _)
  have hmin : Nat.min s.size 30 = s.size := Nat.min_eq_left hs
  have hz : ∀ w, (Go.sizeOf 5).run Try.prog w = .ok 1 w := fun _ => by kernel_rfl
  simp only [Nat.zero_add, Nat.add_zero] at hst
  have hrow : ((arr zeros).toArray.toList.take 0 ++ arr (bytes s) ++ (arr zeros).toArray.toList.drop (arr (bytes s)).length).toArray = (arr (pad (bytes s))).toArray := by
    rw [hl]
    simp only [List.take_zero, List.nil_append]
    have e1 : (arr zeros).drop s.size = arr (List.replicate (30 - s.size) 0) := by
      unfold arr zeros
      rw [← List.map_drop, List.drop_replicate]
    have e2 : arr (pad (bytes s)) = arr (bytes s) ++ arr (List.replicate (30 - s.size) 0) := by
      unfold arr pad
      rw [List.map_append, bytes_length]
    show (arr (bytes s) ++ (arr zeros).drop s.size).toArray = _
    rw [e1, e2]
  rw [hrow] at hst
  have e : List.take s.size (List.map (fun b => Value.int IntKind.u8 (b.toNat : Int)) s.data.toList) = arr (bytes s) := by
    rw [List.take_of_length_le (by simp)]; rfl
  simp [Builtin.copy_, run_underlying Try.underlying154, Builtin.lenOf, Builtin.firstCells, hz, hmin]
  rw [e, hst]
  rfl

theorem wpList_copy_mark {ops : Array Oper} {rest : List Oper} {o : Oper} {a : Act} {w : World} {Q : Exit → Act → World → Prop} (hgd : o.guard = none) (d x : Operand)
    (ho : o.op = .call { callee := .builtin .copy, args := #[d, x], argTypes := #[154, 9] }) (g : Nat) (s : ByteArray) (hd : a.eval d = .slice (some ⟨g, 0, none⟩) 30 30) (hx : a.eval x = .string s) (hs : s.size ≤ 30) (h : ArrAt w g zeros)
    (hK : wpList Try.prog ops Q rest (a.put o.dst (goInt s.size)) (w.setRow g (arr (pad (bytes s))).toArray)) : wpList Try.prog ops Q (o :: rest) a w :=
  wpList_plain hgd fun K hK' => by
    have hr := run_copy_row_string w o.type g s hs h
    unfold Oper.wp execOp
    simp only [ho, resolve, invoke, builtin, Sem.run_bind, Sem.run_pure, Result.andThen_ok, List.map_toArray, List.map_cons, List.map_nil, hd, hx, hr]
    exact hK' _ _ hK

set_option maxRecDepth 100000 in
set_option maxHeartbeats 1000000 in
theorem readMarking_any (s : ByteArray) (w : World) (hs : s.size ≤ 30) :
    Calls Try.prog 78 #[.string s] w (RetA w (pad (bytes s))) := by
  have hl : (pad (bytes s)).length = 30 := pad_length (by rw [bytes_length]; exact hs)
  have HA := ArrAt.new w zeros_length
  have HB := ArrAt.new (w.alloc (.cells (arr zeros).toArray 111)) zeros_length
  have HA2 := HA.after (w' := (w.alloc (.cells (arr zeros).toArray 111)).alloc (.cells (arr zeros).toArray 111)) ((Below.refl _ _).alloc (Nat.le_refl _) _)
  rw [World.size_alloc] at HB
  have HA' := Lib.hid HA2
  have HB' := Lib.hid HB
  have hbw : Below w.heap.size w ((w.alloc (.cells (arr zeros).toArray 111)).alloc (.cells (arr zeros).toArray 111)) := by (repeat' (first | (with_reducible exact Below.refl _ _) | (with_reducible assumption) | (with_reducible refine Below.alloc ?_ ?_ _) | (with_reducible refine Below.drew ?_) | (with_reducible refine below_drewN ?_ _) | (with_reducible refine Below.setCell ?_ ?_ _) | go_size))
  have HW := Lib.hid hbw
  clear HA HB HA2 hbw
  go_enter Try.func78, Try.ntmps78
  go_wp2_with (first
    | (refine wpList_copy_mark rfl (.tmp 4) (.tmp 5) rfl (w.heap.size + 1) s rfl rfl hs HB'.out ?_)
    | (refine wpList_load_row rfl 111 _ rfl (w.heap.size + 1) rfl _ _ _ _ (setRow_heap _ _ _ _ _ _ HB'.out.1) Try.underlying111 rfl (infoArr hl) ?_)
    | (refine wpList_store_row rfl 111 _ _ rfl w.heap.size _ rfl rfl _ _ ((setRow_other _ _ _ _ (by simp)).trans HA'.out.1) (infoArr hl) (by simp [arr_length, hl, zeros_length]) (arr_all _) ?_))
  refine bodyPost_ret (v := .agg (arr (pad (bytes s))).toArray) (results_cell_row rfl _ _ w.heap.size _ _ _ _ rfl (setRow_heap _ _ _ _ _ _ ((setRow_other _ _ _ _ (by simp)).trans HA'.out.1)) Try.underlying111 rfl (infoArr hl)) rfl ⟨rfl, ?_⟩
  exact below_setRow (below_setRow HW.out (by simp) _) (by simp) _

theorem load_arr {w : World} {g : Nat} {xs : List UInt8} (h : ArrAt w g xs) : (loadCells ⟨g, 0, none⟩ 30).run Try.prog w = .ok (arr xs).toArray w := by
  have := run_loadCells_list (P := Try.prog) w ⟨g, 0, none⟩ (arr xs) (fun j v hv => by rw [Addr.add_mid]; exact h.range j v hv)
  rw [arr_length, h.2] at this
  exact this

end Go.Proofs.Ytigkgfdnnfmmmaa
