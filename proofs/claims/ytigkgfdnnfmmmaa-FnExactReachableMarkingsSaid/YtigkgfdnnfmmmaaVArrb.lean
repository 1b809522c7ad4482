/- WALKS: readMarking, writeMarking.
   WALKS: onlyPlaces, isEnabled, isTransition. -/
import Derived.Test.YtigkgfdnnfmmmaaVSfireb
import Derived.Test.YtigkgfdnnfmmmaaVWrm
import Derived.Test.YtigkgfdnnfmmmaaVArr
import Derived.Test.YtigkgfdnnfmmmaaVPur
import Derived.Test.YtigkgfdnnfmmmaaVByte
import Derived.Test.YtigkgfdnnfmmmaaVSteps
namespace Go.Proofs.Ytigkgfdnnfmmmaa
open Go.RowKit

def pad (bs : List UInt8) : List UInt8 := bs ++ List.replicate (30 - bs.length) 0
theorem pad_length {bs : List UInt8} (h : bs.length ≤ 30) : (pad bs).length = 30 := by simp [pad]; omega

theorem run_copy_row_string (w : World) (ty : TypeId) (g : Nat) (s : ByteArray) (hs : s.size ≤ 30) (h : ArrAt w g zeros) :
    (Builtin.copy_ #[154, 9] ty #[.slice (some ⟨g, 0, none⟩) 30 30, .string s]).run Try.prog w = .ok (goInt s.size) (w.setRow g (arr (pad (bytes s))).toArray) := by
  have hl : (arr (bytes s)).length = s.size := by rw [arr_length, bytes_length]
  have hst := run_storeCells_at (P := Try.prog) g 0 111 (arr (bytes s)) 0 _ w h.1 (by rw [hl, List.size_toArray, arr_length, zeros_length]; omega) (arr_one _)
  have hmin : Nat.min s.size 30 = s.size := Nat.min_eq_left hs
  have hz : ∀ w, (Go.sizeOf 5).run Try.prog w = .ok 1 w := fun _ => by kernel_rfl
  simp only [Nat.zero_add, Nat.add_zero] at hst
  have hrow : ((arr zeros).toArray.toList.take 0 ++ arr (bytes s) ++ (arr zeros).toArray.toList.drop (arr (bytes s)).length).toArray = (arr (pad (bytes s))).toArray := by
    rw [hl]
    simp only [List.take_zero, List.nil_append]
    have e1 : (arr zeros).drop s.size = arr (List.replicate (30 - s.size) 0) := by
      unfold arr zeros
      rw [← List.map_drop, List.drop_replicate]
    have e2 : arr (pad (bytes s)) = arr (bytes s) ++ arr (List.replicate (30 - s.size) 0) := by
      unfold arr pad
      rw [List.map_append, bytes_length]
    show (arr (bytes s) ++ (arr zeros).drop s.size).toArray = _
    rw [e1, e2]
  rw [hrow] at hst
  have e : List.take s.size (List.map (fun b => Value.int IntKind.u8 (b.toNat : Int)) s.data.toList) = arr (bytes s) := by
    rw [List.take_of_length_le (by simp)]; rfl
  simp [Builtin.copy_, run_underlying Try.underlying154, Builtin.lenOf, Builtin.firstCells, hz, hmin]
  rw [e, hst]
  rfl

theorem wpList_copy_mark {ops : Array Oper} {rest : List Oper} {o : Oper} {a : Act} {w : World} {Q : Exit → Act → World → Prop} (hgd : o.guard = none) (d x : Operand)
    (ho : o.op = .call { callee := .builtin .copy, args := #[d, x], argTypes := #[154, 9] }) (g : Nat) (s : ByteArray) (hd : a.eval d = .slice (some ⟨g, 0, none⟩) 30 30) (hx : a.eval x = .string s) (hs : s.size ≤ 30) (h : ArrAt w g zeros)
    (hK : wpList Try.prog ops Q rest (a.put o.dst (goInt s.size)) (w.setRow g (arr (pad (bytes s))).toArray)) : wpList Try.prog ops Q (o :: rest) a w :=
  wpList_plain hgd fun K hK' => by
    have hr := run_copy_row_string w o.type g s hs h
    unfold Oper.wp execOp
    simp only [ho, resolve, invoke, builtin, Sem.run_bind, Sem.run_pure, Result.andThen_ok, List.map_toArray, List.map_cons, List.map_nil, hd, hx, hr]
    exact hK' _ _ hK

set_option maxRecDepth 100000 in
set_option maxHeartbeats 1000000 in
theorem readMarking_any (s : ByteArray) (w : World) (hs : s.size ≤ 30) :
    Calls Try.prog 78 #[.string s] w (RetA w (pad (bytes s))) := by
  have hl : (pad (bytes s)).length = 30 := pad_length (by rw [bytes_length]; exact hs)
  have HA := ArrAt.new w zeros_length
  have HB := ArrAt.new (w.alloc (.cells (arr zeros).toArray 111)) zeros_length
  have HA2 := HA.after (w' := (w.alloc (.cells (arr zeros).toArray 111)).alloc (.cells (arr zeros).toArray 111)) ((Below.refl _ _).alloc (Nat.le_refl _) _)
  rw [World.size_alloc] at HB
  have HA' := Lib.hid HA2
  have HB' := Lib.hid HB
  have hbw : Below w.heap.size w ((w.alloc (.cells (arr zeros).toArray 111)).alloc (.cells (arr zeros).toArray 111)) := by (repeat' (first | (with_reducible exact Below.refl _ _) | (with_reducible assumption) | (with_reducible refine Below.alloc ?_ ?_ _) | (with_reducible refine Below.drew ?_) | (with_reducible refine below_drewN ?_ _) | (with_reducible refine Below.setCell ?_ ?_ _) | go_size))
  have HW := Lib.hid hbw
  clear HA HB HA2 hbw
  go_enter Try.func78, Try.ntmps78
  go_wp2_with (first
    | (refine wpList_copy_mark rfl (.tmp 4) (.tmp 5) rfl (w.heap.size + 1) s rfl rfl hs HB'.out ?_)
    | (refine wpList_load_row rfl 111 _ rfl (w.heap.size + 1) rfl _ _ _ _ (setRow_heap _ _ _ _ _ _ HB'.out.1) Try.underlying111 rfl (infoArr hl) ?_)
    | (refine wpList_store_row rfl 111 _ _ rfl w.heap.size _ rfl rfl _ _ ((setRow_other _ _ _ _ (by simp)).trans HA'.out.1) (infoArr hl) (by simp [arr_length, hl, zeros_length]) (arr_all _) ?_))
  refine bodyPost_ret (v := .agg (arr (pad (bytes s))).toArray) (results_cell_row rfl _ _ w.heap.size _ _ _ _ rfl (setRow_heap _ _ _ _ _ _ ((setRow_other _ _ _ _ (by simp)).trans HA'.out.1)) Try.underlying111 rfl (infoArr hl)) rfl ⟨rfl, ?_⟩
  exact below_setRow (below_setRow HW.out (by simp) _) (by simp) _

theorem load_arr {w : World} {g : Nat} {xs : List UInt8} (h : ArrAt w g xs) : (loadCells ⟨g, 0, none⟩ 30).run Try.prog w = .ok (arr xs).toArray w := by
  have := run_loadCells_list (P := Try.prog) w ⟨g, 0, none⟩ (arr xs) (fun j v hv => by rw [Addr.add_mid]; exact h.range j v hv)
  rw [arr_length, h.2] at this
  exact this

end Go.Proofs.Ytigkgfdnnfmmmaa

namespace Go.Proofs.Ytigkgfdnnfmmmaa
open Go.RowKit


set_option maxRecDepth 100000 in
set_option maxHeartbeats 1000000 in
theorem isEnabled_any (xs : List UInt8) (hx : xs.length = 30) (v0 v1 : Value) (t : Tr) (w : World) (lo : Nat) (hv : TrAt lo w v0 v1 t) (hn : t.1.length ≤ 1048576) (hin : InArr t.1) :
    Calls Try.prog 81 #[.agg (arr xs).toArray, .agg #[v0, v1]] w (RetB w (putAll 49 xs t.1 == xs)) := by
  have hv' := hv
  obtain ⟨⟨a0, k0, rfl, _, _⟩, ⟨a1, k1, rfl, _, _⟩⟩ := hv'
  have HV := Lib.hid hv; clear hv
  have HI := Lib.hid hin; clear hin
  have HX := Lib.hid hx
  have hl : (putAll 49 xs t.1).length = 30 := by rw [putAll_length]; exact hx
  have heq := fun w => eqlArr (putAll 49 xs t.1) xs hl hx w
  generalize hR : (putAll 49 xs t.1 == xs) = r at heq ⊢
  have HR := Lib.hid hR; clear hR
  have HL := Lib.hid hl; clear hl
  have g1 := Try.underlying111
  have g2 : (Try.prog.info? 111).map (·.size) = some (arr xs).length := by rw [arr_length, hx]; exact Try.infoArr
  have g3 : (arr xs).length = 30 := by rw [arr_length, hx]
  have g4 := arr_one xs
  clear hx
  go_enter Try.func81, Try.ntmps81
  go_wp2_with fail
  have A0 : ((w.alloc (.cells (arr xs).toArray 111)).alloc (.cells #[.slice a0 t.1.length k0, .slice a1 t.2.length k1] 116)).rangeAt w.heap.size 0 (arr xs) := ((ArrAt.new w HX.out).after ((Below.refl _ _).alloc (Nat.le_refl _) _)).range
  have A1 : ((w.alloc (.cells (arr xs).toArray 111)).alloc (.cells #[.slice a0 t.1.length k0, .slice a1 t.2.length k1] 116)).cell? ⟨w.heap.size + 1, 0, none⟩ = some (.slice a0 t.1.length k0) := by simp
  have hW : Below w.heap.size w ((w.alloc (.cells (arr xs).toArray 111)).alloc (.cells #[.slice a0 t.1.length k0, .slice a1 t.2.length k1] 116)) := by (repeat' (first | (with_reducible exact Below.refl _ _) | (with_reducible assumption) | (with_reducible refine Below.alloc ?_ ?_ _) | (with_reducible refine Below.drew ?_) | (with_reducible refine below_drewN ?_ _) | (with_reducible refine Below.setCell ?_ ?_ _) | go_size))
  generalize (w.alloc (.cells (arr xs).toArray 111)).alloc (.cells #[.slice a0 t.1.length k0, .slice a1 t.2.length k1] 116) = w1 at A0 A1 hW ⊢
  refine wp_region_held_drew (S := fun w' => w'.rangeAt w.heap.size 0 (arr xs) ∧ w'.cell? ⟨w.heap.size + 1, 0, none⟩ = some (.slice a0 t.1.length k0)) (by kernel_rfl) ⟨A0, A1⟩ (fun hHeld => ?_)
  refine tk0 (by kernel_rfl) (by kernel_rfl) (by kernel_rfl) (by first | exact fun _ _ _ h => h | exact fun _ _ _ h => absurd h.1 (by simp)) (yieldsIf_load_mid (by rfl) _ _ rfl _ _ rfl _ _ (fun w hS => hS.1) g1 rfl g2) (by assumption) ?_
  try simp only [Act.put, List.setIfInBounds_toArray, List.set_cons_zero, List.set_cons_succ]
  refine tk1 (v := ?_) (by kernel_rfl) (by kernel_rfl) (by kernel_rfl) (by first | exact fun _ _ _ h => h | exact fun _ _ _ h => absurd h.1 (by simp)) (Or.inl ⟨by rfl, ?_⟩) (by assumption) ?_
  rotate_left 1
  focus (intro wx hSw; (try dsimp only at hSw); go_simp; try (with_reducible rfl))
  try simp only [Act.put, List.setIfInBounds_toArray, List.set_cons_zero, List.set_cons_succ]
  refine tk2 (v := ?_) (by kernel_rfl) (by kernel_rfl) (by kernel_rfl) (by first | exact fun _ _ _ h => h | exact fun _ _ _ h => absurd h.1 (by simp)) (Or.inl ⟨by rfl, ?_⟩) (by assumption) ?_
  rotate_left 1
  focus (intro wx hSw; (try dsimp only at hSw); go_simp; try (with_reducible rfl))
  try simp only [Act.put, List.setIfInBounds_toArray, List.set_cons_zero, List.set_cons_succ]
  refine tk4 (by kernel_rfl) (by kernel_rfl) (by kernel_rfl) (by first | exact fun _ _ _ h => h | exact fun _ _ _ h => absurd h.1 (by simp)) (yieldsIf_load_mid (by rfl) _ _ rfl _ _ rfl _ _ (fun w hS => hS.1) g1 rfl g2) (by assumption) ?_
  try simp only [Act.put, List.setIfInBounds_toArray, List.set_cons_zero, List.set_cons_succ]
  refine rd3 (by kernel_rfl) (fun K hK => ?_)
  go_simp
  refine (withPlaces_any xs HX.out _ t.1 _ lo (HV.out.1.keep ?_) hn HI.out).mono ?_
  · exact Carries.of lo hW.drew
  rintro e w6 ⟨rfl, hb6⟩
  refine hK.out _ _ ⟨fun j v h => cell_carry (w := w1.drew) (A0 j v h) (Carries.of 0 hb6), cell_carry (w := w1.drew) A1 (Carries.of 0 hb6)⟩ (fun hHeld => ?_)
  clear hK K
  try simp only [Act.put, List.setIfInBounds_toArray, List.set_cons_zero, List.set_cons_succ]
  refine tk5 (v := ?_) (by kernel_rfl) (by kernel_rfl) (by kernel_rfl) (by first | exact fun _ _ _ h => h | exact fun _ _ _ h => absurd h.1 (by simp)) (Or.inl ⟨by rfl, ?_⟩) (by assumption) ?_
  rotate_left 1
  focus (intro wx hSw; (try dsimp only at hSw); go_simp; try (with_reducible rfl))
  try simp only [Act.put, List.setIfInBounds_toArray, List.set_cons_zero, List.set_cons_succ]
  refine tk6 (v := ?_) (by kernel_rfl) (by kernel_rfl) (by kernel_rfl) (by first | exact fun _ _ _ h => h | exact fun _ _ _ h => absurd h.1 (by simp)) (Or.inl ⟨by rfl, ?_⟩) (by assumption) ?_
  rotate_left 1
  focus (intro wx hSw; (try dsimp only at hSw); go_simp; try (with_reducible rfl))
  try simp only [Act.put, List.setIfInBounds_toArray, List.set_cons_zero, List.set_cons_succ]
  refine wpAnyH_done (by kernel_rfl) ?_ _
  go_wp2_with fail
  go_ret
  exact ⟨rfl, hW.trans (Below.trans (b := w1.drew) (Below.refl _ _).drew (hb6.mono hW.size))⟩

end Go.Proofs.Ytigkgfdnnfmmmaa
