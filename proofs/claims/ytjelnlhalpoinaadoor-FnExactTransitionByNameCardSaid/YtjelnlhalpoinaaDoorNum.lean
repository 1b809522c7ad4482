/-
  WALKS: numbers below a hundred as text: strconv.Itoa and the model's l1Num.
-/
import Derived.Test.YtjelnlhalpoinaaDoorChecked
import Derived.Test.YtjelnlhalpoinaaDoorNetd
import Derived.Laws.BytesString
import Derived.StillTailTactics
import Derived.Deep.RegionHeld3
namespace Go.Proofs.YtjelnlhalpoinaaDoor
open Go.RowKit

/-- one digit; a number below a hundred -/
def d1 (n : Nat) : ByteArray := ByteArray.empty.push (UInt8.ofNat (48 + n))
def num2 (n : Nat) : ByteArray := if n < 10 then d1 n else d1 (n / 10) ++ d1 (n % 10)
theorem num2_one {n : Nat} (h : n < 10) : num2 n = d1 n := by unfold num2; rw [if_pos h]
theorem num2_two {n : Nat} (h : ¬ n < 10) : num2 n = d1 (n / 10) ++ d1 (n % 10) := by unfold num2; rw [if_neg h]
theorem num2_size {n : Nat} : (num2 n).size ≤ 2 := by
  unfold num2
  split
  · show (1 : Nat) ≤ 2; omega
  · rw [ByteArray.size_append]; show (1 : Nat) + 1 ≤ 2; omega

set_option maxRecDepth 100000 in
set_option maxHeartbeats 1000000 in
theorem small_one (n : Nat) (w : World) (h : n < 10) :
    Calls Tryd.prog 130 #[.int .i64 n] w (fun e w' => e = .returned (.string (num2 n)) ∧ w' = w) := by
  have hn : (n : Int) < 10 := by omega
  rw [num2_one h]
  go_enter Tryd.func130, Tryd.ntmps130
  go_wp2_with fail
  go_ret
  refine ⟨?_, rfl⟩
  refine congrArg (fun s => Ending.returned (Value.string s)) ?_
  obtain ⟨m, hm⟩ : ∃ m, m = n := ⟨n, rfl⟩
  rw [← hm] at h ⊢
  clear hm
  revert h
  revert m
  decide +kernel

set_option maxRecDepth 100000 in
set_option maxHeartbeats 1000000 in
theorem small_two (n : Nat) (w : World) (h : ¬ n < 10) (h2 : n < 100) :
    Calls Tryd.prog 130 #[.int .i64 n] w (fun e w' => e = .returned (.string (num2 n)) ∧ w' = w) := by
  have hn : ¬ (n : Int) < 10 := by omega
  have hn2 : (n : Int) < 100 := by omega
  rw [num2_two h]
  go_enter Tryd.func130, Tryd.ntmps130
  go_wp2_with fail
  go_ret
  refine ⟨?_, rfl⟩
  refine congrArg (fun s => Ending.returned (Value.string s)) ?_
  obtain ⟨m, hm⟩ : ∃ m, m = n := ⟨n, rfl⟩
  rw [← hm] at h h2 ⊢
  clear hm
  revert h
  revert h2
  revert m
  decide +kernel

set_option maxRecDepth 100000 in
theorem small_any (n : Nat) (w : World) (h2 : n < 100) :
    Calls Tryd.prog 130 #[.int .i64 n] w (fun e w' => e = .returned (.string (num2 n)) ∧ w' = w) := by
  by_cases h : n < 10
  · exact small_one n w h
  · exact small_two n w h h2

set_option maxRecDepth 100000 in
theorem FormatInt_any (n : Nat) (w : World) (h2 : n < 100) :
    Calls Tryd.prog 123 #[.int .i64 n, .int .i64 10] w (fun e w' => e = .returned (.string (num2 n)) ∧ w' = w) := by
  have hn2 : (n : Int) < 100 := by omega
  go_enter Tryd.func123, Tryd.ntmps123
  go_wp2_with fail
  refine (small_any n _ h2).mono ?_
  rintro e w' ⟨rfl, rfl⟩
  go_wp2_with fail
  go_ret
  exact ⟨rfl, rfl⟩

theorem Itoa_in (n : Nat) (w : World) (h2 : n < 100) :
    Calls Tryd.prog 108 #[.int .i64 n] w (fun e w' => e = .returned (.string (num2 n)) ∧ w' = w) := by
  go_enter Tryd.func108, Tryd.ntmps108
  go_wp2_with fail
  refine (FormatInt_any n _ h2).mono ?_
  rintro e w' ⟨rfl, rfl⟩
  go_wp2_with fail
  go_ret
  exact ⟨rfl, rfl⟩

theorem Itoa_any (n : Nat) (w : World) (h2 : n < 100) :
    Calls Tryd.prog 82 #[.int .i64 n] w (fun e w' => e = .returned (.string (num2 n)) ∧ w' = w) := by
  go_enter Tryd.func82, Tryd.ntmps82
  go_wp2_with fail
  refine (Itoa_in n _ h2).mono ?_
  rintro e w' ⟨rfl, rfl⟩
  go_wp2_with fail
  go_ret
  exact ⟨rfl, rfl⟩

theorem conv_at (w : World) (b : Nat) (z : Int) (hc : w.cell? ⟨b, 0, none⟩ = some (.int .u8 z)) : (convert 45 9 (.slice (some ⟨b, 0, none⟩) 1 1)).run Tryd.prog w = .ok (.string (ByteArray.empty.push (UInt8.ofNat z.toNat))) w := by
  rw [run_convert_bytes_string _ 45 9 5 _ _ _ Tryd.underlying45 Tryd.underlying5 Tryd.underlying9]
  have hl := run_loadCells_list (P := Tryd.prog) w ⟨b, 0, none⟩ [.int .u8 z] (fun j v hv => by
    match j, hv with
    | 0, hv => simp only [List.getElem?_cons_zero, Option.some.injEq] at hv; subst hv; simpa [Addr.add] using hc
    | (j + 1), hv => simp at hv)
  exact run_bytesToString _ ⟨b, 0, none⟩ 1 1 [z] hl
theorem conv_new (w : World) (e : TypeId) (z : Int) : (convert 45 9 (.slice (some ⟨w.heap.size, 0, none⟩) 1 1)).run Tryd.prog (w.alloc (.cells #[.int .u8 z] e)) = .ok (.string (ByteArray.empty.push (UInt8.ofNat z.toNat))) (w.alloc (.cells #[.int .u8 z] e)) :=
  conv_at _ _ _ (by simp)

set_option maxRecDepth 100000 in
set_option maxHeartbeats 1000000 in
theorem l1Num_one (n : Nat) (w : World) (h : n < 10) :
    Calls Tryd.prog 78 #[.int .i64 n] w (RetV w (.string (d1 n))) := by
  have hn : (n : Int) < 10 := by omega
  have kc := conv_new
  go_enter Tryd.func78, Tryd.ntmps78
  go_wp2_with fail
  go_ret
  exact ⟨rfl, by (repeat' (first | (with_reducible exact Below.refl _ _) | (with_reducible assumption) | (with_reducible refine Below.alloc ?_ ?_ _) | (with_reducible refine Below.drew ?_) | (with_reducible refine below_drewN ?_ _) | (with_reducible refine Below.setCell ?_ ?_ _) | go_size))⟩

end Go.Proofs.YtjelnlhalpoinaaDoor
