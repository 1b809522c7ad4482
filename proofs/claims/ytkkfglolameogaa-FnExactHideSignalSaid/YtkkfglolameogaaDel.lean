/-
  WALK: slices.Delete of one signal, in a row of the call's own.
-/
import Derived.Test.YtkkfglolameogaaOwnc
import Derived.Deep.RegionHeld3
import Derived.Lib.BufferOwn
namespace Go.Proofs.Ytkkfglolameogaa
open Go.RowKit

theorem pairCells_succ (x y : Nat → Value) (n : Nat) : pairCells x y (n + 1) = pairCells x y n ++ [x n, y n] := rfl
theorem pairCells_append (x y : Nat → Value) (a : Nat) : ∀ b, pairCells x y (a + b) = pairCells x y a ++ pairCells (fun i => x (a + i)) (fun i => y (a + i)) b
  | 0 => by simp [pairCells]
  | b + 1 => by
    rw [← Nat.add_assoc, pairCells_succ, pairCells_succ, pairCells_append x y a b, List.append_assoc]
/-- all but number k -/
def skp (x : Nat → Value) (k i : Nat) : Value := if i < k then x i else x (i + 1)
theorem pairCells_skip {x y : Nat → Value} {k n : Nat} (hk : k < n) : pairCells (skp x k) (skp y k) (n - 1) = pairCells x y k ++ pairCells (fun i => x (k + 1 + i)) (fun i => y (k + 1 + i)) (n - (k + 1)) := by
  obtain ⟨m, rfl⟩ : ∃ m, n = k + 1 + m := ⟨n - (k + 1), by omega⟩
  rw [show k + 1 + m - 1 = k + m by omega, show k + 1 + m - (k + 1) = m by omega, pairCells_append]
  congr 1
  · refine pairCells_congr _ fun i hi => ?_
    unfold skp
    rw [if_pos hi, if_pos hi]; exact ⟨rfl, rfl⟩
  · refine pairCells_congr _ fun i hi => ?_
    unfold skp
    rw [if_neg (by omega), if_neg (by omega), show k + i + 1 = k + 1 + i by omega]; exact ⟨rfl, rfl⟩

/-- the row behind the shift -/
def shiftRow (cur : Array Value) (x y : Nat → Value) (k n : Nat) : Array Value := (cur.toList.take (k * 2) ++ pairCells (fun i => x (k + 1 + i)) (fun i => y (k + 1 + i)) (n - (k + 1)) ++ cur.toList.drop (k * 2 + (pairCells (fun i => x (k + 1 + i)) (fun i => y (k + 1 + i)) (n - (k + 1))).length)).toArray
theorem shiftRow_size {cur : Array Value} {x y : Nat → Value} {k n cap : Nat} (hk : k < n) (hn : n ≤ cap) (hs : cur.size = cap * 2) : (shiftRow cur x y k n).size = cap * 2 := by
  unfold shiftRow
  simp only [List.size_toArray, List.length_append, List.length_take, List.length_drop, Array.length_toList, pairCells_length]
  omega
theorem shiftRow_take {cur : Array Value} {x y : Nat → Value} {k n cap : Nat} (hk : k < n) (hn : n ≤ cap) (hs : cur.size = cap * 2) (ht : cur.toList.take (n * 2) = pairCells x y n) : (shiftRow cur x y k n).toList.take ((n - 1) * 2) = pairCells (skp x k) (skp y k) (n - 1) := by
  have hp : cur.toList.take (k * 2) = pairCells x y k := by
    have : (cur.toList.take (n * 2)).take (k * 2) = cur.toList.take (k * 2) := by rw [List.take_take, Nat.min_eq_left (by omega)]
    rw [← this, ht]
    obtain ⟨m, rfl⟩ : ∃ m, n = k + m := ⟨n - k, by omega⟩
    rw [pairCells_append, ← pairCells_length x y k, List.take_left]
  have hl := pairCells_length (skp x k) (skp y k) (n - 1)
  unfold shiftRow
  rw [hp, ← pairCells_skip hk]
  simp only [List.take_left' hl]

theorem run_shift_load (w : World) (g n k : Nat) (cur : Array Value) (x y : Nat → Value) (hk : k < n) (hg : w.heap[g]? = some (.cells cur 86 (0, 0)))
    (ht : cur.toList.take (n * 2) = pairCells x y n) (off : Nat) (hoff : off = (k + 1) * 2 ∨ n - (k + 1) = 0) :
    (loadCellsFrom ⟨g, off, none⟩ 0 ((n - (k + 1)) * 2) #[]).run Try.prog w = .ok (pairCells (fun i => x (k + 1 + i)) (fun i => y (k + 1 + i)) (n - (k + 1))).toArray w := by
  have h := run_loadCells_list (P := Try.prog) w ⟨g, off, none⟩ (pairCells (fun i => x (k + 1 + i)) (fun i => y (k + 1 + i)) (n - (k + 1)))
    (fun j u hj => by
      have hjl : j < (n - (k + 1)) * 2 := by rw [← pairCells_length (fun i => x (k + 1 + i)) (fun i => y (k + 1 + i)) (n - (k + 1))]; exact (List.getElem?_eq_some_iff.1 hj).1
      rcases hoff with rfl | h0
      · rw [Addr.add_mid]
        have hsplit : (pairCells x y n)[(k + 1) * 2 + j]? = some u := by
          obtain ⟨m, rfl⟩ : ∃ m, n = (k + 1) + m := ⟨n - (k + 1), by omega⟩
          rw [pairCells_append, List.getElem?_append_right (by rw [pairCells_length]; omega), pairCells_length, show (k + 1) * 2 + j - (k + 1) * 2 = j by omega]
          rw [show k + 1 + m - (k + 1) = m by omega] at hj
          exact hj
        rw [← ht, List.getElem?_take] at hsplit
        split at hsplit
        · simp only [World.cell?, hg]
          simpa using hsplit
        · cases hsplit
      · omega)
  rw [pairCells_length] at h
  exact h
theorem run_shift_store (w : World) (g n cap k : Nat) (cur : Array Value) (x y : Nat → Value) (hx : ∀ i, (x i).oneCell' = true) (hy : ∀ i, (y i).oneCell' = true) (hk : k < n) (hn : n ≤ cap) (hs : cur.size = cap * 2) (hg : w.heap[g]? = some (.cells cur 86 (0, 0))) :
    (storeCells ⟨g, k * 2, none⟩ (pairCells (fun i => x (k + 1 + i)) (fun i => y (k + 1 + i)) (n - (k + 1)))).run Try.prog w = .ok () (w.setRow g (shiftRow cur x y k n)) := by
  have h := run_storeCells_at Try.prog g (k * 2) 86 (pairCells (fun i => x (k + 1 + i)) (fun i => y (k + 1 + i)) (n - (k + 1))) 0 cur w hg (by rw [pairCells_length, hs]; omega) (fun u hu => by
      obtain ⟨q, _, h | h⟩ := pairCells_mem _ _ _ u hu
      · rw [h]; exact hx _
      · rw [h]; exact hy _)
  exact h

def clrRow (cur : Array Value) (o : Nat) : Array Value := (cur.toList.take o ++ [Value.string ByteArray.empty, Value.int .i64 0] ++ cur.toList.drop (o + 2)).toArray
theorem clrRow_size {cur : Array Value} {o : Nat} (ho : o + 2 ≤ cur.size) : (clrRow cur o).size = cur.size := by
  unfold clrRow
  simp only [List.size_toArray, List.length_append, List.length_take, List.length_drop, Array.length_toList, List.length_cons, List.length_nil]
  omega
theorem clrRow_take {cur : Array Value} {o : Nat} (ho : o + 2 ≤ cur.size) : (clrRow cur o).toList.take o = cur.toList.take o := by
  unfold clrRow
  simp only [List.append_assoc]
  rw [List.take_append_of_le_length (by rw [List.length_take, Array.length_toList]; omega), List.take_take, Nat.min_self]
theorem run_clear1 (w : World) (ty : TypeId) (g o c : Nat) (cur : Array Value) (hg : w.heap[g]? = some (.cells cur 86 (0, 0))) (ho : o + 2 ≤ cur.size) :
    (Builtin.clear_ #[33] ty #[.slice (some ⟨g, o, none⟩) 1 c]).run Try.prog w = .ok (.tuple #[]) (w.setRow g (clrRow cur o)) := by
  obtain ⟨i, hi, hzz⟩ := Option.map_eq_some_iff.1 Try.infoSig
  simp only [Prod.mk.injEq] at hzz
  obtain ⟨hz, hsz, hby⟩ := hzz
  have h := run_storeCells_at Try.prog g o 86 [Value.string ByteArray.empty, Value.int .i64 0] 0 cur w hg (by simpa using ho) (by simp [Value.oneCell'])
  have e : (Builtin.zeroCells (Value.agg #[Value.string ByteArray.empty, Value.int .i64 0]).cells 1).toList = [Value.string ByteArray.empty, Value.int .i64 0] := by kernel_rfl
  simp only [Builtin.clear_, run_underlying Try.underlying33, Sem.run_bind, Result.andThen_ok, zeroValue, typeInfo, hi, hz, Sem.run_pure, e]
  have h' : (storeCells ⟨g, o, none⟩ [Value.string ByteArray.empty, Value.int .i64 0]).run Try.prog w = .ok () (w.setRow g (clrRow cur o)) := h
  simp [hi, hz, e, h']

/-- a call returns the row but one of its pairs -/
def RetDel (hi g n cap k : Nat) (x y : Nat → Value) (w : World) (e : Ending) (w' : World) : Prop :=
  e = .returned (.slice (some ⟨g, 0, none⟩) (n - 1) cap) ∧ w'.ownsRow hi 86 2 (.slice (some ⟨g, 0, none⟩) (n - 1) cap) (n - 1) (pairCells (skp x k) (skp y k) (n - 1)) ∧ w.grownBy w' (some g)

theorem World.grownBy_of_drew (w : World) (row : Option Nat) : w.grownBy w.drew row := ⟨rfl, rfl, rfl, Nat.le_refl _, fun _ _ _ => rfl⟩
theorem setRow_grown (w : World) (g : Nat) (cs : Array Value) : w.grownBy (w.setRow g cs) (some g) :=
  ⟨rfl, rfl, rfl, by simp [World.setRow], fun k _ hk => setRow_other w g k _ (fun e => hk (by rw [e]))⟩

set_option maxRecDepth 100000 in
set_option maxHeartbeats 1000000 in
theorem deletesig_any (hi g n cap k : Nat) (x y : Nat → Value) (w : World) (hown : w.ownsRow hi 86 2 (.slice (some ⟨g, 0, none⟩) n cap) n (pairCells x y n)) (hk : k < n) (hn : n ≤ 1048576) (hx : ∀ i, (x i).oneCell' = true) (hy : ∀ i, (y i).oneCell' = true) :
    Calls Try.prog 76 #[.slice (some ⟨g, 0, none⟩) n cap, .int .i64 (k : Int), .int .i64 ((k : Int) + 1)] w (RetDel hi g n cap k x y w) := by
  rcases hown.2 with ⟨e, _⟩ | ⟨g', cap', cur, e, hgb, hg, hnc, hcm, hcs, ht⟩
  · cases e
  simp only [Value.slice.injEq, Option.some.injEq, Addr.mk.injEq, and_true, true_and] at e
  obtain ⟨rfl, rfl⟩ := e
  unfold maxLen at hcm
  by_cases hcap : cap = k + 1
  · subst hcap
    obtain rfl : n = k + 1 := by omega
    have hne : ((k : Int) == (k : Int) + 1) = false := by rw [beq_eq_false_iff_ne]; omega
    have hcl := run_clear1 w.drew 0 g (k * 2) 1 cur hg (by omega)
    have hh2 := setRow_heap w.drew g _ (clrRow cur (k * 2)) 86 (0, 0) hg
    have hs2 := (clrRow_size (cur := cur) (o := k * 2) (by omega)).trans hcs
    have hp : cur.toList.take (k * 2) = pairCells x y k := by
      have : (cur.toList.take ((k + 1) * 2)).take (k * 2) = cur.toList.take (k * 2) := by rw [List.take_take, Nat.min_eq_left (by omega)]
      rw [← this, ht, pairCells_succ, ← pairCells_length x y k, List.take_left]
    have ht2 := (clrRow_take (cur := cur) (o := k * 2) (by omega)).trans hp
    have hgr := Lib.grownBy_trans (World.grownBy_of_drew w (some g)) (setRow_grown w.drew g (clrRow cur (k * 2)))
    have hsk : pairCells (skp x k) (skp y k) k = pairCells x y k := pairCells_congr _ fun i hi => by unfold skp; rw [if_pos hi, if_pos hi]; exact ⟨rfl, rfl⟩
    have hown2 : (w.drew.setRow g (clrRow cur (k * 2))).ownsRow hi 86 2 (.slice (some ⟨g, 0, none⟩) k (k + 1)) k (pairCells (skp x k) (skp y k) k) :=
      ⟨pairCells_length _ _ _, Or.inr ⟨g, k + 1, _, rfl, hgb, hh2, by omega, by unfold maxLen; omega, hs2, by rw [hsk]; exact ht2⟩⟩
    have HGR := Lib.hid (And.intro hgr hown2); clear hgr hown2 ht2 hs2 hh2 hp hsk ht
    generalize w.drew.setRow g (clrRow cur (k * 2)) = W2 at hcl HGR
    have b7 : (k : Int) ≤ (k : Int) + 1 := by omega
    have b8 : k ≤ k + 1 := by omega
    have b0 : (0 : Int) ≤ (k : Int) := by omega
    have b2 : (0 : Int) ≤ (k : Int) + 1 := by omega
    have b5 : k + 1 - k = 1 := by omega
    go_enter Try.func76, Try.ntmps76
    go_wp2_with fail
    go_region_held3 (fun _ => True) (exact trivial) (fail)
    go_wp2_with fail
    go_ret
    exact ⟨rfl, HGR.out.2, HGR.out.1⟩
  have hsz := shiftRow_size (x := x) (y := y) hk hnc hcs
  have htk := shiftRow_take hk hnc hcs ht
  have hh := setRow_heap w.drew g cur (shiftRow cur x y k n) 86 (0, 0) hg
  have hcl := run_clear1 (w.drew.setRow g (shiftRow cur x y k n)) 0 g ((n - 1) * 2) (cap - (n - 1)) (shiftRow cur x y k n) hh (by rw [hsz]; omega)
  have hgr := setRow_grown w.drew g (shiftRow cur x y k n)
  have hh2 := setRow_heap _ g _ (clrRow (shiftRow cur x y k n) ((n - 1) * 2)) 86 (0, 0) hh
  have hs2 := (clrRow_size (cur := shiftRow cur x y k n) (o := (n - 1) * 2) (by rw [hsz]; omega)).trans hsz
  have ht2 := (clrRow_take (cur := shiftRow cur x y k n) (o := (n - 1) * 2) (by rw [hsz]; omega)).trans htk
  have hgr2 := Lib.grownBy_trans hgr (setRow_grown _ g (clrRow (shiftRow cur x y k n) ((n - 1) * 2)))
  have hgr3 : w.grownBy _ (some g) := Lib.grownBy_trans (World.grownBy_of_drew w (some g)) hgr2
  have hlen : (pairCells (skp x k) (skp y k) (n - 1)).length = (n - 1) * 2 := pairCells_length _ _ _
  have hown2 : ((w.drew.setRow g (shiftRow cur x y k n)).setRow g (clrRow (shiftRow cur x y k n) ((n - 1) * 2))).ownsRow hi 86 2 (.slice (some ⟨g, 0, none⟩) (n - 1) cap) (n - 1) (pairCells (skp x k) (skp y k) (n - 1)) :=
    ⟨hlen, Or.inr ⟨g, cap, _, rfl, hgb, hh2, by omega, by unfold maxLen; omega, hs2, ht2⟩⟩
  have HGR := Lib.hid (And.intro hgr3 hown2); clear hgr hgr2 hgr3 hown2 hlen ht2 hs2 hh2
  have hst := run_shift_store w.drew g n cap k cur x y hx hy hk hnc hcs hg
  have b0 : (0 : Int) ≤ (k : Int) := by omega
  have b1 : (k : Int) ≤ (cap : Int) := by omega
  have b2 : (0 : Int) ≤ (k : Int) + 1 := by omega
  have b3 : (k : Int) + 1 ≤ (n : Int) := by omega
  have b4 : k + (n - (k + 1)) = n - 1 := by omega
  have b5 : n - (n - 1) = 1 := by omega
  have b6 : ((n - 1 : Nat) : Int) = (n : Int) - 1 := by omega
  have hkl : k + (n - (k + 1)) ≤ cap := by omega
  clear hsz htk hh
  generalize (w.drew.setRow g (shiftRow cur x y k n)).setRow g (clrRow (shiftRow cur x y k n) ((n - 1) * 2)) = W2 at hcl HGR
  generalize w.drew.setRow g (shiftRow cur x y k n) = W1 at hst hcl
  have hne : ((k : Int) == (k : Int) + 1) = false := by rw [beq_eq_false_iff_ne]; omega
  go_enter Try.func76, Try.ntmps76
  go_wp2_with fail
  generalize hnews : pairCells (fun i => x (k + 1 + i)) (fun i => y (k + 1 + i)) (n - (k + 1)) = news at hst
  have hld := run_shift_load w.drew g n k cur x y hk hg ht ((k + 1) * 2) (by omega)
  rw [hnews] at hld
  clear hnews
  go_region_held3 (fun _ => True) (exact trivial) (fail)
  go_wp2_with fail
  go_ret
  exact ⟨rfl, HGR.out.2, HGR.out.1⟩

end Go.Proofs.Ytkkfglolameogaa
