/- APPEND of ints onto a slice of the call's own; the walks l1Own, l1Both.
   APPEND of one int at a time: what the row of the numbers that pass a test is; rows that are owned read, and may be written.
   BOXES of cells that may be written; WALKS: markStringS, toStringS once more.
   PLAIN PART: three cells in a row are written. No program is named here. -/
import Derived.Test.YtfipnlehaklepaaVInts
import Derived.Laws.AppendOwnNone
import Derived.Test.YtfipnlehaklepaaVSteps
import Derived.Test.YtfipnlehaklepaaVOwn
import Derived.Lib.BufferOwn
import Derived.Lib.SmallJoins
import Derived.Test.YtfipnlehaklepaaVRgd
import Derived.Test.YtfipnlehaklepaaVRga
namespace Go.Proofs.Ytfipnlehaklepaa
open Go.RowKit

/-- the cells of a list of ints -/
def intCells (zs : List Int) : List Value := zs.map (Value.int .i64)
theorem intCells_length (zs : List Int) : (intCells zs).length = zs.length := by simp [intCells]
theorem intCells_append (a b : List Int) : intCells (a ++ b) = intCells a ++ intCells b := by simp [intCells]
theorem intCells_one (zs : List Int) : ∀ u ∈ intCells zs, u.oneCell' = true := by
  intro u hu
  obtain ⟨z, _, rfl⟩ := List.mem_map.1 hu
  rfl
theorem intCells_get {zs : List Int} {i : Nat} (h : i < zs.length) : (intCells zs)[i]? = some (.int .i64 (zs.getD i 0)) := by
  simp [intCells, h, List.getD]

theorem ints_of_owns {w : World} {base : Nat} {v : Value} {zs : List Int} (h : w.ownsRow base 3 1 v zs.length (intCells zs)) : IntsAt base w v zs := by
  have h0 := h
  rcases h.2 with ⟨rfl, hn⟩ | ⟨g, cap, cur, rfl, hb, hg, hnc, _, _, _⟩
  · have hz : zs = [] := List.eq_nil_of_length_eq_zero hn
    subst hz
    exact ⟨_, _, rfl, Nat.le_refl _, Or.inl rfl⟩
  · refine ⟨_, _, rfl, hnc, Or.inr ⟨g, 0, rfl, hb, fun i hi => ?_⟩⟩
    rw [Nat.zero_add, h0.cellAt i (by omega)]
    exact intCells_get hi

theorem run_append_ints (w : World) (ty : TypeId) (base lo : Nat) (v : Value) (n : Nat) (xs : List Value) (hown : w.ownsRow base 3 1 v n xs) (src : Value) (zs : List Int) (hsrc : IntsAt lo w src zs)
    (hlen : n + zs.length ≤ 1073741824) (hbase : base ≤ w.heap.size) :
    ∃ v' w', (Builtin.append_ #[45, 45] ty #[v, src]).run Try.prog w = .ok v' w' ∧ w'.ownsRow base 3 1 v' (n + zs.length) (xs ++ intCells zs) ∧ w.grownBy w' v.ownBlock := by
  obtain ⟨i, hi, hzz⟩ := Option.map_eq_some_iff.1 Try.infoInt
  simp only [Prod.mk.injEq] at hzz
  obtain ⟨hz, hs, hby⟩ := hzz
  obtain ⟨ao, cap, rfl, hc, hcase⟩ := hsrc
  rcases hcase with rfl | ⟨b, off, rfl, _, hcell⟩
  · have hrun : (Builtin.append_ #[45, 45] ty #[v, .slice ao 0 cap]).run Try.prog w = .ok v w := by
      rcases hown.2 with ⟨rfl, rfl⟩ | ⟨g, cap', cur, rfl, _, _, hnc, _⟩
      · cases ao <;> simp [Builtin.append_, run_underlying Try.underlying45, sizeOf, typeInfo, hi, Builtin.lenOf, Builtin.firstCells, loadCells, loadCellsFrom]
      · cases ao <;> simp [Builtin.append_, run_underlying Try.underlying45, sizeOf, typeInfo, hi, Builtin.lenOf, Builtin.firstCells, hnc, storeCells, loadCells, loadCellsFrom]
    exact ⟨v, w, hrun, by simpa [intCells] using hown, ⟨rfl, rfl, rfl, Nat.le_refl _, fun _ _ _ => rfl⟩⟩
  · obtain ⟨v', w', hr, h2, h3, _⟩ := run_append_own (P := Try.prog) w base 45 ty 3 i _ 1 8 Try.underlying45 hi hz hs hby rfl (by omega) v n xs hown ⟨b, off, none⟩ zs.length cap (intCells zs)
      (by rw [intCells_length, Nat.mul_one]) (fun j u hj => by
        have hjl : j < zs.length := by rw [← intCells_length]; exact (List.getElem?_eq_some_iff.1 hj).1
        rw [intCells_get hjl] at hj
        rw [Addr.add_mid, hcell j hjl]
        exact hj) (intCells_one zs) (by unfold maxLen; omega) (by omega) hbase
    exact ⟨v', w', hr, h2, h3⟩

theorem wp_append_ints {o : Oper} {a : Act} {w : World} {K : Act → World → Prop} {Q : Exit → Act → World → Prop} (s x : Operand)
    (ho : o.op = .call { callee := .builtin .append, args := #[s, x], argTypes := #[45, 45] })
    (base lo : Nat) (v : Value) (n : Nat) (xs : List Value) (hs : a.eval s = v) (hown : w.ownsRow base 3 1 v n xs) (src : Value) (zs : List Int) (hx : a.eval x = src) (hsrc : IntsAt lo w src zs)
    (hlen : n + zs.length ≤ 1073741824) (hbase : base ≤ w.heap.size)
    (h : ∀ v' w', w'.ownsRow base 3 1 v' (n + zs.length) (xs ++ intCells zs) → w.grownBy w' v.ownBlock → K (a.put o.dst v') w') : o.wp Try.prog a w K Q := by
  obtain ⟨v', w', hr, h2, h3⟩ := run_append_ints w o.type base lo v n xs hown src zs hsrc hlen hbase
  unfold Oper.wp execOp
  simp only [ho, resolve, invoke, builtin, Sem.run_bind, Sem.run_pure, Result.andThen_ok, List.map_toArray, List.map_cons, List.map_nil, hs, hx, hr]
  exact h v' w' h2 h3

theorem wpList_append_ints {ops : Array Oper} {rest : List Oper} {o : Oper} {a : Act} {w : World} {Q : Exit → Act → World → Prop} (hgd : o.guard = none) (s x : Operand)
    (ho : o.op = .call { callee := .builtin .append, args := #[s, x], argTypes := #[45, 45] })
    (base lo : Nat) (v : Value) (n : Nat) (xs : List Value) (hs : a.eval s = v) (hown : w.ownsRow base 3 1 v n xs) (src : Value) (zs : List Int) (hx : a.eval x = src) (hsrc : IntsAt lo w src zs)
    (hlen : n + zs.length ≤ 1073741824) (hbase : base ≤ w.heap.size)
    (h : ∀ v' w', w'.ownsRow base 3 1 v' (n + zs.length) (xs ++ intCells zs) → w.grownBy w' v.ownBlock → wpList Try.prog ops Q rest (a.put o.dst v') w') : wpList Try.prog ops Q (o :: rest) a w :=
  wpList_plain hgd fun _ hK => wp_append_ints s x ho base lo v n xs hs hown src zs hx hsrc hlen hbase fun v' w' h2 h3 => hK _ _ (h v' w' h2 h3)

/-- a call returns a slice that it owns -/
def RetOwn (w : World) (zs : List Int) (e : Ending) (w' : World) : Prop := ∃ v, e = .returned v ∧ w'.ownsRow w.heap.size 3 1 v zs.length (intCells zs) ∧ Below w.heap.size w w'

set_option maxRecDepth 100000 in
set_option maxHeartbeats 400000 in
theorem l1Own_any (v : Value) (zs : List Int) (w : World) (lo : Nat) (hv : IntsAt lo w v zs) (hn : zs.length ≤ 4194304) :
    Calls Try.prog 173 #[v] w (RetOwn w zs) := by
  have hv' := hv
  obtain ⟨ao, cap, rfl, _, _⟩ := hv'
  have HV := Lib.hid hv; clear hv
  go_enter Try.func173, Try.ntmps173
  have hown : (w.alloc (.cells #[] 3)).ownsRow w.heap.size 3 1 (.slice (some ⟨w.heap.size, 0, none⟩) 0 0) 0 [] :=
    ⟨rfl, Or.inr ⟨w.heap.size, 0, #[], rfl, Nat.le_refl _, heap_alloc_new w _, Nat.le_refl _, Nat.zero_le _, rfl, rfl⟩⟩
  have HO := Lib.hid hown; clear hown
  have hsrc := Lib.hid (HV.out.keep (Carries.alloc (Carries.refl lo w) (.cells #[] 3)))
  go_wp2_with (refine wpList_append_ints rfl (.tmp 3) (.tmp 4) rfl w.heap.size lo _ 0 [] rfl HO.out _ zs rfl hsrc.out (by omega) (by simp) ?_; intro v' w' hown' hgrow)
  go_ret
  refine ⟨_, rfl, ?_, ?_⟩
  · simpa using hown'
  · exact ((Below.refl _ _).alloc (Nat.le_refl _) _).grown hgrow (by simp) (fun k hk => by cases hk; exact Nat.le_refl _)

/-- both lists of a transition -/
def both (t : Tr) : List Int := t.1 ++ t.2

end Go.Proofs.Ytfipnlehaklepaa

namespace Go.Proofs.Ytfipnlehaklepaa
open Go.RowKit

theorem owns_after {w w' : World} {B : Nat} {e : TypeId} {size : Nat} {v : Value} {n : Nat} {xs : List Value} (h : w.ownsRow B e size v n xs) (hb : Below w.heap.size w w') : w'.ownsRow B e size v n xs := by
  refine h.kept (row := none) ⟨hb.os, hb.tape, hb.output, hb.size, fun i hi _ => hb.block i hi⟩ ?_
  cases v.ownBlock with
  | none => exact Or.inl rfl
  | some k => exact Or.inr (by simp)

theorem ints_one (w : World) (e : TypeId) (z : Int) : IntsAt 0 (w.alloc (.cells #[.int .i64 z] e)) (.slice (some ⟨w.heap.size, 0, none⟩) 1 1) [z] := by
  refine ⟨_, 1, rfl, Nat.le_refl _, Or.inr ⟨w.heap.size, 0, rfl, Nat.zero_le _, fun i hi => ?_⟩⟩
  have h0 : i = 0 := by simp at hi; omega
  subst h0
  simp

/-- the numbers below k at which f is true -/
def enTo (f : Nat → Bool) (k : Nat) : List Int := ((List.range k).filter f).map Int.ofNat
theorem enTo_zero (f : Nat → Bool) : enTo f 0 = [] := rfl
theorem enTo_true {f : Nat → Bool} {k : Nat} (h : f k = true) : enTo f (k + 1) = enTo f k ++ [(k : Int)] := by
  unfold enTo
  rw [List.range_succ, List.filter_append, List.filter_cons_of_pos h, List.filter_nil, List.map_append]
  rfl
theorem enTo_false {f : Nat → Bool} {k : Nat} (h : f k = false) : enTo f (k + 1) = enTo f k := by
  unfold enTo
  rw [List.range_succ, List.filter_append, List.filter_cons_of_neg (by simp [h]), List.filter_nil, List.append_nil]
theorem enTo_length (f : Nat → Bool) (k : Nat) : (enTo f k).length ≤ k := by
  unfold enTo
  rw [List.length_map]
  exact Nat.le_trans (List.length_filter_le _ _) (by simp)

theorem ow_of_owns {w : World} {base : Nat} {v : Value} {zs : List Int} (h : w.ownsRow base 3 1 v zs.length (intCells zs)) : IntsOw base w v zs := by
  have h0 := h
  rcases h.2 with ⟨rfl, hn⟩ | ⟨g, cap, cur, rfl, hb, hg, hnc, _, _, _⟩
  · have hz : zs = [] := List.eq_nil_of_length_eq_zero hn
    subst hz
    exact ⟨_, _, rfl, Nat.le_refl _, Or.inl rfl⟩
  · refine ⟨_, _, rfl, hnc, Or.inr ⟨g, 0, rfl, hb, fun i hi => ⟨?_, ?_⟩⟩⟩
    · rw [Nat.zero_add, h0.cellAt i (by omega)]
      exact intCells_get hi
    · exact h0.frozenAt _
theorem ow_nil (w : World) (lo : Nat) : IntsOw lo w (.slice none 0 0) [] := ⟨none, 0, rfl, Nat.le_refl _, Or.inl rfl⟩

theorem ints_nil (w : World) (lo : Nat) : IntsAt lo w (.slice none 0 0) [] := ⟨none, 0, rfl, Nat.le_refl _, Or.inl rfl⟩

end Go.Proofs.Ytfipnlehaklepaa

namespace Go.Proofs.Ytfipnlehaklepaa
open Go.RowKit

/-- n elements of sz cells each that may be written, in a block from lo on, before hi -/
def CellBox (lo hi : Nat) (w : World) (v : Value) (n sz : Nat) : Prop :=
  ∃ (ao : Option Addr) (cap : Nat), v = .slice ao n cap ∧
    (n = 0 ∨ ∃ b off, ao = some ⟨b, off, none⟩ ∧ lo ≤ b ∧ b < hi ∧ ∀ i, i < n * sz → (∃ u, w.cell? ⟨b, off + i, none⟩ = some u) ∧ w.frozen? ⟨b, off + i, none⟩ = false)
theorem CellBox.form {lo hi : Nat} {w : World} {v : Value} {n sz : Nat} (h : CellBox lo hi w v n sz) : ∃ a c, v = .slice a n c := by
  obtain ⟨a, c, rfl, _⟩ := h
  exact ⟨a, c, rfl⟩
theorem CellBox.stir {lo hi l k : Nat} {w w' : World} {v : Value} {n sz : Nat} (h : CellBox lo hi w v n sz) (hs : Stir l k w w') (hc : hi ≤ l ∨ k ≤ lo) : CellBox lo hi w' v n sz := by
  obtain ⟨ao, cap, hv, hz⟩ := h
  refine ⟨ao, cap, hv, ?_⟩
  rcases hz with hz | ⟨b, off, ha, h1, h2, hcell⟩
  · exact Or.inl hz
  · refine Or.inr ⟨b, off, ha, h1, h2, fun i hi => ?_⟩
    obtain ⟨⟨u, hu⟩, hf⟩ := hcell i hi
    have hb := cell_old hu
    exact ⟨⟨u, hs.cell (by simp; omega) hu⟩, (hs.frozen (by simp; omega) hb).trans hf⟩
theorem CellBox.wide {lo hi lo' hi' : Nat} {w : World} {v : Value} {n sz : Nat} (h : CellBox lo hi w v n sz) (h1 : lo' ≤ lo) (h2 : hi ≤ hi') : CellBox lo' hi' w v n sz := by
  obtain ⟨ao, cap, hv, hz⟩ := h
  refine ⟨ao, cap, hv, ?_⟩
  rcases hz with hz | ⟨b, off, ha, q1, q2, hcell⟩
  · exact Or.inl hz
  · exact Or.inr ⟨b, off, ha, by omega, by omega, hcell⟩
theorem CellBox.after {lo hi : Nat} {w w' : World} {v : Value} {n sz : Nat} (h : CellBox lo hi w v n sz) (hb : Below w.heap.size w w') : CellBox lo hi w' v n sz := h.stir (Stir.of 0 0 hb) (Or.inr (Nat.zero_le _))
theorem CellBox.same {lo hi B : Nat} {w w' : World} {v : Value} {n sz : Nat} (h : CellBox lo hi w v n sz) (hs : Same B w w') (hB : B ≤ lo) : CellBox lo hi w' v n sz := by
  obtain ⟨ao, cap, hv, hz⟩ := h
  refine ⟨ao, cap, hv, ?_⟩
  rcases hz with hz | ⟨b, off, ha, q1, q2, hcell⟩
  · exact Or.inl hz
  · refine Or.inr ⟨b, off, ha, q1, q2, fun i hi => ?_⟩
    obtain ⟨⟨u, hu⟩, hf⟩ := hcell i hi
    have he := hs.2 b (by omega) (by have := cell_old hu; simpa using this)
    exact ⟨⟨u, (World.cell?_of_block (w := w) (w' := w') (a := ⟨b, off + i, none⟩) he).trans hu⟩, (World.frozen?_of_block (w := w) (w' := w') (a := ⟨b, off + i, none⟩) he).trans hf⟩
theorem CellBox.set {lo hi : Nat} {w : World} {v : Value} {n sz : Nat} (h : CellBox lo hi w v n sz) (p : Addr) (u : Value) : CellBox lo hi (w.setCell p u) v n sz := by
  obtain ⟨ao, cap, hv, hz⟩ := h
  refine ⟨ao, cap, hv, ?_⟩
  rcases hz with hz | ⟨b, off, ha, q1, q2, hcell⟩
  · exact Or.inl hz
  · refine Or.inr ⟨b, off, ha, q1, q2, fun i hi => ?_⟩
    obtain ⟨⟨z, hu⟩, hf⟩ := hcell i hi
    refine ⟨?_, (World.frozen?_setCell _ _ _ _).trans hf⟩
    by_cases e : p = ⟨b, off + i, none⟩
    · subst e; exact ⟨u, World.cell?_setCell_same _ _ _ hu⟩
    · exact ⟨z, (World.cell?_setCell_other _ _ _ _ e).trans hu⟩

set_option maxHeartbeats 1000000 in
theorem markStringS_any (v : Value) (n : Nat) (k : Int) (w : World) (lo hi : Nat) (hv : CellBox lo hi w v n 1) (hn : n ≤ 1048576) (h0 : 0 ≤ k) (h1 : k ≤ 109951162777600) :
    Calls Try.prog 68 #[v, .int .i64 k] w (fun e w' => e = .returned (.int .i64 (k + (n : Int))) ∧ Stir lo hi w w') := by
  obtain ⟨ao, cap, rfl⟩ := hv.form
  have HB := Lib.hid hv; clear hv
  go_enter Try.func68, Try.ntmps68
  go_wp2_with fail
  go_loopw [1, 5] (fun kv i wr => ∃ j : Nat, j ≤ n ∧ i = .int .i64 j ∧ kv = .int .i64 (k + (j : Int)) ∧ Stir lo hi w wr ∧ Hid (CellBox lo hi wr (.slice ao n cap) n 1)) (fun _ i _ => n - (intOf i).toNat)
  case atStart => exact ⟨0, Nat.zero_le _, rfl, by simp, Stir.refl _ _ _, HB.out⟩
  case round =>
    obtain ⟨j, hj, rfl, rfl, hm, hbox⟩ := hrel
    by_cases hlt : j < n
    · obtain ⟨a, c, e, hz⟩ := id hbox.out
      simp only [Value.slice.injEq, true_and] at e
      obtain ⟨rfl, rfl⟩ := e
      rcases hz with h | ⟨b, off, rfl, hlo, hhi, hcell⟩
      · omega
      obtain ⟨⟨u0, c0⟩, f0⟩ := hcell j (by omega)
      clear hcell
      have hb00 : b < wr.heap.size := cell_old c0
      go_wp2_with fail
      refine (markText_any _ _ (by omega) (by omega)).mono ?_
      rintro e w1 ⟨s, rfl, hb⟩
      have c0 := cell_carry c0 (Carries.of 0 hb)
      have f0 := (hb.frozen (p := ⟨b, off + j, none⟩) hb00).trans f0
      have HM3 := Lib.hid ((hm.trans (Stir.of lo hi hb)).set (p := ⟨b, off + j, none⟩) hlo hhi (.string s))
      have HB3 := Lib.hid ((hbox.out.after hb).set ⟨b, off + j, none⟩ (.string s))
      clear hm hbox hb
      go_wp2_with fail
      go_roundw
      case rel => exact ⟨j + 1, by omega, by go_num, by simp; omega, HM3.out, HB3.out⟩
      case measure => simp [intOf]; omega
    · have hjj : j = n := by omega
      subst hjj
      go_wp2_with fail
      go_ret
      exact ⟨rfl, hm⟩

set_option maxHeartbeats 400000 in
theorem toStringS_row (v : Value) (zs : List ByteArray) (w : World) (lo : Nat) (hv : TextsAt lo w v zs) (hn : zs.length ≤ 1048576) :
    Calls Try.prog 54 #[v] w (fun e w' => ∃ b, e = .returned (.slice (some ⟨b, 0, none⟩) zs.length zs.length) ∧ w.heap.size ≤ b ∧ b < w'.heap.size ∧ w'.rowIs b 9 zs.length (scopied zs zs.length) ∧ Below w.heap.size w w') := by
  obtain ⟨ao, cap, rfl, hc, hz⟩ := hv
  have hmk := run_make_row' (P := Try.prog) 23 9 (.string ByteArray.empty) 16 Try.underlying23 Try.infoStr rfl .i64 .i64 zs.length (by omega) (by omega)
  have HF := Lib.hid hz; clear hz
  go_enter Try.func54, Try.ntmps54
  go_wp2
  go_loopw [4] (fun i wr => ∃ k : Nat, k ≤ zs.length ∧ i = .int .i64 k ∧ wr.rowIs w.heap.size 9 zs.length (scopied zs k) ∧ Below w.heap.size w wr ∧ w.heap.size < wr.heap.size) (fun i _ => zs.length - (intOf i).toNat)
  case atStart => exact ⟨0, Nat.zero_le _, rfl, (World.rowIs_made _ _ _ _).congr (fun i _ => by simp [scopied]), (Below.refl _ _).alloc (Nat.le_refl _) _, by simp⟩
  case round =>
    obtain ⟨k, hk, rfl, hrow, hb1, hz1⟩ := hrel
    by_cases hlt : k < zs.length
    · rcases HF.out with h0 | ⟨b, off, rfl, _, hcell⟩
      · omega
      have c1 := cell_keep (hcell k hlt) hb1 (Nat.le_refl _)
      have c2 := hrow.cell hlt
      have f2 := hrow.frozen k
      clear hcell
      go_wp2
      have h3 := hrow.set k (.string (stN zs k))
      rw [scopied_step] at h3
      have h4 := hb1.setCell (p := ⟨w.heap.size, k, none⟩) (Nat.le_refl _) (.string (stN zs k))
      go_roundw
      case rel => exact ⟨k + 1, by omega, by go_num, h3, h4, by simpa using hz1⟩
      case measure => simp [intOf]; omega
    · have hkk : k = zs.length := by omega
      subst hkk
      have HR := Lib.hid hrow; clear hrow
      go_wp2
      go_ret
      exact ⟨_, rfl, Nat.le_refl _, hz1, HR.out, hb1⟩

theorem row_box {b : Nat} {t : TypeId} {w : World} {n m sz : Nat} {f : Nat → Value} (h : w.rowIs b t m f) (hm : m = n * sz) : CellBox b (b + 1) w (.slice (some ⟨b, 0, none⟩) n n) n sz := by
  refine ⟨_, _, rfl, Or.inr ⟨b, 0, rfl, Nat.le_refl _, Nat.lt_succ_self _, fun i hi => ⟨⟨f i, ?_⟩, ?_⟩⟩⟩
  · rw [Nat.zero_add]; exact h.cell (by omega)
  · exact h.frozen _

end Go.Proofs.Ytfipnlehaklepaa

namespace Go.Proofs.Ytfipnlehaklepaa
open Go.RowKit

theorem trip_put {w : World} {b c : Nat} {u0 u1 u2 : Value} (v0 v1 v2 : Value) (c0 : w.cell? ⟨b, c, none⟩ = some u0) (c1 : w.cell? ⟨b, c + 1, none⟩ = some u1) (c2 : w.cell? ⟨b, c + 2, none⟩ = some u2) :
    (((w.setCell ⟨b, c, none⟩ v0).setCell ⟨b, c + 1, none⟩ v1).setCell ⟨b, c + 2, none⟩ v2).cell? ⟨b, c, none⟩ = some v0 ∧
    (((w.setCell ⟨b, c, none⟩ v0).setCell ⟨b, c + 1, none⟩ v1).setCell ⟨b, c + 2, none⟩ v2).cell? ⟨b, c + 1, none⟩ = some v1 ∧
    (((w.setCell ⟨b, c, none⟩ v0).setCell ⟨b, c + 1, none⟩ v1).setCell ⟨b, c + 2, none⟩ v2).cell? ⟨b, c + 2, none⟩ = some v2 ∧
    ∀ i v, i ≠ c → i ≠ c + 1 → i ≠ c + 2 → w.cell? ⟨b, i, none⟩ = some v → (((w.setCell ⟨b, c, none⟩ v0).setCell ⟨b, c + 1, none⟩ v1).setCell ⟨b, c + 2, none⟩ v2).cell? ⟨b, i, none⟩ = some v := by
  have far : ∀ {i i' : Nat}, i ≠ i' → (⟨b, i, none⟩ : Addr) ≠ ⟨b, i', none⟩ := fun h e => h (by injection e)
  have s1 : (w.setCell ⟨b, c, none⟩ v0).cell? ⟨b, c, none⟩ = some v0 := World.cell?_setCell_same _ _ _ c0
  have s2 : (w.setCell ⟨b, c, none⟩ v0).cell? ⟨b, c + 1, none⟩ = some u1 := by rw [World.cell?_setCell_other _ _ _ _ (far (by omega))]; exact c1
  have s3 : (w.setCell ⟨b, c, none⟩ v0).cell? ⟨b, c + 2, none⟩ = some u2 := by rw [World.cell?_setCell_other _ _ _ _ (far (by omega))]; exact c2
  have r1 : ((w.setCell ⟨b, c, none⟩ v0).setCell ⟨b, c + 1, none⟩ v1).cell? ⟨b, c, none⟩ = some v0 := by rw [World.cell?_setCell_other _ _ _ _ (far (by omega))]; exact s1
  have r2 : ((w.setCell ⟨b, c, none⟩ v0).setCell ⟨b, c + 1, none⟩ v1).cell? ⟨b, c + 1, none⟩ = some v1 := World.cell?_setCell_same _ _ _ s2
  have r3 : ((w.setCell ⟨b, c, none⟩ v0).setCell ⟨b, c + 1, none⟩ v1).cell? ⟨b, c + 2, none⟩ = some u2 := by rw [World.cell?_setCell_other _ _ _ _ (far (by omega))]; exact s3
  refine ⟨?_, ?_, World.cell?_setCell_same _ _ _ r3, fun i v h1 h2 h3 h => ?_⟩
  · rw [World.cell?_setCell_other _ _ _ _ (far (by omega))]; exact r1
  · rw [World.cell?_setCell_other _ _ _ _ (far (by omega))]; exact r2
  · rw [World.cell?_setCell_other _ _ _ _ (far (fun e => h3 e.symm)), World.cell?_setCell_other _ _ _ _ (far (fun e => h2 e.symm)), World.cell?_setCell_other _ _ _ _ (far (fun e => h1 e.symm))]; exact h

end Go.Proofs.Ytfipnlehaklepaa
