/- COPY of ints into a made row; WALK: copyInts of the program.
   WALK: sortedPlaces of the program; the library's sort of a row of ints. -/
import Derived.Laws.CopyOwn
import Derived.Test.YtigkgfdnnfmmmaaGreatVTyat
import Derived.Test.YtigkgfdnnfmmmaaGreatVOwn
import Derived.Test.YtigkgfdnnfmmmaaGreatVShs
import Derived.Sort.OwnSorted
namespace Go.Proofs.YtigkgfdnnfmmmaaGreat
open Go.RowKit

theorem Tryz.sizeInt : (Tryz.prog.info? 3).map (·.size) = some 1 := by kernel_rfl

theorem run_copy_ints (w : World) (ty : TypeId) (b lo : Nat) (zs : List Int) (f : Nat → Value) (hrow : w.rowIs b 3 zs.length f) (src : Value) (hsrc : IntsAt lo w src zs) :
    ∃ w', (Builtin.copy_ #[29, 29] ty #[.slice (some ⟨b, 0, none⟩) zs.length zs.length, src]).run Tryz.prog w = .ok (goInt zs.length) w' ∧ w'.rowIs b 3 zs.length (fun j => .int .i64 (zs.getD j 0)) ∧ ∀ B a, B ≤ b → Below B a w → Below B a w' := by
  obtain ⟨ao, cap, rfl, hc, hz⟩ := hsrc
  rcases hz with rfl | ⟨b', off, rfl, _, hcell⟩
  · exact ⟨w, run_copy_none w _ _ _ _ _ _ _ _ _ _ Tryz.underlying29 Tryz.sizeInt (by simp), hrow.congr (fun i hi => absurd hi (Nat.not_lt_zero _)), fun _ _ _ h => h⟩
  · obtain ⟨cur, hb, hsz, _⟩ := hrow
    have hr := run_copy_row (P := Tryz.prog) w 29 29 ty 3 b 0 zs.length zs.length ⟨b', off, none⟩ zs.length cap cur 3 (intCells zs) Tryz.underlying29 Tryz.sizeInt hb (by rw [intCells_length]; simp)
      (fun j u hj => by
        have hjl : j < zs.length := by rw [← intCells_length]; exact (List.getElem?_eq_some_iff.1 hj).1
        rw [intCells_get hjl] at hj
        rw [Addr.add_mid, hcell j hjl]
        exact hj) (by rw [intCells_length]; omega) (intCells_one zs)
    rw [intCells_length] at hr
    refine ⟨_, hr, ⟨_, setRow_heap _ _ _ _ _ _ hb, ?_, fun i hi => ?_⟩, fun B a hB h => below_setRow h hB _⟩
    · simp [intCells_length, hsz]
    · have hd : cur.toList.drop (0 + zs.length) = [] := List.drop_eq_nil_of_le (by simp [hsz])
      rw [hd, List.take_zero, List.nil_append, List.append_nil]
      simpa using intCells_get hi

theorem wpList_copy_ints {ops : Array Oper} {rest : List Oper} {o : Oper} {a : Act} {w : World} {Q : Exit → Act → World → Prop} (hgd : o.guard = none) (d x : Operand)
    (ho : o.op = .call { callee := .builtin .copy, args := #[d, x], argTypes := #[29, 29] }) (b lo : Nat) (zs : List Int) (f : Nat → Value) (hd : a.eval d = .slice (some ⟨b, 0, none⟩) zs.length zs.length) (hrow : w.rowIs b 3 zs.length f)
    (src : Value) (hx : a.eval x = src) (hsrc : IntsAt lo w src zs)
    (h : ∀ w', w'.rowIs b 3 zs.length (fun j => .int .i64 (zs.getD j 0)) → (∀ B a, B ≤ b → Below B a w → Below B a w') → wpList Tryz.prog ops Q rest (a.put o.dst (goInt zs.length)) w') : wpList Tryz.prog ops Q (o :: rest) a w :=
  wpList_plain hgd fun _ hK => by
    obtain ⟨w', hr, h2, h3⟩ := run_copy_ints w o.type b lo zs f hrow src hsrc
    unfold Oper.wp execOp
    simp only [ho, resolve, invoke, builtin, Sem.run_bind, Sem.run_pure, Result.andThen_ok, List.map_toArray, List.map_cons, List.map_nil, hd, hx, hr]
    exact hK _ _ (h w' h2 h3)

set_option maxRecDepth 100000 in
set_option maxHeartbeats 400000 in
theorem copyInts_any (v : Value) (zs : List Int) (w : World) (lo : Nat) (hv : IntsAt lo w v zs) (hn : zs.length ≤ 1048576) :
    Calls Tryz.prog 70 #[v] w (RetIntsO w zs) := by
  have hv' := hv
  obtain ⟨ao, cap, rfl, _, _⟩ := hv'
  have HV := Lib.hid hv; clear hv
  have hmk := run_make_row' (P := Tryz.prog) 29 3 (.int .i64 0) 8 Tryz.underlying29 Tryz.infoInt rfl .i64 .i64 zs.length (by omega) (by omega)
  have hrow := (World.rowIs_made w (.int .i64 0) zs.length 3)
  have HR := Lib.hid hrow; clear hrow
  have HVA := Lib.hid (HV.out.keep (Carries.alloc (Carries.refl lo w) (.cells (madeCells #[.int .i64 0] zs.length) 3)))
  go_enter Tryz.func70, Tryz.ntmps70
  go_wp2_with (refine wpList_copy_ints rfl (.tmp 7) (.tmp 8) rfl w.heap.size lo zs _ rfl HR.out _ rfl HVA.out ?_; intro w' hrow' hbel)
  go_ret
  exact ⟨_, rfl, ow_of_row hrow' (fun _ _ => rfl), hbel _ _ (Nat.le_refl _) ((Below.refl _ _).alloc (Nat.le_refl _) _)⟩

set_option maxRecDepth 100000 in
set_option maxHeartbeats 400000 in
theorem copyInts_row (v : Value) (zs : List Int) (w : World) (lo : Nat) (hv : IntsAt lo w v zs) (hn : zs.length ≤ 1048576) :
    Calls Tryz.prog 70 #[v] w (fun e w' => e = .returned (.slice (some ⟨w.heap.size, 0, none⟩) zs.length zs.length) ∧ w'.rowIs w.heap.size 3 zs.length (fun j => .int .i64 (zs.getD j 0)) ∧ Below w.heap.size w w') := by
  have hv' := hv
  obtain ⟨ao, cap, rfl, _, _⟩ := hv'
  have HV := Lib.hid hv; clear hv
  have hmk := run_make_row' (P := Tryz.prog) 29 3 (.int .i64 0) 8 Tryz.underlying29 Tryz.infoInt rfl .i64 .i64 zs.length (by omega) (by omega)
  have hrow := (World.rowIs_made w (.int .i64 0) zs.length 3)
  have HR := Lib.hid hrow; clear hrow
  have HVA := Lib.hid (HV.out.keep (Carries.alloc (Carries.refl lo w) (.cells (madeCells #[.int .i64 0] zs.length) 3)))
  go_enter Tryz.func70, Tryz.ntmps70
  go_wp2_with (refine wpList_copy_ints rfl (.tmp 7) (.tmp 8) rfl w.heap.size lo zs _ rfl HR.out _ rfl HVA.out ?_; intro w' hrow' hbel)
  go_ret
  exact ⟨rfl, hrow', hbel _ _ (Nat.le_refl _) ((Below.refl _ _).alloc (Nat.le_refl _) _)⟩


end Go.Proofs.YtigkgfdnnfmmmaaGreat

namespace Go.Proofs.YtigkgfdnnfmmmaaGreat
open Go.RowKit Go.Sort

theorem heap_sortedI {w : World} {g n : Nat} {os : Array Obj} {cur : Array Value} {e : TypeId} {fr : Nat × Nat} (d : Array Int) (hb : w.heap[g]? = some (.cells cur e fr)) :
    (grow (putRow (Value.int .i64) (Sort.ahead w n) g 0 d) os).heap[g]? = some (.cells (putCells (Value.int .i64) 0 d cur) e fr) := by
  have hg : g < w.heap.size := (Array.getElem?_eq_some_iff.1 hb).1
  rw [heap_grow_old _ _ (by simpa using hg)]
  simp [putRow, mapBlock, Sort.ahead, Array.getElem?_modify, hb, onCells]
theorem grownBy_sortedI {w : World} {g n : Nat} {os : Array Obj} (d : Array Int) : w.grownBy (grow (putRow (Value.int .i64) (Sort.ahead w n) g 0 d) os) (some g) := by
  refine ⟨rfl, rfl, rfl, by simp, fun k hk hne => ?_⟩
  rw [heap_grow_old _ _ (by simpa using hk)]
  have : g ≠ k := fun e => hne (by rw [e])
  simp [putRow, mapBlock, Sort.ahead, Array.getElem?_modify, this]
theorem row_sortedI {w : World} {g k n : Nat} {os : Array Obj} {e : TypeId} {f : Nat → Value} (ts : List Int) (hl : ts.length = n) (h : w.rowIs g e n f) :
    (grow (putRow (Value.int .i64) (Sort.ahead w k) g 0 ts.toArray) os).rowIs g e n (fun j => .int .i64 (ts.getD j 0)) := by
  obtain ⟨cur, hg, hs, hc⟩ := h
  refine ⟨_, heap_sortedI _ hg, by simp [putCells, hs], fun i hi => ?_⟩
  have h1 : i < ts.length := by omega
  have h2 : i < cur.size := by omega
  simp [putCells, h1, h2, List.getD]
theorem holds_of_rowI {w : World} {g n : Nat} {e : TypeId} {zs : List Int} (hl : zs.length = n) (h : w.rowIs g e n (fun j => .int .i64 (zs.getD j 0))) : Holds (Value.int .i64) w g 0 zs.toArray := by
  intro j hj
  have hj' : j < zs.length := by simpa using hj
  refine ⟨?_, h.frozen _⟩
  rw [Nat.zero_add, h.cell (by omega)]
  simp [List.getD, hj']

/-- the places of conditions, as they come; in order -/
def plL (cs : List Cnd) (L : List Int) : List Int := L.map fun c => cnP cs c.toNat
def plS (cs : List Cnd) (L : List Int) : List Int := (plL cs L).mergeSort fun x y => decide (x ≤ y)
theorem plL_length (cs : List Cnd) (L : List Int) : (plL cs L).length = L.length := by simp [plL]
theorem plS_length (cs : List Cnd) (L : List Int) : (plS cs L).length = L.length := by simp [plS, plL]
theorem plL_get {cs : List Cnd} {L : List Int} {k : Nat} (h : k < L.length) : (plL cs L).getD k 0 = cnP cs (L.getD k 0).toNat := by simp [plL, List.getD, h]
def plTo (cs : List Cnd) (L : List Int) (k : Nat) : Nat → Value := fun j => if j < k then .int .i64 ((plL cs L).getD j 0) else .int .i64 0
theorem plTo_step (cs : List Cnd) (L : List Int) (k : Nat) : (fun j => if j = k then Value.int .i64 ((plL cs L).getD k 0) else plTo cs L k j) = plTo cs L (k + 1) := by
  funext j
  unfold plTo
  by_cases h : j = k
  · subst h; simp
  · rw [if_neg h]; by_cases h2 : j < k
    · rw [if_pos h2, if_pos (by omega)]
    · rw [if_neg h2, if_neg (by omega)]

set_option maxRecDepth 100000 in
set_option maxHeartbeats 1000000 in
theorem sortedPlaces_any (vc ve v : Value) (cs : List Cnd) (ne : Nat) (ae : Option Addr) (ke : Nat) (L : List Int) (w : World) (lo lo' : Nat) (hve : ve = .slice ae ne ke) (hc : CndsAt lo w vc cs) (hv : IntsAt lo' w v L) (hl : L.length ≤ 1048576) (hin : ∀ k, k < L.length → 0 ≤ L.getD k 0 ∧ L.getD k 0 < (cs.length : Int)) :
    Calls Tryz.prog 67 #[.agg #[vc, ve], v] w (RetInts w (plS cs L)) := by
  subst hve
  obtain ⟨ac, kc, rfl, _, hzc⟩ := id hc
  have HZC := Lib.hid hzc; clear hzc hc
  have HIN := Lib.hid hin; clear hin
  obtain ⟨ao, cap, rfl, _, hz⟩ := hv
  have HL := Lib.hid hz; clear hz
  obtain ⟨nc, hnc⟩ : ∃ x, x = cs.length := ⟨_, rfl⟩
  rw [← hnc] at HIN ⊢
  have HNC := Lib.hid hnc; clear hnc
  have hmk := run_make_row' (P := Tryz.prog) 29 3 (.int .i64 0) 8 Tryz.underlying29 Tryz.infoInt rfl .i64 .i64 L.length (by omega) (by omega)
  go_enter Tryz.func67, Tryz.ntmps67
  go_wp2_with fail
  obtain ⟨W, hWe⟩ : ∃ x, x = (w.alloc (.cells #[.slice ac nc kc, .slice ae ne ke] 38)).alloc (.cells (madeCells #[.int .i64 0] L.length) 3) := ⟨_, rfl⟩
  have hrow0 : W.rowIs (w.heap.size + 1) 3 L.length (plTo cs L 0) := by
    rw [hWe]
    have h := (World.rowIs_made (w.alloc (.cells #[.slice ac nc kc, .slice ae ne ke] 38)) (.int .i64 0) L.length 3).congr (g := plTo cs L 0) (fun i _ => by simp [plTo])
    simpa using h
  have x0 : W.cell? ⟨w.heap.size, 0, none⟩ = some (.slice ac nc kc) := by
    rw [hWe]
    exact cell_carry (w := w.alloc (.cells #[.slice ac nc kc, .slice ae ne ke] 38)) (by simp) ((Carries.refl 0 _).alloc _)
  have hW : Below w.heap.size w W := by rw [hWe]; (repeat' (first | (with_reducible exact Below.refl _ _) | (with_reducible assumption) | (with_reducible refine Below.alloc ?_ ?_ _) | (with_reducible refine Below.drew ?_) | (with_reducible refine below_drewN ?_ _) | (with_reducible refine Below.setCell ?_ ?_ _) | go_size))
  have zW : w.heap.size + 1 < W.heap.size := by rw [hWe]; simp
  rw [← hWe]
  clear hWe hmk
  have HR0 := Lib.hid hrow0; clear hrow0
  go_loopw [13] (fun i wr => ∃ k : Nat, k ≤ L.length ∧ i = .int .i64 k ∧ Hid (wr.rowIs (w.heap.size + 1) 3 L.length (plTo cs L k)) ∧ Below w.heap.size w wr ∧ w.heap.size + 1 < wr.heap.size ∧ wr.cell? ⟨w.heap.size, 0, none⟩ = some (.slice ac nc kc)) (fun i _ => L.length - (intOf i).toNat)
  case atStart => exact ⟨0, Nat.zero_le _, rfl, HR0.out, hW, zW, x0⟩
  case round =>
    obtain ⟨k, hk, rfl, hrow, hw1, z1, x0⟩ := hrel
    by_cases hlt : k < L.length
    · rcases HL.out with rfl | ⟨b, off, rfl, hlo, hcell⟩
      · simp at hlt
      have d0 := Carries.of lo' hw1 _ _ hlo (hcell k hlt)
      obtain ⟨i0, i1⟩ := HIN.out k hlt
      have hpk := plL_get (cs := cs) hlt
      clear hcell
      generalize L.getD k 0 = x at d0 i0 i1 hpk
      obtain ⟨c, rfl⟩ : ∃ c : Nat, x = (c : Int) := ⟨x.toNat, by omega⟩
      rw [Int.toNat_natCast] at hpk
      have hcl : c < cs.length := by have := HNC.out; omega
      have x1 : ∀ y : Int, (wr.setCell ⟨w.heap.size + 1, k, none⟩ (.int .i64 y)).cell? ⟨w.heap.size, 0, none⟩ = some (.slice ac nc kc) := fun y => (World.cell?_setCell_other _ _ _ _ (by intro e; injection e with e1; simp at e1)).trans x0
      rcases HZC.out with h0 | ⟨b2, off2, rfl, hlo2, hcell2⟩
      · omega
      have d1 := Carries.of lo hw1 _ _ hlo2 (hcell2 c hcl).1
      try dsimp only at d1
      clear hcell2
      rw [← hpk] at d1
      have r0 := hrow.out.cell hlt
      have rf := hrow.out.frozen k
      have hrow2 := hrow.out.set k (.int .i64 ((plL cs L).getD k 0))
      rw [plTo_step] at hrow2
      have HR2 := Lib.hid hrow2
      have hw2 : Below w.heap.size w (wr.setCell ⟨w.heap.size + 1, k, none⟩ (.int .i64 ((plL cs L).getD k 0))) := hw1.setCell (p := ⟨w.heap.size + 1, k, none⟩) (by simp) _
      clear hrow hrow2 hpk
      have x1 := x1 ((plL cs L).getD k 0)
      generalize (plL cs L).getD k 0 = y at d1 HR2 hw2 x1 ⊢
      go_wp2_with fail
      go_roundw
      case rel => exact ⟨k + 1, by omega, by go_num, HR2.out, hw2, by simpa using z1, x1⟩
      case measure => simp [intOf]; omega
    · have hkk : k = L.length := by omega
      subst hkk
      have hrowE : wr.rowIs (w.heap.size + 1) 3 L.length (fun j => .int .i64 ((plL cs L).getD j 0)) := hrow.out.congr (fun i hi => by unfold plTo; rw [if_pos hi])
      have hH := holds_of_rowI (plL_length cs L) hrowE
      have hsrt := Tryz.slices_Sort_int (w.heap.size + 1) 0 L.length (plL cs L) wr hH z1 (by rw [plL_length]; omega)
      rw [plL_length] at hsrt
      have HS := Lib.hid hsrt
      have HRE := Lib.hid hrowE
      clear hrow hrowE hH hsrt
      go_wp2_with fail
      refine HS.out.mono ?_
      rintro e w2 ⟨rfl, n, os, hw2⟩
      have hg := grownBy_sortedI (w := wr) (g := w.heap.size + 1) (n := n) (os := os) (plS cs L).toArray
      have hr2 := row_sortedI (k := n) (os := os) (plS cs L) (plS_length cs L) HRE.out
      have hw2' : w2 = grow (putRow (Value.int .i64) (Sort.ahead wr n) (w.heap.size + 1) 0 (plS cs L).toArray) os := hw2
      rw [← hw2'] at hg hr2
      have hwE : Below w.heap.size w w2 := hw1.trans ⟨hg.os, hg.tape, hg.output, hg.size, fun b hb => hg.block b (Nat.lt_of_lt_of_le hb hw1.size) (by intro e; injection e with e; omega)⟩
      have HR2 := Lib.hid hr2
      clear hg hr2 hw2 hw2'
      go_wp2_with fail
      go_ret
      refine ⟨_, rfl, ?_, hwE⟩
      have h := HR2.out
      rw [← plS_length cs L] at h
      have h2 := ints_of_row (zs := plS cs L) h (fun i hi => rfl)
      rw [plS_length] at h2
      exact h2.low (by omega)

end Go.Proofs.YtigkgfdnnfmmmaaGreat
