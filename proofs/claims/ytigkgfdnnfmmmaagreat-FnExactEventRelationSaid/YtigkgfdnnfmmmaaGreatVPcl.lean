/- WALK: l7OwnH of the model.
   APPEND of pairs of cells onto a slice of the call's own (out of Cln). -/
import Derived.Test.YtigkgfdnnfmmmaaGreatVInts
import Derived.Test.YtigkgfdnnfmmmaaGreatVOwnt
import Derived.Deep.RegionHeld
import Derived.Test.YtigkgfdnnfmmmaaGreatVPair
import Derived.Test.YtigkgfdnnfmmmaaGreatVUvl
import Derived.Laws.AppendOwnNone
import Derived.Lib.BufferMore
namespace Go.Proofs.YtigkgfdnnfmmmaaGreat
open Go.RowKit

/-- an event whose list is the call's own -/
def RetEvO (w : World) (t : Int) (L : List Int) (e : Ending) (w' : World) : Prop := ∃ v', e = .returned (.agg #[.int .i64 t, v']) ∧ IRow w.heap.size w' v' L ∧ Below w.heap.size w w'

set_option maxRecDepth 100000 in
set_option maxHeartbeats 1000000 in
theorem l7OwnH_any (v : Value) (t : Int) (L : List Int) (w : World) (lo : Nat) (hv : IntsAt lo w v L) (hl : L.length ≤ 4194304) :
    Calls Tryz.prog 59 #[.agg #[.int .i64 t, v]] w (RetEvO w t L) := by
  have HV := Lib.hid hv
  obtain ⟨ao, cap, rfl, _, _⟩ := hv
  obtain ⟨nl, hnl⟩ : ∃ x, x = L.length := ⟨_, rfl⟩
  rw [← hnl] at HV ⊢
  have HNL := Lib.hid hnl; clear hnl
  go_enter Tryz.func59, Tryz.ntmps59
  go_wp2_with fail
  obtain ⟨W, hWe⟩ : ∃ x, x = (w.alloc (.cells #[.int .i64 t, .slice ao nl cap] 46)).alloc (.cells #[.int .i64 0, .slice none 0 0] 46) := ⟨_, rfl⟩
  have hW : Below w.heap.size w W := by rw [hWe]; (repeat' (first | (with_reducible exact Below.refl _ _) | (with_reducible assumption) | (with_reducible refine Below.alloc ?_ ?_ _) | (with_reducible refine Below.drew ?_) | (with_reducible refine below_drewN ?_ _) | (with_reducible refine Below.setCell ?_ ?_ _) | go_size))
  have b0 : W.cell? ⟨w.heap.size, 0, none⟩ = some (.int .i64 t) := by
    rw [hWe]; exact cell_carry (w := w.alloc (.cells #[.int .i64 t, .slice ao nl cap] 46)) (by simp) ((Carries.refl 0 _).alloc _)
  have b1 : W.cell? ⟨w.heap.size, 1, none⟩ = some (.slice ao nl cap) := by
    rw [hWe]; exact cell_carry (w := w.alloc (.cells #[.int .i64 t, .slice ao nl cap] 46)) (by simp) ((Carries.refl 0 _).alloc _)
  have r0 : W.cell? ⟨w.heap.size + 1, 0, none⟩ = some (.int .i64 0) := by rw [hWe]; simp
  have r1 : W.cell? ⟨w.heap.size + 1, 1, none⟩ = some (.slice none 0 0) := by rw [hWe]; simp
  have f0 : ∀ i, W.frozen? ⟨w.heap.size + 1, i, none⟩ = false := fun i => by rw [hWe]; simp
  rw [← hWe]
  clear hWe
  refine wp_region_held_drew (S := fun w' => w'.cell? ⟨w.heap.size, 0, none⟩ = some (.int .i64 t) ∧ w'.cell? ⟨w.heap.size, 1, none⟩ = some (.slice ao nl cap)) (by kernel_rfl) ⟨b0, b1⟩ (fun hHeld => ?_)
  refine tk0 (v := ?_) (by kernel_rfl) (by kernel_rfl) (by kernel_rfl) (by first | exact fun _ _ _ h => h | exact fun _ _ _ h => absurd h.1 (by simp)) (Or.inl ⟨by rfl, ?_⟩) (by assumption) ?_
  rotate_left 1
  focus (intro wx hSw; (try dsimp only at hSw); go_simp; try (with_reducible rfl))
  try simp only [Act.put, List.setIfInBounds_toArray, List.set_cons_zero, List.set_cons_succ]
  refine tk1 (v := ?_) (by kernel_rfl) (by kernel_rfl) (by kernel_rfl) (by first | exact fun _ _ _ h => h | exact fun _ _ _ h => absurd h.1 (by simp)) (Or.inl ⟨by rfl, ?_⟩) (by assumption) ?_
  rotate_left 1
  focus (intro wx hSw; (try dsimp only at hSw); go_simp; try (with_reducible rfl))
  try simp only [Act.put, List.setIfInBounds_toArray, List.set_cons_zero, List.set_cons_succ]
  refine tk2 (v := ?_) (by kernel_rfl) (by kernel_rfl) (by kernel_rfl) (by first | exact fun _ _ _ h => h | exact fun _ _ _ h => absurd h.1 (by simp)) (Or.inl ⟨by rfl, ?_⟩) (by assumption) ?_
  rotate_left 1
  focus (intro wx hSw; (try dsimp only at hSw); go_simp; try (with_reducible rfl))
  try simp only [Act.put, List.setIfInBounds_toArray, List.set_cons_zero, List.set_cons_succ]
  refine tk3 (v := ?_) (by kernel_rfl) (by kernel_rfl) (by kernel_rfl) (by first | exact fun _ _ _ h => h | exact fun _ _ _ h => absurd h.1 (by simp)) (Or.inl ⟨by rfl, ?_⟩) (by assumption) ?_
  rotate_left 1
  focus (intro wx hSw; (try dsimp only at hSw); go_simp; try (with_reducible rfl))
  try simp only [Act.put, List.setIfInBounds_toArray, List.set_cons_zero, List.set_cons_succ]
  refine rd4 (by kernel_rfl) (fun K hK => ?_)
  go_simp
  refine (l1Own_any _ L W.drew lo (HV.out.keep (Carries.of lo hW.drew)) hl).mono ?_
  rintro e w2 ⟨vr, rfl, hrow, hb⟩
  have hb : Below W.heap.size W w2 := Below.trans (b := W.drew) (Below.refl _ _).drew (hb.mono (by simp))
  have hw2 : Below w.heap.size w w2 := hW.trans (hb.mono hW.size)
  have b0 := cell_carry b0 (Carries.of 0 hb)
  have b1 := cell_carry b1 (Carries.of 0 hb)
  have zW : w.heap.size + 1 < W.heap.size := cell_old r0
  have g0 := (hb.frozen (p := ⟨w.heap.size + 1, 0, none⟩) zW).trans (f0 0)
  have g1 := (hb.frozen (p := ⟨w.heap.size + 1, 1, none⟩) zW).trans (f0 1)
  have r0 := cell_carry r0 (Carries.of 0 hb)
  have r1 := cell_carry r1 (Carries.of 0 hb)
  have HR := Lib.hid hrow
  obtain ⟨ar, cr, rfl⟩ := owns_form hrow
  have hW2 : W.heap.size ≤ w2.heap.size := hb.size
  clear hrow hb
  refine hK.out _ _ ⟨b0, b1⟩ (fun hHeld => ?_)
  clear hK K
  try simp only [Act.put, List.setIfInBounds_toArray, List.set_cons_zero, List.set_cons_succ]
  refine tk5 (v := ?_) (by kernel_rfl) (by kernel_rfl) (by kernel_rfl) (by first | exact fun _ _ _ h => h | exact fun _ _ _ h => absurd h.1 (by simp)) (Or.inl ⟨by rfl, ?_⟩) (by assumption) ?_
  rotate_left 1
  focus (intro wx hSw; (try dsimp only at hSw); go_simp; try (with_reducible rfl))
  try simp only [Act.put, List.setIfInBounds_toArray, List.set_cons_zero, List.set_cons_succ]
  refine rd6 (by kernel_rfl) (fun K hK => ?_)
  go_simp
  have hne : ∀ i j, (⟨w.heap.size + 1, i, none⟩ : Addr) ≠ ⟨w.heap.size, j, none⟩ := fun i j h => by injection h; omega
  have HO : Hid (IRow w.heap.size ((w2.setCell ⟨w.heap.size + 1, 0, none⟩ (.int .i64 t)).setCell ⟨w.heap.size + 1, 1, none⟩ (.slice ar L.length cr)) (.slice ar L.length cr) L) := by
    have hlt := fun k hk => (HR.out.lt k hk).1
    have h1 := HR.out.kept (grownBy_set w2 ⟨w.heap.size + 1, 0, none⟩ (.int .i64 t)) (by
      cases e : (Value.slice ar L.length cr).ownBlock with
      | none => exact Or.inl rfl
      | some b => exact Or.inr (fun e2 => absurd (hlt b e) (by simp only [Option.some.injEq] at e2; simp; omega)))
    have h2 := h1.kept (grownBy_set _ ⟨w.heap.size + 1, 1, none⟩ (.slice ar L.length cr)) (by
      cases e : (Value.slice ar L.length cr).ownBlock with
      | none => exact Or.inl rfl
      | some b => exact Or.inr (fun e2 => absurd (hlt b e) (by simp only [Option.some.injEq] at e2; simp; omega)))
    exact Go.Joins.ownsRow_le h2 (by simp; omega)
  have hw3 : Below w.heap.size w ((w2.setCell ⟨w.heap.size + 1, 0, none⟩ (.int .i64 t)).setCell ⟨w.heap.size + 1, 1, none⟩ (.slice ar L.length cr)) := (hw2.setCell (p := ⟨w.heap.size + 1, 0, none⟩) (by show w.heap.size ≤ w.heap.size + 1; omega) _).setCell (p := ⟨w.heap.size + 1, 1, none⟩) (by show w.heap.size ≤ w.heap.size + 1; omega) _
  have q0 : ((w2.setCell ⟨w.heap.size + 1, 0, none⟩ (.int .i64 t)).setCell ⟨w.heap.size + 1, 1, none⟩ (.slice ar L.length cr)).cell? ⟨w.heap.size + 1, 0, none⟩ = some (.int .i64 t) := (World.cell?_setCell_other _ _ _ _ (fun h => by injection h with h1 h2; cases h2)).trans (World.cell?_setCell_same _ _ _ r0)
  have q1 : ((w2.setCell ⟨w.heap.size + 1, 0, none⟩ (.int .i64 t)).setCell ⟨w.heap.size + 1, 1, none⟩ (.slice ar L.length cr)).cell? ⟨w.heap.size + 1, 1, none⟩ = some (.slice ar L.length cr) := World.cell?_setCell_same _ _ _ ((World.cell?_setCell_other _ _ _ _ (fun h => by injection h with h1 h2; cases h2)).trans r1)
  refine hK.out _ _ ⟨(World.cell?_setCell_other _ _ _ _ (hne 1 0)).trans ((World.cell?_setCell_other _ _ _ _ (hne 0 0)).trans b0), (World.cell?_setCell_other _ _ _ _ (hne 1 1)).trans ((World.cell?_setCell_other _ _ _ _ (hne 0 1)).trans b1)⟩ (fun hHeld => ?_)
  clear hK K
  try simp only [Act.put, List.setIfInBounds_toArray, List.set_cons_zero, List.set_cons_succ]
  refine wpAnyH_done (by kernel_rfl) ?_ _
  generalize (w2.setCell ⟨w.heap.size + 1, 0, none⟩ (.int .i64 t)).setCell ⟨w.heap.size + 1, 1, none⟩ (.slice ar L.length cr) = w3 at HO hw3 q0 q1 ⊢
  go_wp2_with fail
  refine bodyPost_ret (v := .agg #[.int .i64 t, .slice ar L.length cr]) (by simp [results, Tryz.results59, go_sem, q0, q1]) rfl ?_
  exact ⟨_, rfl, HO.out, hw3⟩

end Go.Proofs.YtigkgfdnnfmmmaaGreat

namespace Go.Proofs.YtigkgfdnnfmmmaaGreat
open Go.RowKit

/-- the cells of n pairs -/
def pairCells (x y : Nat → Value) : Nat → List Value
  | 0 => []
  | n + 1 => pairCells x y n ++ [x n, y n]
theorem pairCells_length (x y : Nat → Value) : ∀ n, (pairCells x y n).length = n * 2
  | 0 => rfl
  | n + 1 => by simp [pairCells, pairCells_length x y n]; omega
theorem pairCells_get (x y : Nat → Value) : ∀ n i, i < n → (pairCells x y n)[i * 2]? = some (x i) ∧ (pairCells x y n)[i * 2 + 1]? = some (y i)
  | 0, i, h => absurd h (Nat.not_lt_zero _)
  | n + 1, i, h => by
    have hl := pairCells_length x y n
    unfold pairCells
    by_cases e : i = n
    · subst e
      constructor
      · rw [List.getElem?_append_right (by omega), hl]; simp
      · rw [List.getElem?_append_right (by omega), hl, show i * 2 + 1 - i * 2 = 1 by omega]; rfl
    · obtain ⟨h0, h1⟩ := pairCells_get x y n i (by omega)
      exact ⟨by rw [List.getElem?_append_left (by omega)]; exact h0, by rw [List.getElem?_append_left (by omega)]; exact h1⟩
theorem pairCells_mem (x y : Nat → Value) : ∀ n u, u ∈ pairCells x y n → ∃ i, i < n ∧ (u = x i ∨ u = y i)
  | 0, u, h => by simp [pairCells] at h
  | n + 1, u, h => by
    unfold pairCells at h
    simp only [List.mem_append, List.mem_cons, List.not_mem_nil, or_false] at h
    rcases h with h | h
    · obtain ⟨i, hi, e⟩ := pairCells_mem x y n u h
      exact ⟨i, by omega, e⟩
    · exact ⟨n, Nat.lt_succ_self _, h⟩

theorem pairs_of_owns {w : World} {base : Nat} {e : TypeId} {v : Value} {n : Nat} {x y : Nat → Value} (h : w.ownsRow base e 2 v n (pairCells x y n)) : PairsAt base w v n x y := by
  have h0 := h
  rcases h.2 with ⟨rfl, hn⟩ | ⟨g, cap, cur, rfl, hb, hg, hnc, _, _, _⟩
  · exact ⟨_, _, by rw [hn], Nat.le_of_eq hn, Or.inl hn⟩
  · refine ⟨_, _, rfl, hnc, Or.inr ⟨g, 0, rfl, hb, fun i hi => ?_⟩⟩
    obtain ⟨e0, e1⟩ := pairCells_get x y n i hi
    exact ⟨by rw [Nat.zero_add, h0.cellAt (i * 2) (by omega)]; exact e0, by rw [Nat.zero_add, h0.cellAt (i * 2 + 1) (by omega)]; exact e1⟩

theorem run_append_pairs (T e : TypeId) (z : Value) (bytes : Nat) (hu : Tryz.prog.underlying T = some (.slice e)) (hinfo : (Tryz.prog.info? e).map (fun i => (i.zero, i.size, i.bytes)) = some (some z, 2, bytes)) (hzc : z.cells.size = 2) (hb48 : bytes ≤ 48)
    (w : World) (ty : TypeId) (base lo : Nat) (v : Value) (n : Nat) (xs : List Value) (hown : w.ownsRow base e 2 v n xs) (src : Value) (m : Nat) (x y : Nat → Value) (hsrc : PairsAt lo w src m x y)
    (hx : ∀ i, (x i).oneCell' = true) (hy : ∀ i, (y i).oneCell' = true) (hlen : n + m ≤ 1073741824) (hbase : base ≤ w.heap.size) :
    ∃ v' w', (Builtin.append_ #[T, T] ty #[v, src]).run Tryz.prog w = .ok v' w' ∧ w'.ownsRow base e 2 v' (n + m) (xs ++ pairCells x y m) ∧ w.grownBy w' v.ownBlock := by
  obtain ⟨i, hi, hzz⟩ := Option.map_eq_some_iff.1 hinfo
  simp only [Prod.mk.injEq] at hzz
  obtain ⟨hz, hs, hby⟩ := hzz
  obtain ⟨ao, cap, rfl, hc, hcase⟩ := hsrc
  rcases hcase with rfl | ⟨b, off, rfl, _, hcell⟩
  · have hrun : (Builtin.append_ #[T, T] ty #[v, .slice ao 0 cap]).run Tryz.prog w = .ok v w := by
      rcases hown.2 with ⟨rfl, rfl⟩ | ⟨g, cap', cur, rfl, _, _, hnc, _⟩
      · cases ao <;> simp [Builtin.append_, run_underlying hu, sizeOf, typeInfo, hi, Builtin.lenOf, Builtin.firstCells, loadCells, loadCellsFrom]
      · cases ao <;> simp [Builtin.append_, run_underlying hu, sizeOf, typeInfo, hi, Builtin.lenOf, Builtin.firstCells, hnc, storeCells, loadCells, loadCellsFrom]
    exact ⟨v, w, hrun, by simpa [pairCells] using hown, ⟨rfl, rfl, rfl, Nat.le_refl _, fun _ _ _ => rfl⟩⟩
  · obtain ⟨v', w', hr, h2, h3, _⟩ := run_append_own (P := Tryz.prog) w base T ty e i _ 2 bytes hu hi hz hs hby hzc (by omega) v n xs hown ⟨b, off, none⟩ m cap (pairCells x y m)
      (pairCells_length x y m) (fun j u hj => by
        have hjl : j < m * 2 := by rw [← pairCells_length x y m]; exact (List.getElem?_eq_some_iff.1 hj).1
        obtain ⟨e0, e1⟩ := pairCells_get x y m (j / 2) (by omega)
        obtain ⟨q0, q1⟩ := hcell (j / 2) (by omega)
        rw [Addr.add_mid]
        rcases Nat.mod_two_eq_zero_or_one j with hm | hm
        · rw [show j / 2 * 2 = j by omega] at e0 q0
          rw [q0, ← e0]; exact hj
        · rw [Nat.add_assoc, show j / 2 * 2 + 1 = j by omega] at q1
          rw [show j / 2 * 2 + 1 = j by omega] at e1
          rw [q1, ← e1]; exact hj) (fun u hu => by
        obtain ⟨k, _, h | h⟩ := pairCells_mem x y m u hu
        · rw [h]; exact hx k
        · rw [h]; exact hy k) (by unfold maxLen; omega) (by
        have : (n + m) * bytes ≤ 1073741824 * 48 := Nat.mul_le_mul hlen hb48
        omega) hbase
    exact ⟨v', w', hr, h2, h3⟩


end Go.Proofs.YtigkgfdnnfmmmaaGreat
