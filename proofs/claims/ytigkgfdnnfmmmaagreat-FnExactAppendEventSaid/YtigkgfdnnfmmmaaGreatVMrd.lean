/- WALK: l7OwnH of the model.
   APPEND of pairs of cells onto a slice of the call's own (out of Cln).
   ROWS of events whose lists are rows of the call's own (the model's), and an unfolding that grows in its block. -/
import Derived.Test.YtigkgfdnnfmmmaaGreatVNeta
import Derived.Test.YtigkgfdnnfmmmaaGreatVOwnt
import Derived.Deep.RegionHeld
import Derived.Test.YtigkgfdnnfmmmaaGreatVPair
import Derived.Laws.AppendOwnNone
import Derived.Lib.BufferMore
import Derived.Test.YtigkgfdnnfmmmaaGreatVHib
import Derived.Test.YtigkgfdnnfmmmaaGreatVUfr
namespace Go.Proofs.YtigkgfdnnfmmmaaGreat
open Go.RowKit

/-- an event whose list is the call's own -/
def RetEvO (w : World) (t : Int) (L : List Int) (e : Ending) (w' : World) : Prop := ∃ v', e = .returned (.agg #[.int .i64 t, v']) ∧ IRow w.heap.size w' v' L ∧ Below w.heap.size w w'

set_option maxRecDepth 100000 in
set_option maxHeartbeats 1000000 in
theorem l7OwnH_any (v : Value) (t : Int) (L : List Int) (w : World) (lo : Nat) (hv : IntsAt lo w v L) (hl : L.length ≤ 4194304) :
    Calls Tryz.prog 59 #[.agg #[.int .i64 t, v]] w (RetEvO w t L) := by
  have HV := Lib.hid hv
  obtain ⟨ao, cap, rfl, _, _⟩ := hv
  obtain ⟨nl, hnl⟩ : ∃ x, x = L.length := ⟨_, rfl⟩
  rw [← hnl] at HV ⊢
  have HNL := Lib.hid hnl; clear hnl
  go_enter Tryz.func59, Tryz.ntmps59
  go_wp2_with fail
  obtain ⟨W, hWe⟩ : ∃ x, x = (w.alloc (.cells #[.int .i64 t, .slice ao nl cap] 46)).alloc (.cells #[.int .i64 0, .slice none 0 0] 46) := ⟨_, rfl⟩
  have hW : Below w.heap.size w W := by rw [hWe]; (repeat' (first | (with_reducible exact Below.refl _ _) | (with_reducible assumption) | (with_reducible refine Below.alloc ?_ ?_ _) | (with_reducible refine Below.drew ?_) | (with_reducible refine below_drewN ?_ _) | (with_reducible refine Below.setCell ?_ ?_ _) | go_size))
  have b0 : W.cell? ⟨w.heap.size, 0, none⟩ = some (.int .i64 t) := by
    rw [hWe]; exact cell_carry (w := w.alloc (.cells #[.int .i64 t, .slice ao nl cap] 46)) (by simp) ((Carries.refl 0 _).alloc _)
  have b1 : W.cell? ⟨w.heap.size, 1, none⟩ = some (.slice ao nl cap) := by
    rw [hWe]; exact cell_carry (w := w.alloc (.cells #[.int .i64 t, .slice ao nl cap] 46)) (by simp) ((Carries.refl 0 _).alloc _)
  have r0 : W.cell? ⟨w.heap.size + 1, 0, none⟩ = some (.int .i64 0) := by rw [hWe]; simp
  have r1 : W.cell? ⟨w.heap.size + 1, 1, none⟩ = some (.slice none 0 0) := by rw [hWe]; simp
  have f0 : ∀ i, W.frozen? ⟨w.heap.size + 1, i, none⟩ = false := fun i => by rw [hWe]; simp
  rw [← hWe]
  clear hWe
  refine wp_region_held_drew (S := fun w' => w'.cell? ⟨w.heap.size, 0, none⟩ = some (.int .i64 t) ∧ w'.cell? ⟨w.heap.size, 1, none⟩ = some (.slice ao nl cap)) (by kernel_rfl) ⟨b0, b1⟩ (fun hHeld => ?_)
  refine tk0 (v := ?_) (by kernel_rfl) (by kernel_rfl) (by kernel_rfl) (by first | exact fun _ _ _ h => h | exact fun _ _ _ h => absurd h.1 (by simp)) (Or.inl ⟨by rfl, ?_⟩) (by assumption) ?_
  rotate_left 1
  focus (intro wx hSw; (try dsimp only at hSw); go_simp; try (with_reducible rfl))
  try simp only [Act.put, List.setIfInBounds_toArray, List.set_cons_zero, List.set_cons_succ]
  refine tk1 (v := ?_) (by kernel_rfl) (by kernel_rfl) (by kernel_rfl) (by first | exact fun _ _ _ h => h | exact fun _ _ _ h => absurd h.1 (by simp)) (Or.inl ⟨by rfl, ?_⟩) (by assumption) ?_
  rotate_left 1
  focus (intro wx hSw; (try dsimp only at hSw); go_simp; try (with_reducible rfl))
  try simp only [Act.put, List.setIfInBounds_toArray, List.set_cons_zero, List.set_cons_succ]
  refine tk2 (v := ?_) (by kernel_rfl) (by kernel_rfl) (by kernel_rfl) (by first | exact fun _ _ _ h => h | exact fun _ _ _ h => absurd h.1 (by simp)) (Or.inl ⟨by rfl, ?_⟩) (by assumption) ?_
  rotate_left 1
  focus (intro wx hSw; (try dsimp only at hSw); go_simp; try (with_reducible rfl))
  try simp only [Act.put, List.setIfInBounds_toArray, List.set_cons_zero, List.set_cons_succ]
  refine tk3 (v := ?_) (by kernel_rfl) (by kernel_rfl) (by kernel_rfl) (by first | exact fun _ _ _ h => h | exact fun _ _ _ h => absurd h.1 (by simp)) (Or.inl ⟨by rfl, ?_⟩) (by assumption) ?_
  rotate_left 1
  focus (intro wx hSw; (try dsimp only at hSw); go_simp; try (with_reducible rfl))
  try simp only [Act.put, List.setIfInBounds_toArray, List.set_cons_zero, List.set_cons_succ]
  refine rd4 (by kernel_rfl) (fun K hK => ?_)
  go_simp
  refine (l1Own_any _ L W.drew lo (HV.out.keep (Carries.of lo hW.drew)) hl).mono ?_
  rintro e w2 ⟨vr, rfl, hrow, hb⟩
  have hb : Below W.heap.size W w2 := Below.trans (b := W.drew) (Below.refl _ _).drew (hb.mono (by simp))
  have hw2 : Below w.heap.size w w2 := hW.trans (hb.mono hW.size)
  have b0 := cell_carry b0 (Carries.of 0 hb)
  have b1 := cell_carry b1 (Carries.of 0 hb)
  have zW : w.heap.size + 1 < W.heap.size := cell_old r0
  have g0 := (hb.frozen (p := ⟨w.heap.size + 1, 0, none⟩) zW).trans (f0 0)
  have g1 := (hb.frozen (p := ⟨w.heap.size + 1, 1, none⟩) zW).trans (f0 1)
  have r0 := cell_carry r0 (Carries.of 0 hb)
  have r1 := cell_carry r1 (Carries.of 0 hb)
  have HR := Lib.hid hrow
  obtain ⟨ar, cr, rfl⟩ := owns_form hrow
  have hW2 : W.heap.size ≤ w2.heap.size := hb.size
  clear hrow hb
  refine hK.out _ _ ⟨b0, b1⟩ (fun hHeld => ?_)
  clear hK K
  try simp only [Act.put, List.setIfInBounds_toArray, List.set_cons_zero, List.set_cons_succ]
  refine tk5 (v := ?_) (by kernel_rfl) (by kernel_rfl) (by kernel_rfl) (by first | exact fun _ _ _ h => h | exact fun _ _ _ h => absurd h.1 (by simp)) (Or.inl ⟨by rfl, ?_⟩) (by assumption) ?_
  rotate_left 1
  focus (intro wx hSw; (try dsimp only at hSw); go_simp; try (with_reducible rfl))
  try simp only [Act.put, List.setIfInBounds_toArray, List.set_cons_zero, List.set_cons_succ]
  refine rd6 (by kernel_rfl) (fun K hK => ?_)
  go_simp
  have hne : ∀ i j, (⟨w.heap.size + 1, i, none⟩ : Addr) ≠ ⟨w.heap.size, j, none⟩ := fun i j h => by injection h; omega
  have HO : Hid (IRow w.heap.size ((w2.setCell ⟨w.heap.size + 1, 0, none⟩ (.int .i64 t)).setCell ⟨w.heap.size + 1, 1, none⟩ (.slice ar L.length cr)) (.slice ar L.length cr) L) := by
    have hlt := fun k hk => (HR.out.lt k hk).1
    have h1 := HR.out.kept (grownBy_set w2 ⟨w.heap.size + 1, 0, none⟩ (.int .i64 t)) (by
      cases e : (Value.slice ar L.length cr).ownBlock with
      | none => exact Or.inl rfl
      | some b => exact Or.inr (fun e2 => absurd (hlt b e) (by simp only [Option.some.injEq] at e2; simp; omega)))
    have h2 := h1.kept (grownBy_set _ ⟨w.heap.size + 1, 1, none⟩ (.slice ar L.length cr)) (by
      cases e : (Value.slice ar L.length cr).ownBlock with
      | none => exact Or.inl rfl
      | some b => exact Or.inr (fun e2 => absurd (hlt b e) (by simp only [Option.some.injEq] at e2; simp; omega)))
    exact Go.Joins.ownsRow_le h2 (by simp; omega)
  have hw3 : Below w.heap.size w ((w2.setCell ⟨w.heap.size + 1, 0, none⟩ (.int .i64 t)).setCell ⟨w.heap.size + 1, 1, none⟩ (.slice ar L.length cr)) := (hw2.setCell (p := ⟨w.heap.size + 1, 0, none⟩) (by show w.heap.size ≤ w.heap.size + 1; omega) _).setCell (p := ⟨w.heap.size + 1, 1, none⟩) (by show w.heap.size ≤ w.heap.size + 1; omega) _
  have q0 : ((w2.setCell ⟨w.heap.size + 1, 0, none⟩ (.int .i64 t)).setCell ⟨w.heap.size + 1, 1, none⟩ (.slice ar L.length cr)).cell? ⟨w.heap.size + 1, 0, none⟩ = some (.int .i64 t) := (World.cell?_setCell_other _ _ _ _ (fun h => by injection h with h1 h2; cases h2)).trans (World.cell?_setCell_same _ _ _ r0)
  have q1 : ((w2.setCell ⟨w.heap.size + 1, 0, none⟩ (.int .i64 t)).setCell ⟨w.heap.size + 1, 1, none⟩ (.slice ar L.length cr)).cell? ⟨w.heap.size + 1, 1, none⟩ = some (.slice ar L.length cr) := World.cell?_setCell_same _ _ _ ((World.cell?_setCell_other _ _ _ _ (fun h => by injection h with h1 h2; cases h2)).trans r1)
  refine hK.out _ _ ⟨(World.cell?_setCell_other _ _ _ _ (hne 1 0)).trans ((World.cell?_setCell_other _ _ _ _ (hne 0 0)).trans b0), (World.cell?_setCell_other _ _ _ _ (hne 1 1)).trans ((World.cell?_setCell_other _ _ _ _ (hne 0 1)).trans b1)⟩ (fun hHeld => ?_)
  clear hK K
  try simp only [Act.put, List.setIfInBounds_toArray, List.set_cons_zero, List.set_cons_succ]
  refine wpAnyH_done (by kernel_rfl) ?_ _
  generalize (w2.setCell ⟨w.heap.size + 1, 0, none⟩ (.int .i64 t)).setCell ⟨w.heap.size + 1, 1, none⟩ (.slice ar L.length cr) = w3 at HO hw3 q0 q1 ⊢
  go_wp2_with fail
  refine bodyPost_ret (v := .agg #[.int .i64 t, .slice ar L.length cr]) (by simp [results, Tryz.results59, go_sem, q0, q1]) rfl ?_
  exact ⟨_, rfl, HO.out, hw3⟩

end Go.Proofs.YtigkgfdnnfmmmaaGreat

namespace Go.Proofs.YtigkgfdnnfmmmaaGreat
open Go.RowKit

/-- the cells of n pairs -/
def pairCells (x y : Nat → Value) : Nat → List Value
  | 0 => []
  | n + 1 => pairCells x y n ++ [x n, y n]
theorem pairCells_length (x y : Nat → Value) : ∀ n, (pairCells x y n).length = n * 2
  | 0 => rfl
  | n + 1 => by simp [pairCells, pairCells_length x y n]; omega
theorem pairCells_get (x y : Nat → Value) : ∀ n i, i < n → (pairCells x y n)[i * 2]? = some (x i) ∧ (pairCells x y n)[i * 2 + 1]? = some (y i)
  | 0, i, h => absurd h (Nat.not_lt_zero _)
  | n + 1, i, h => by
    have hl := pairCells_length x y n
    unfold pairCells
    by_cases e : i = n
    · subst e
      constructor
      · rw [List.getElem?_append_right (by omega), hl]; simp
      · rw [List.getElem?_append_right (by omega), hl, show i * 2 + 1 - i * 2 = 1 by omega]; rfl
    · obtain ⟨h0, h1⟩ := pairCells_get x y n i (by omega)
      exact ⟨by rw [List.getElem?_append_left (by omega)]; exact h0, by rw [List.getElem?_append_left (by omega)]; exact h1⟩
theorem pairCells_mem (x y : Nat → Value) : ∀ n u, u ∈ pairCells x y n → ∃ i, i < n ∧ (u = x i ∨ u = y i)
  | 0, u, h => by simp [pairCells] at h
  | n + 1, u, h => by
    unfold pairCells at h
    simp only [List.mem_append, List.mem_cons, List.not_mem_nil, or_false] at h
    rcases h with h | h
    · obtain ⟨i, hi, e⟩ := pairCells_mem x y n u h
      exact ⟨i, by omega, e⟩
    · exact ⟨n, Nat.lt_succ_self _, h⟩

theorem pairs_of_owns {w : World} {base : Nat} {e : TypeId} {v : Value} {n : Nat} {x y : Nat → Value} (h : w.ownsRow base e 2 v n (pairCells x y n)) : PairsAt base w v n x y := by
  have h0 := h
  rcases h.2 with ⟨rfl, hn⟩ | ⟨g, cap, cur, rfl, hb, hg, hnc, _, _, _⟩
  · exact ⟨_, _, by rw [hn], Nat.le_of_eq hn, Or.inl hn⟩
  · refine ⟨_, _, rfl, hnc, Or.inr ⟨g, 0, rfl, hb, fun i hi => ?_⟩⟩
    obtain ⟨e0, e1⟩ := pairCells_get x y n i hi
    exact ⟨by rw [Nat.zero_add, h0.cellAt (i * 2) (by omega)]; exact e0, by rw [Nat.zero_add, h0.cellAt (i * 2 + 1) (by omega)]; exact e1⟩

theorem run_append_pairs (T e : TypeId) (z : Value) (bytes : Nat) (hu : Tryz.prog.underlying T = some (.slice e)) (hinfo : (Tryz.prog.info? e).map (fun i => (i.zero, i.size, i.bytes)) = some (some z, 2, bytes)) (hzc : z.cells.size = 2) (hb48 : bytes ≤ 48)
    (w : World) (ty : TypeId) (base lo : Nat) (v : Value) (n : Nat) (xs : List Value) (hown : w.ownsRow base e 2 v n xs) (src : Value) (m : Nat) (x y : Nat → Value) (hsrc : PairsAt lo w src m x y)
    (hx : ∀ i, (x i).oneCell' = true) (hy : ∀ i, (y i).oneCell' = true) (hlen : n + m ≤ 1073741824) (hbase : base ≤ w.heap.size) :
    ∃ v' w', (Builtin.append_ #[T, T] ty #[v, src]).run Tryz.prog w = .ok v' w' ∧ w'.ownsRow base e 2 v' (n + m) (xs ++ pairCells x y m) ∧ w.grownBy w' v.ownBlock := by
  obtain ⟨i, hi, hzz⟩ := Option.map_eq_some_iff.1 hinfo
  simp only [Prod.mk.injEq] at hzz
  obtain ⟨hz, hs, hby⟩ := hzz
  obtain ⟨ao, cap, rfl, hc, hcase⟩ := hsrc
  rcases hcase with rfl | ⟨b, off, rfl, _, hcell⟩
  · have hrun : (Builtin.append_ #[T, T] ty #[v, .slice ao 0 cap]).run Tryz.prog w = .ok v w := by
      rcases hown.2 with ⟨rfl, rfl⟩ | ⟨g, cap', cur, rfl, _, _, hnc, _⟩
      · cases ao <;> simp [Builtin.append_, run_underlying hu, sizeOf, typeInfo, hi, Builtin.lenOf, Builtin.firstCells, loadCells, loadCellsFrom]
      · cases ao <;> simp [Builtin.append_, run_underlying hu, sizeOf, typeInfo, hi, Builtin.lenOf, Builtin.firstCells, hnc, storeCells, loadCells, loadCellsFrom]
    exact ⟨v, w, hrun, by simpa [pairCells] using hown, ⟨rfl, rfl, rfl, Nat.le_refl _, fun _ _ _ => rfl⟩⟩
  · obtain ⟨v', w', hr, h2, h3, _⟩ := run_append_own (P := Tryz.prog) w base T ty e i _ 2 bytes hu hi hz hs hby hzc (by omega) v n xs hown ⟨b, off, none⟩ m cap (pairCells x y m)
      (pairCells_length x y m) (fun j u hj => by
        have hjl : j < m * 2 := by rw [← pairCells_length x y m]; exact (List.getElem?_eq_some_iff.1 hj).1
        obtain ⟨e0, e1⟩ := pairCells_get x y m (j / 2) (by omega)
        obtain ⟨q0, q1⟩ := hcell (j / 2) (by omega)
        rw [Addr.add_mid]
        rcases Nat.mod_two_eq_zero_or_one j with hm | hm
        · rw [show j / 2 * 2 = j by omega] at e0 q0
          rw [q0, ← e0]; exact hj
        · rw [Nat.add_assoc, show j / 2 * 2 + 1 = j by omega] at q1
          rw [show j / 2 * 2 + 1 = j by omega] at e1
          rw [q1, ← e1]; exact hj) (fun u hu => by
        obtain ⟨k, _, h | h⟩ := pairCells_mem x y m u hu
        · rw [h]; exact hx k
        · rw [h]; exact hy k) (by unfold maxLen; omega) (by
        have : (n + m) * bytes ≤ 1073741824 * 48 := Nat.mul_le_mul hlen hb48
        omega) hbase
    exact ⟨v', w', hr, h2, h3⟩


end Go.Proofs.YtigkgfdnnfmmmaaGreat

namespace Go.Proofs.YtigkgfdnnfmmmaaGreat
open Go.RowKit

def MRow (B : Nat) (w : World) (v : Value) (es : List Ev) : Prop :=
  ∃ xs, w.ownsRow B 46 2 v es.length xs ∧ ∀ i, i < es.length → ∃ u, xs[i * 2]? = some (.int .i64 (evT es i)) ∧ xs[i * 2 + 1]? = some u ∧ IRow B w u (evP es i)
theorem MRow.nil (B : Nat) (w : World) : MRow B w (.slice none 0 0) [] := ⟨[], World.ownsRow_nil _ _ _ _, fun i hi => absurd hi (Nat.not_lt_zero _)⟩
theorem MRow.form {B : Nat} {w : World} {v : Value} {ms : List Ev} (h : MRow B w v ms) : ∃ a c, v = .slice a ms.length c := by
  obtain ⟨xs, h, _⟩ := h
  exact owns_form h
theorem MRow.after {B : Nat} {w w' : World} {v : Value} {es : List Ev} (h : MRow B w v es) (hb : Below w.heap.size w w') : MRow B w' v es := by
  obtain ⟨xs, h1, h2⟩ := h
  refine ⟨xs, owns_after h1 hb, fun i hi => ?_⟩
  obtain ⟨u, a, b, c⟩ := h2 i hi
  exact ⟨u, a, b, owns_after c hb⟩
theorem MRow.grownT {B B' s n : Nat} {w w' : World} {t : TypeId} {v v' : Value} {xs : List Value} {es : List Ev} (h : MRow B w v es) (hx : w.ownsRow B' t s v' n xs) (h1 : 46 ≠ t) (h2 : 3 ≠ t) (hg : w.grownBy w' v'.ownBlock) : MRow B w' v es := by
  obtain ⟨ys, k1, k2⟩ := h
  refine ⟨ys, k1.kept hg (rows_apartT k1 hx h1), fun i hi => ?_⟩
  obtain ⟨u, a, b, c⟩ := k2 i hi
  exact ⟨u, a, b, c.kept hg (rows_apartT c hx h2)⟩
theorem MRow.setT {B : Nat} {w : World} {t : TypeId} {v : Value} {es : List Ev} (h : MRow B w v es) {p : Addr} (hT : TyAt w p.block t) (h1 : 46 ≠ t) (h2 : 3 ≠ t) (u : Value) : MRow B (w.setCell p u) v es := by
  obtain ⟨ys, k1, k2⟩ := h
  refine ⟨ys, owns_setT k1 hT h1 u, fun i hi => ?_⟩
  obtain ⟨x, a, b, c⟩ := k2 i hi
  exact ⟨x, a, b, owns_setT c hT h2 u⟩
theorem MRow.push {B : Nat} {w w' : World} {v v' vq : Value} {xs : List Value} {es : List Ev} {t : Int} {L : List Int} (hx : w.ownsRow B 46 2 v es.length xs)
    (hc : ∀ i, i < es.length → ∃ u, xs[i * 2]? = some (.int .i64 (evT es i)) ∧ xs[i * 2 + 1]? = some u ∧ IRow B w u (evP es i))
    (hown : w'.ownsRow B 46 2 v' (es.length + 1) (xs ++ [.int .i64 t, vq])) (hg : w.grownBy w' v.ownBlock) (hq : IRow B w vq L) :
    MRow B w' v' (es ++ [(t, L)]) := by
  have hl : xs.length = es.length * 2 := hx.1
  refine ⟨xs ++ [.int .i64 t, vq], by rw [List.length_append]; exact hown, fun i hi => ?_⟩
  have keep : ∀ u zs, IRow B w u zs → IRow B w' u zs := fun u zs h => h.kept hg (rows_apartT h hx (by decide))
  by_cases e : i < es.length
  · obtain ⟨a1, a2⟩ := ev_app_left (t := t) (L := L) e
    obtain ⟨u, k0, k1, kr⟩ := hc i e
    rw [a1, a2]
    exact ⟨u, by rw [List.getElem?_append_left (by omega)]; exact k0, by rw [List.getElem?_append_left (by omega)]; exact k1, keep _ _ kr⟩
  · have e2 : i = es.length := by simp at hi; omega
    subst e2
    obtain ⟨a1, a2⟩ := ev_app_last (es := es) (t := t) (L := L)
    rw [a1, a2]
    refine ⟨vq, ?_, ?_, keep _ _ hq⟩
    · rw [List.getElem?_append_right (by omega), hl]; simp
    · rw [List.getElem?_append_right (by omega), hl]; simp
theorem MRow.at {B : Nat} {w : World} {v : Value} {es : List Ev} (h : MRow B w v es) : EvsAt B w v es := by
  obtain ⟨xs, h1, h2⟩ := h
  have h0 := h1
  rcases h1.2 with ⟨rfl, hn⟩ | ⟨g, cap, cur, rfl, hb, hg, hnc, _⟩
  · exact ⟨none, 0, by rw [hn], by omega, Or.inl hn⟩
  · refine ⟨_, _, rfl, hnc, Or.inr ⟨g, 0, rfl, hb, fun i hi => ?_⟩⟩
    obtain ⟨u, a, b, c⟩ := h2 i hi
    refine ⟨u, ?_, ?_, ints_of_owns c⟩
    · rw [Nat.zero_add, h0.cellAt (i * 2) (by omega)]; exact a
    · rw [Nat.zero_add, h0.cellAt (i * 2 + 1) (by omega)]; exact b

theorem cn_pair {x y : Int → Value} (hx : ∀ z, x z = .int .i64 z) (hy : ∀ z, y z = .int .i64 z) : ∀ cs : List Cnd, pairCells (fun i => x (cnP cs i)) (fun i => y (cnB cs i)) cs.length = cnCells cs := fun cs => by
  apply List.ext_getElem?
  intro j
  by_cases h : j < cs.length * 2
  · obtain ⟨p0, p1⟩ := pairCells_get (fun i => x (cnP cs i)) (fun i => y (cnB cs i)) cs.length (j / 2) (by omega)
    obtain ⟨c0, c1⟩ := cnCells_get cs (j / 2) (by omega)
    rcases Nat.mod_two_eq_zero_or_one j with hm | hm
    · rw [show j / 2 * 2 = j by omega] at p0 c0
      rw [p0, c0, hx]
    · rw [show j / 2 * 2 + 1 = j by omega] at p1 c1
      rw [p1, c1, hy]
  · rw [List.getElem?_eq_none (by rw [pairCells_length]; omega), List.getElem?_eq_none (by rw [cnCells_length]; omega)]

/-- many conditions are appended -/
theorem wpList_append_cnds {ops : Array Oper} {rest : List Oper} {o : Oper} {a : Act} {w : World} {Q : Exit → Act → World → Prop} (hgd : o.guard = none) (s x : Operand)
    (ho : o.op = .call { callee := .builtin .append, args := #[s, x], argTypes := #[35, 35] })
    (base lo : Nat) (v : Value) (xs : List Cnd) (hs : a.eval s = v) (hown : CRow base w v xs) (src : Value) (cs : List Cnd) (hx : a.eval x = src) (hsrc : CndsAt lo w src cs)
    (hlen : xs.length + cs.length ≤ 1073741824) (hbase : base ≤ w.heap.size)
    (h : ∀ v' w', CRow base w' v' (xs ++ cs) → w.grownBy w' v.ownBlock → wpList Tryz.prog ops Q rest (a.put o.dst v') w') : wpList Tryz.prog ops Q (o :: rest) a w :=
  wpList_plain hgd fun _ hK => by
    obtain ⟨v', w', hr, h2, h3⟩ := run_append_pairs 35 96 _ 16 Tryz.underlying35 Tryz.infoCnd rfl (by omega) w o.type base lo v xs.length _ hown src cs.length _ _ hsrc (fun _ => rfl) (fun _ => rfl) hlen hbase
    unfold Oper.wp execOp
    simp only [ho, resolve, invoke, builtin, Sem.run_bind, Sem.run_pure, Result.andThen_ok, List.map_toArray, List.map_cons, List.map_nil, hs, hx, hr]
    refine hK _ _ (h v' w' ?_ h3)
    have e := cn_pair (x := fun z => .int .i64 z) (y := fun z => .int .i64 z) (fun _ => rfl) (fun _ => rfl) cs
    try dsimp only at e
    rw [e] at h2
    show w'.ownsRow base _ 2 _ (xs ++ cs).length (cnCells (xs ++ cs))
    rw [cnCells_append, List.length_append]
    exact h2

/-- an unfolding in block O, its rows from block B on -/
structure OutAt (B O : Nat) (w : World) (vc ve : Value) (cs : List Cnd) (es : List Ev) : Prop where
  o0 : w.cell? ⟨O, 0, none⟩ = some vc
  o1 : w.cell? ⟨O, 1, none⟩ = some ve
  fr : ∀ i, w.frozen? ⟨O, i, none⟩ = false
  ty : TyAt w O 38
  bO : B ≤ O
  rc : CRow B w vc cs
  rm : MRow B w ve es
theorem OutAt.after {B O : Nat} {w w' : World} {vc ve : Value} {cs : List Cnd} {es : List Ev} (h : OutAt B O w vc ve cs es) (hb : Below w.heap.size w w') : OutAt B O w' vc ve cs es :=
  ⟨cell_carry h.o0 (Carries.of 0 hb), cell_carry h.o1 (Carries.of 0 hb), fun i => (hb.frozen (p := ⟨O, i, none⟩) h.ty.lt).trans (h.fr i), h.ty.keep hb, h.bO, owns_after h.rc hb, h.rm.after hb⟩
theorem OutAt.mid {B O B' s n : Nat} {w w' : World} {vc ve : Value} {cs : List Cnd} {es : List Ev} (h : OutAt B O w vc ve cs es) {t : TypeId} {v : Value} {xs : List Value} (hx : w.ownsRow B' t s v n xs) (hne : t ≠ 38) (hg : w.grownBy w' v.ownBlock) :
    (w'.cell? ⟨O, 0, none⟩ = some vc ∧ w'.cell? ⟨O, 1, none⟩ = some ve) ∧ (∀ i, w'.frozen? ⟨O, i, none⟩ = false) ∧ TyAt w' O 38 := by
  have hn := owns_ne hx h.ty hne
  exact ⟨⟨hg.cell h.o0 hn, hg.cell h.o1 hn⟩, fun i => (World.frozen?_of_block (a := ⟨O, i, none⟩) (hg.block O h.ty.lt hn)).trans (h.fr i), h.ty.grown hg hn⟩
theorem OutAt.pushC {B O : Nat} {w w' : World} {vc ve v' : Value} {cs cs' : List Cnd} {es : List Ev} (h : OutAt B O w vc ve cs es) (hown : CRow B w' v' cs') (hg : w.grownBy w' vc.ownBlock) : OutAt B O (w'.setCell ⟨O, 0, none⟩ v') v' ve cs' es := by
  obtain ⟨⟨k0, k1⟩, kf, kT⟩ := h.mid h.rc (by decide) hg
  refine ⟨World.cell?_setCell_same _ _ _ k0, cell_set_far k1 (by decide), fun i => by rw [World.frozen?_setCell]; exact kf i, kT.set _ _, h.bO, ?_, ?_⟩
  · exact owns_setT hown (p := ⟨O, 0, none⟩) kT (by decide) _
  · exact (h.rm.grownT h.rc (by decide) (by decide) hg).setT (p := ⟨O, 0, none⟩) kT (by decide) (by decide) _
theorem OutAt.pushM {B O m : Nat} {w w' : World} {vc ve v' : Value} {cs : List Cnd} {es es' : List Ev} {xs : List Value} (h : OutAt B O w vc ve cs es) (hx : w.ownsRow B 46 2 ve m xs) (hown : MRow B w' v' es') (hg : w.grownBy w' ve.ownBlock) : OutAt B O (w'.setCell ⟨O, 1, none⟩ v') vc v' cs es' := by
  obtain ⟨⟨k0, k1⟩, kf, kT⟩ := h.mid hx (by decide) hg
  refine ⟨cell_set_far k0 (by decide), World.cell?_setCell_same _ _ _ k1, fun i => by rw [World.frozen?_setCell]; exact kf i, kT.set _ _, h.bO, ?_, ?_⟩
  · exact owns_setT (h.rc.kept hg (rows_apartT h.rc hx (by decide))) (p := ⟨O, 1, none⟩) kT (by decide) _
  · exact hown.setT (p := ⟨O, 1, none⟩) kT (by decide) (by decide) _

end Go.Proofs.YtigkgfdnnfmmmaaGreat
