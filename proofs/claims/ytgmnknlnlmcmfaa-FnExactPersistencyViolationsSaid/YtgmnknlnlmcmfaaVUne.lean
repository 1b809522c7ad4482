/- THE SORT of violations: slices.SortFunc(found, compareViolations) on a row that the call owns: the same slice owns the sorted list.
   WALKS: isInput, mayDisable of the program.
   BLOCKS AND THEIR TYPES: a row's block is no block of another type; owned rows stand when such a block is written. -/
import Derived.Shelf.SlSortCmp.NoneTotal
import Derived.Test.YtgmnknlnlmcmfaaVSrt
import Derived.Test.YtgmnknlnlmcmfaaVPvd
import Derived.Test.YtgmnknlnlmcmfaaVPvp
import Derived.Test.YtgmnknlnlmcmfaaVOvk
namespace Go.Proofs.Ytgmnknlnlmcmfaa
open Go.RowKit Go.Sort Go.Shelf

def encP (m : Mv) : List Value := [.int .i64 m.1, .int .i64 m.2.1, .int .i64 m.2.2]
theorem encP_one (m : Mv) : ∀ v ∈ encP m, v.oneCell' = true := by
  intro v hv
  simp only [encP, List.mem_cons, List.not_mem_nil, or_false] at hv
  rcases hv with rfl | rfl | rfl <;> rfl
theorem flat_pv (L : List Mv) : (flatK encP 3 L.toArray).toList = pvCells L := by
  apply List.ext_getElem?
  intro t
  have hsz : (flatK encP 3 L.toArray).size = L.length * 3 := by simp
  by_cases ht : t < L.length * 3
  · have hi : t / 3 < L.length := by omega
    have h0 := pvCells_get L (t / 3) hi
    have hg := get_flatK encP 3 L.toArray t (by simpa using ht)
    have hL : L.toArray[t / 3]! = L[t / 3] := by simp [hi]
    rw [Array.getElem?_toList, Array.getElem?_eq_getElem (by rw [hsz]; exact ht), ← getElem!_pos _ _ (by rw [hsz]; exact ht), hg, hL]
    have e : t / 3 * 3 + t % 3 = t := by omega
    have hm : t % 3 < 3 := Nat.mod_lt _ (by decide)
    have g1 : mvF L (t / 3) = L[t / 3].1 := by simp [mvF, List.getD, hi]
    have g2 : mvB L (t / 3) = L[t / 3].2.1 := by simp [mvB, List.getD, hi]
    have g3 : mvT L (t / 3) = L[t / 3].2.2 := by simp [mvT, List.getD, hi]
    rw [g1, g2, g3] at h0
    rcases (by omega : t % 3 = 0 ∨ t % 3 = 1 ∨ t % 3 = 2) with hr | hr | hr
    · have e2 : t = t / 3 * 3 := by omega
      rw [hr]
      rw [show (pvCells L)[t]? = (pvCells L)[t / 3 * 3]? from by rw [← e2], h0.1]; rfl
    · have e2 : t = t / 3 * 3 + 1 := by omega
      rw [hr]
      rw [show (pvCells L)[t]? = (pvCells L)[t / 3 * 3 + 1]? from by rw [← e2], h0.2.1]; rfl
    · have e2 : t = t / 3 * 3 + 2 := by omega
      rw [hr]
      rw [show (pvCells L)[t]? = (pvCells L)[t / 3 * 3 + 2]? from by rw [← e2], h0.2.2]; rfl
  · rw [List.getElem?_eq_none (by rw [Array.length_toList, hsz]; omega), List.getElem?_eq_none (by rw [pvCells_length]; omega)]

theorem heap_sortedK {w : World} {g n : Nat} {os : Array Obj} {cur : Array Value} {e : TypeId} {fr : Nat × Nat} (d : Array Value) (hb : w.heap[g]? = some (.cells cur e fr)) :
    (grow (putRow id (Sort.ahead w n) g 0 d) os).heap[g]? = some (.cells (putCells id 0 d cur) e fr) := by
  have hg : g < w.heap.size := (Array.getElem?_eq_some_iff.1 hb).1
  rw [heap_grow_old _ _ (by simpa using hg)]
  simp [putRow, mapBlock, Sort.ahead, Array.getElem?_modify, hb, onCells]
theorem grownBy_sortedK {w : World} {g n : Nat} {os : Array Obj} (d : Array Value) : w.grownBy (grow (putRow id (Sort.ahead w n) g 0 d) os) (some g) := by
  refine ⟨rfl, rfl, rfl, by simp, fun k hk hne => ?_⟩
  rw [heap_grow_old _ _ (by simpa using hk)]
  have : g ≠ k := fun e => hne (by rw [e])
  simp [putRow, mapBlock, Sort.ahead, Array.getElem?_modify, this]
theorem take_putCellsK (cur d : Array Value) (h : d.size ≤ cur.size) : (putCells id 0 d cur).toList.take d.size = d.toList := by
  apply List.ext_getElem?
  intro j
  by_cases hj : j < d.size
  · rw [List.getElem?_take_of_lt hj, Array.getElem?_toList]
    simp [putCells, hj, show j < cur.size by omega]
  · rw [List.getElem?_take_eq_none (by omega), List.getElem?_eq_none (by simp; omega)]

set_option maxRecDepth 100000 in
/-- **the sorted row** -/
theorem sortPV_any (B : Nat) (v : Value) (L : List Mv) (W : World) (h : PRow B W v L) (hn : L.length ≤ 1048576) :
    Calls Try.prog 132 #[v, .func (.func 133) #[] #[]] W (fun e w' => e = .returned (.tuple #[]) ∧ PRow B w' v (L.mergeSort fun x y => !ltOf cfV y x) ∧ W.grownBy w' v.ownBlock) := by
  rcases h.2 with ⟨rfl, h0⟩ | ⟨g, cap, cur, rfl, hbase, hb, h1, h2, h3, h4⟩
  · have hL : L = [] := List.eq_nil_of_length_eq_zero h0
    subst hL
    refine (AnyF.slices_SortFunc_none (ρ := Try.sortPV_ren) { Try.sortPV with } none 0 _ W).mono ?_
    rintro e w' ⟨rfl, rfl⟩
    exact ⟨rfl, by rw [List.mergeSort_nil]; exact h, ⟨rfl, rfl, rfl, Nat.le_refl _, fun _ _ _ => rfl⟩⟩
  · have hH : HoldsK encP 3 W g 0 L.toArray := by
      unfold HoldsK
      intro j hj
      have hj' : j < L.length * 3 := by simpa using hj
      refine ⟨?_, h.frozenAt _⟩
      rw [Nat.zero_add, h.cellAt j hj', ← flat_pv, Array.getElem?_toList, Array.getElem?_eq_getElem hj, ← getElem!_pos (flatK encP 3 L.toArray) j hj]
      rfl
    have hg : g < W.heap.size := (Array.getElem?_eq_some_iff.1 hb).1
    have hS := AnyQ.slices_SortFunc_total (ρ := Try.sortPV_ren) Try.sortPV 3 Try.isAgg106 Try.sizeOf106 encP (fun _ => rfl) encP_one cfV swoV 133 #[] g 0 cap L.toArray W
      (enters_of Try.func133 (by kernel_rfl) rfl) (fun _ _ _ _ x y => compareViolations_any x y _) hH hg (by simp; omega) totV
    have hsz : L.toArray.size = L.length := by simp
    rw [hsz] at hS
    refine hS.mono ?_
    rintro e w' ⟨rfl, n, os, rfl⟩
    refine ⟨rfl, ?_, grownBy_sortedK _⟩
    have hl : (L.mergeSort fun x y => !ltOf cfV y x).length = L.length := List.length_mergeSort _
    generalize (L.mergeSort fun x y => !ltOf cfV y x) = T at hl ⊢
    have hc : (flatK encP 3 T.toArray).size = L.length * 3 := by simp [hl]
    have hfit : L.length * 3 ≤ cap * 3 := Nat.mul_le_mul_right 3 h1
    refine ⟨by rw [pvCells_length], Or.inr ⟨g, cap, _, by rw [hl], hbase, heap_sortedK _ hb, by rw [hl]; exact h1, h2, by simp [putCells, h3], ?_⟩⟩
    rw [hl, ← hc, take_putCellsK _ _ (by rw [hc, h3]; exact hfit)]
    exact flat_pv T

end Go.Proofs.Ytgmnknlnlmcmfaa

namespace Go.Proofs.Ytgmnknlnlmcmfaa
open Go.RowKit

set_option maxRecDepth 100000 in
set_option maxHeartbeats 1000000 in
theorem isInput_any (v : Value) (r : SgD) (x : Int) (w : World) (lo : Nat) (hv : SgAt lo w v r) (hs : SmallSg r) :
    Calls Try.prog 183 #[v, .int .i64 x] w (RetB w (inB r x)) := by
  have KG := hs.1.1
  obtain ⟨q, hq⟩ : ∃ q, q = inB r x := ⟨_, rfl⟩
  rw [← hq]
  obtain ⟨a0, c0, a1, c1, a2, c2, rfl, h_0, h_1, h_2⟩ := hv.form
  clear hv h_1 h_2 hs
  have HF := Lib.hid h_0; clear h_0
  obtain ⟨ng, hng⟩ : ∃ n, n = r.sigs.length := ⟨_, rfl⟩
  obtain ⟨nc, hnc⟩ : ∃ n, n = r.codes.length := ⟨_, rfl⟩
  obtain ⟨na, hna⟩ : ∃ n, n = r.arcs.length := ⟨_, rfl⟩
  have hq2 : q = (decide (0 ≤ x ∧ x < (ng : Int)) && !niF r x.toNat) := by rw [hng]; exact hq
  rw [← hng] at KG HF
  rw [← hng, ← hnc, ← hna]
  have HNG := Lib.hid hng
  clear hng hnc hna hq
  have hal : Below w.heap.size w (w.alloc (.cells #[.slice a0 ng c0, .slice a1 nc c1, .slice a2 na c2] 34)) := (Below.refl _ _).alloc (Nat.le_refl _) _
  have x0 : (w.alloc (.cells #[.slice a0 ng c0, .slice a1 nc c1, .slice a2 na c2] 34)).cell? ⟨w.heap.size, 0, none⟩ = some (.slice a0 ng c0) := by simp
  have HQ := Lib.hid hq2; clear hq2
  go_enter Try.func183, Try.ntmps183
  go_wp2_with fail
  generalize w.alloc (.cells #[.slice a0 ng c0, .slice a1 nc c1, .slice a2 na c2] 34) = W at x0 hal ⊢
  refine (sgHasSignal_any a0 a1 a2 ng c0 nc c1 na c2 x W KG).mono ?_
  rintro e W2 ⟨rfl, hb⟩
  have hw : Below w.heap.size w W2 := hal.trans (hb.mono hal.size)
  have x0 := cell_carry x0 (Carries.of 0 hb)
  clear hb
  by_cases hr : 0 ≤ x ∧ x < (ng : Int)
  · have e := HQ.out
    rw [decide_eq_true hr, Bool.true_and] at e
    rw [decide_eq_true hr]
    obtain ⟨k, rfl⟩ := Int.eq_ofNat_of_zero_le hr.1
    have hk : k < ng := by omega
    obtain ⟨ao, cap, hvv, hc, hz⟩ := HF.out
    injection hvv with e1 e2 e3
    subst e1; subst e3; clear e2
    rcases hz with h0 | ⟨b, off, rfl, hlo, hcell⟩
    · rw [← HNG.out] at h0; omega
    obtain ⟨p0, p1⟩ := hcell k (by rw [← HNG.out]; exact hk)
    have d1 := Carries.of lo hw _ _ hlo p1
    try dsimp only at d1
    have e2 : q = !(sgK r.sigs k != 1) := e
    clear hcell p0 p1 e hc hr
    generalize sgK r.sigs k = kd at d1 e2
    have t0 : (kd == 1) = q := by rw [e2, bne, Bool.not_not]
    clear e2
    go_wp2_with fail
    go_ret
    exact ⟨rfl, hw⟩
  · have e := HQ.out
    rw [decide_eq_false hr, Bool.false_and] at e
    rw [decide_eq_false hr]
    subst e
    clear hr
    go_wp2_with fail
    go_ret
    exact ⟨rfl, hw⟩

set_option maxRecDepth 100000 in
set_option maxHeartbeats 2000000 in
theorem mayDisable_any (v : Value) (r : SgD) (f s : Int) (u : Bool) (t x : Int) (w : World) (lo : Nat) (hv : SgAt lo w v r) (hs : SmallSg r) :
    Calls Try.prog 131 #[v, .agg #[.int .i64 f, .int .i64 s, .bool u, .int .i64 t], .int .i64 x] w (RetB w ((s == x) || (inB r s && inB r x))) := by
  have HV := Lib.hid hv
  obtain ⟨a0, c0, a1, c1, a2, c2, rfl, h_0, h_1, h_2⟩ := hv.form
  clear hv h_0 h_1 h_2
  have HS := Lib.hid hs; clear hs
  obtain ⟨ng, hng⟩ : ∃ n, n = r.sigs.length := ⟨_, rfl⟩
  obtain ⟨nc, hnc⟩ : ∃ n, n = r.codes.length := ⟨_, rfl⟩
  obtain ⟨na, hna⟩ : ∃ n, n = r.arcs.length := ⟨_, rfl⟩
  rw [← hng, ← hnc, ← hna] at HV ⊢
  clear hng hnc hna
  obtain ⟨W, hWe⟩ : ∃ W, W = (w.alloc (.cells #[.slice a0 ng c0, .slice a1 nc c1, .slice a2 na c2] 34)).alloc (.cells #[.int .i64 f, .int .i64 s, .bool u, .int .i64 t] 153) := ⟨_, rfl⟩
  have hal : Below w.heap.size w W := by rw [hWe]; exact ((Below.refl _ _).alloc (Nat.le_refl _) _).alloc (by simp) _
  have x0 : W.cell? ⟨w.heap.size, 0, none⟩ = some (.slice a0 ng c0) := by rw [hWe]; simp
  have x1 : W.cell? ⟨w.heap.size, 1, none⟩ = some (.slice a1 nc c1) := by rw [hWe]; simp
  have x2 : W.cell? ⟨w.heap.size, 2, none⟩ = some (.slice a2 na c2) := by rw [hWe]; simp
  have y1 : W.cell? ⟨w.heap.size + 1, 1, none⟩ = some (.int .i64 s) := by rw [hWe]; simp
  obtain ⟨e1, t1⟩ : ∃ e, (s == x) = e := ⟨_, rfl⟩
  obtain ⟨e2, he2⟩ : ∃ e, inB r s = e := ⟨_, rfl⟩
  obtain ⟨e3, he3⟩ : ∃ e, inB r x = e := ⟨_, rfl⟩
  rw [t1, he2, he3]
  have HI : Hid (∀ (y : Int) (W' : World), Below W.heap.size W W' → Calls Try.prog 183 #[.agg #[.slice a0 ng c0, .slice a1 nc c1, .slice a2 na c2], .int .i64 y] W' (RetB W' (inB r y))) := fun y W' h => isInput_any _ r y W' lo (HV.out.keep (Carries.of lo (hal.trans (h.mono hal.size)))) HS.out
  have H2 := Lib.hid he2; clear he2
  have H3 := Lib.hid he3; clear he3
  go_enter Try.func131, Try.ntmps131
  cases e1 with
  | true =>
    go_wp2_with fail
    go_ret
    exact ⟨rfl, by rw [← hWe]; exact hal⟩
  | false =>
    go_wp2_with fail
    rw [← hWe]
    clear hWe
    refine (HI.out s W (Below.refl _ _)).mono ?_
    rintro e W2 ⟨rfl, hb⟩
    rw [H2.out]
    have hw2 : Below w.heap.size w W2 := hal.trans (hb.mono hal.size)
    have x0 := cell_carry x0 (Carries.of 0 hb)
    have x1 := cell_carry x1 (Carries.of 0 hb)
    have x2 := cell_carry x2 (Carries.of 0 hb)
    cases e2 with
    | false =>
      go_wp2_with fail
      go_ret
      exact ⟨rfl, hw2⟩
    | true =>
      go_wp2_with fail
      refine (HI.out x W2 hb).mono ?_
      rintro e W3 ⟨rfl, hb3⟩
      rw [H3.out]
      have hw3 : Below w.heap.size w W3 := hw2.trans (hb3.mono hw2.size)
      go_wp2_with fail
      go_ret
      exact ⟨rfl, hw3⟩

end Go.Proofs.Ytgmnknlnlmcmfaa

namespace Go.Proofs.Ytgmnknlnlmcmfaa
open Go.RowKit

/-- the block holds cells of this type -/
def TyAt (w : World) (g : Nat) (t : TypeId) : Prop := ∃ cur f, w.heap[g]? = some (.cells cur t f)
theorem TyAt.lt {w : World} {g : Nat} {t : TypeId} (h : TyAt w g t) : g < w.heap.size := by
  obtain ⟨_, _, h⟩ := h
  exact (Array.getElem?_eq_some_iff.1 h).1
theorem TyAt.keep {w w' : World} {g : Nat} {t : TypeId} (h : TyAt w g t) (hb : Below w.heap.size w w') : TyAt w' g t := by
  have hl := h.lt
  obtain ⟨c, f, h⟩ := h
  exact ⟨c, f, (hb.block g hl).trans h⟩
theorem TyAt.grown {w w' : World} {g : Nat} {t : TypeId} {row : Option Nat} (h : TyAt w g t) (hg : w.grownBy w' row) (hne : some g ≠ row) : TyAt w' g t := by
  have hl := h.lt
  obtain ⟨c, f, h⟩ := h
  exact ⟨c, f, (hg.block g hl hne).trans h⟩
theorem TyAt.set {w : World} {g : Nat} {t : TypeId} (h : TyAt w g t) (p : Addr) (u : Value) : TyAt (w.setCell p u) g t := by
  obtain ⟨c, f, h⟩ := h
  by_cases e : g = p.block
  · subst e
    exact ⟨_, _, by simp [World.setCell, Array.getElem?_modify, h]; exact ⟨rfl, rfl⟩⟩
  · exact ⟨c, f, (Below.heap_setCell _ _ _ _ e).trans h⟩
theorem TyAt.new (w : World) (c : Array Value) (t : TypeId) : TyAt (w.alloc (.cells c t)) w.heap.size t := ⟨c, _, heap_alloc_new w _⟩
theorem owns_ne {B : Nat} {w : World} {e t : TypeId} {size n g : Nat} {v : Value} {xs : List Value} (h : w.ownsRow B e size v n xs) (hT : TyAt w g t) (hne : e ≠ t) : some g ≠ v.ownBlock := by
  obtain ⟨c, f, hT⟩ := hT
  rcases h.2 with ⟨rfl, _⟩ | ⟨g', cap, cur, rfl, _, hg, _⟩
  · simp [Value.ownBlock]
  · intro e'
    simp only [Value.ownBlock, Option.some.injEq] at e'
    subst e'
    rw [hT] at hg
    simp at hg
    exact hne hg.2.1.symm
theorem owns_setT {B : Nat} {w : World} {e t : TypeId} {size n : Nat} {v : Value} {xs : List Value} (h : w.ownsRow B e size v n xs) {p : Addr} (hT : TyAt w p.block t) (hne : e ≠ t) (u : Value) : (w.setCell p u).ownsRow B e size v n xs :=
  h.kept (grownBy_set w p u) (Or.inr (fun e' => owns_ne h hT hne e'.symm))
theorem OwnTrs.setT {B : Nat} {w : World} {t : TypeId} {xs : List Value} {k : Nat} {ts : List Tr} (h : OwnTrs B w xs k ts) {p : Addr} (hT : TyAt w p.block t) (hne : 3 ≠ t) (u : Value) : OwnTrs B (w.setCell p u) xs k ts := by
  refine ⟨h.1, fun i hi => ?_⟩
  obtain ⟨v0, v1, e0, e1, h0, h1⟩ := h.2 i hi
  exact ⟨v0, v1, e0, e1, owns_setT h0 hT hne u, owns_setT h1 hT hne u⟩
theorem OwnTrs.low {B B' : Nat} {w : World} {xs : List Value} {k : Nat} {ts : List Tr} (h : OwnTrs B w xs k ts) (hB : B' ≤ B) : OwnTrs B' w xs k ts := by
  refine ⟨h.1, fun i hi => ?_⟩
  obtain ⟨v0, v1, e0, e1, h0, h1⟩ := h.2 i hi
  exact ⟨v0, v1, e0, e1, h0.low hB, h1.low hB⟩
theorem OwnTrs.congr {B : Nat} {w : World} {xs : List Value} {k : Nat} {ts us : List Tr} (h : OwnTrs B w xs k ts) (he : ∀ i, i < k → us.getD i ([], []) = ts.getD i ([], [])) : OwnTrs B w xs k us := by
  refine ⟨h.1, fun i hi => ?_⟩
  rw [he i hi]
  exact h.2 i hi

/-- a call returns a net of its own -/
def RetOwnN (w : World) (n : NetD) (e : Ending) (w' : World) : Prop :=
  ∃ u xs, e = .returned (.agg #[.int .i64 n.places, u]) ∧ w'.ownsRow w.heap.size 176 2 u n.ts.length xs ∧ OwnTrs w.heap.size w' xs n.ts.length n.ts ∧ Below w.heap.size w w'

end Go.Proofs.Ytgmnknlnlmcmfaa
