/- DRAWS: l1Put, subset: rows of ints of the call's own.
   BLOCKS AND THEIR TYPES: a row's block is no block of another type; owned rows stand when such a block is written. -/
import Derived.Test.YtkkfglolameogaaVCur
import Derived.Test.YtkkfglolameogaaVOwnt
namespace Go.Proofs.Ytkkfglolameogaa
open Go.RowKit

/-- a row of so many ints at most, of the call's own -/
def SetRow (B k : Nat) (w : World) (v : Value) : Prop := ∃ zs : List Int, zs.length ≤ k ∧ IRow B w v zs

theorem row_new (w : World) : (w.alloc (.cells #[] 3)).ownsRow w.heap.size 3 1 (.slice (some ⟨w.heap.size, 0, none⟩) 0 0) 0 [] :=
  ⟨rfl, Or.inr ⟨w.heap.size, 0, #[], rfl, Nat.le_refl _, heap_alloc_new w _, Nat.le_refl _, Nat.zero_le _, rfl, rfl⟩⟩
theorem row_src {w : World} {g len cap : Nat} {f : Nat → Int} (h : ∀ i, i < len → w.cell? ⟨g, i, none⟩ = some (.int .i64 (f i))) (hc : len ≤ cap) {k n : Nat} (hk : k + n ≤ len) :
    IntsAt 0 w (.slice (some ⟨g, k, none⟩) n (cap - k)) ((List.range n).map fun i => f (k + i)) := by
  refine ⟨_, cap - k, by simp, by simp; omega, Or.inr ⟨g, k, rfl, Nat.zero_le _, fun i hi => ?_⟩⟩
  simp at hi
  rw [h (k + i) (by omega)]
  simp [List.getD, hi]

set_option maxRecDepth 100000 in
set_option maxHeartbeats 4000000 in
theorem l1Put_any (v : Value) (zs : List Int) (x : Int) (w : World) (B : Nat) (hv : IRow B w v zs) (hB : B ≤ w.heap.size) (hn : zs.length ≤ 1048576) :
    Calls Try.prog 159 #[v, .int .i64 x] w (fun e w' => ∃ v', e = .returned v' ∧ SetRow B (zs.length + 1) w' v' ∧ Below w.heap.size w w') := by
  have HV := Lib.hid hv
  rcases hv.2 with ⟨rfl, h0⟩ | ⟨g, cap, cur, rfl, hgb, hgg, hcap, -⟩
  · have hz : zs = [] := List.eq_nil_of_length_eq_zero h0
    subst hz
    clear hv h0
    go_enter Try.func159, Try.ntmps159
    go_wp2_with fail
    go_loopw [5] (fun i wr => i = .int .i64 0 ∧ Below w.heap.size w wr) (fun i _ => 0)
    case atStart => exact ⟨rfl, Below.refl _ _⟩
    case round =>
      obtain ⟨rfl, hb1⟩ := hrel
      have hal : Below wr.heap.size wr (wr.alloc (.cells #[] 3)) := (Below.refl _ _).alloc (Nat.le_refl _) _
      have HO := Lib.hid (row_new wr)
      have zb := hb1.size
      go_wp2_with (first
        | (refine wpList_append_ints rfl (.tmp 34) (.tmp 37) rfl wr.heap.size 0 _ 0 [] rfl HO.out _ [] rfl (ints_nil _ _) (by simp) (by simp) ?_; intro v1 W1 ho1 hg1; obtain ⟨a1, c1, rfl⟩ := owns_form ho1; have HB1 := Lib.hid (hal.grown hg1 (by simp) (fun q hq => by cases hq; exact Nat.le_refl _)); have HO1 := Lib.hid ho1; clear ho1 hg1)
        | (refine wpList_append_ints rfl (.tmp 39) (.tmp 41) rfl wr.heap.size 0 _ _ _ rfl (World.ownsRow.alloc HO1.out _) _ [x] rfl (ints_one _ _ _) (by simp) (by have := HB1.out.size; simp; omega) ?_; intro v2 W2 ho2 hg2; obtain ⟨a2, c2, rfl⟩ := owns_form ho2; have HB2 := Lib.hid ((HB1.out.alloc HB1.out.size _).grown hg2 (by have := HB1.out.size; simp; omega) (fun q hq => (HO1.out.lt q hq).1)); have HO2 := Lib.hid ho2; clear ho2 hg2)
        | (refine wpList_append_ints rfl (.tmp 43) (.tmp 46) rfl wr.heap.size 0 _ _ _ rfl HO2.out _ [] rfl (ints_nil _ _) (by simp) (by have := HB2.out.size; omega) ?_; intro v3 W3 ho3 hg3; have HB3 := Lib.hid (HB2.out.grown hg3 HB2.out.size (fun q hq => (HO2.out.lt q hq).1)); have HO3 := Lib.hid ho3; clear ho3 hg3))
      go_ret
      refine ⟨_, rfl, ⟨[x], by simp, ?_⟩, hb1.trans (HB3.out.mono hb1.size)⟩
      have h := Go.Joins.ownsRow_le HO3.out (show B ≤ wr.heap.size by omega)
      simpa [IRow, intCells] using h
  have hf : ∃ f : Nat → Int, f = fun i => zs.getD i 0 := ⟨_, rfl⟩
  obtain ⟨f, hf⟩ := hf
  have hcell : ∀ i, i < zs.length → w.cell? ⟨g, i, none⟩ = some (.int .i64 (f i)) := fun i hi => by rw [hf]; exact (hv.cellAt i (by omega)).trans (intCells_get hi)
  have HL := Lib.hid hcell; clear hcell
  clear hf hv hgg cur
  go_enter Try.func159, Try.ntmps159
  go_wp2_with fail
  go_loopw [5] (fun i wr => ∃ k : Nat, k ≤ zs.length ∧ i = .int .i64 k ∧ Below w.heap.size w wr) (fun i _ => zs.length - (intOf i).toNat)
  case atStart => exact ⟨0, Nat.zero_le _, rfl, Below.refl _ _⟩
  case round =>
    obtain ⟨k, hk, rfl, hb1⟩ := hrel
    have HW := Lib.hid (fun i hi => cell_carry (HL.out i hi) (Carries.of 0 hb1))
    have i0 : (0 : Int) ≤ (k : Int) := by omega
    have i2 : (k : Int) ≤ (cap : Int) := by omega
    have i3 : (k : Int) ≤ (zs.length : Int) := by omega
    by_cases hlt : k < zs.length
    · have c0 := HW.out k hlt
      have i1 : (k : Int) < (zs.length : Int) := by omega
      by_cases hx : f k < x
      · have t1 : decide (f k < x) = true := decide_eq_true hx
        clear i2 i3
        generalize f k = fk at c0 t1 hx
        go_wp2_with fail
        go_roundw
        case rel => exact ⟨k + 1, by omega, by go_num, hb1⟩
        case measure => simp [intOf]; omega
      · have t1 : decide (f k < x) = false := decide_eq_false hx
        by_cases he : f k = x
        · have t2 : (f k == x) = true := by rw [beq_iff_eq]; exact he
          clear i2 i3 he
          generalize f k = fk at c0 t1 t2 hx
          go_wp2_with fail
          go_ret
          exact ⟨_, rfl, ⟨zs, Nat.le_succ _, owns_after HV.out hb1⟩, hb1⟩
        · have t2 : (f k == x) = false := by rw [beq_eq_false_iff_ne]; exact he
          have hck : ¬ cap = k := by omega
          have FK := Lib.hid (show f k = f k from rfl)
          obtain ⟨fk, hfk⟩ : ∃ y, y = f k := ⟨_, rfl⟩
          rw [← hfk] at c0 t1 t2 hx he
          clear hfk he FK
          have hal : Below wr.heap.size wr (wr.alloc (.cells #[] 3)) := (Below.refl _ _).alloc (Nat.le_refl _) _
          have HO := Lib.hid (row_new wr)
          have S0 := Lib.hid (row_src (k := 0) (n := k) HW.out hcap (by omega))
          have S1 := Lib.hid (row_src (k := k) (n := zs.length - k) HW.out hcap (by omega))
          have zb := hb1.size
          go_wp2_with (first
            | (refine wpList_append_ints rfl (.tmp 34) (.tmp 37) rfl wr.heap.size 0 _ 0 [] rfl HO.out _ ((List.range k).map fun i => f (0 + i)) rfl ?_ (by simp; omega) (by simp) ?_; (exact S0.out.keep (Carries.of 0 hal)); intro v1 W1 ho1 hg1; simp only [Nat.zero_add, List.length_map, List.length_range, List.nil_append] at ho1; obtain ⟨a1, c1, rfl⟩ := owns_form ho1; have HB1 := Lib.hid (hal.grown hg1 (by simp) (fun q hq => by cases hq; exact Nat.le_refl _)); have HO1 := Lib.hid ho1; clear ho1 hg1)
            | (refine wpList_append_ints rfl (.tmp 39) (.tmp 41) rfl wr.heap.size 0 _ _ _ rfl (World.ownsRow.alloc HO1.out _) _ [x] rfl (ints_one _ _ _) (by simp; omega) (by have := HB1.out.size; simp; omega) ?_; intro v2 W2 ho2 hg2; simp only [List.length_cons, List.length_nil, Nat.zero_add] at ho2; obtain ⟨a2, c2, rfl⟩ := owns_form ho2; have HB2 := Lib.hid ((HB1.out.alloc HB1.out.size _).grown hg2 (by have := HB1.out.size; simp; omega) (fun q hq => (HO1.out.lt q hq).1)); have HO2 := Lib.hid ho2; clear ho2 hg2)
            | (refine wpList_append_ints rfl (.tmp 43) (.tmp 46) rfl wr.heap.size 0 _ _ _ rfl HO2.out _ ((List.range (zs.length - k)).map fun i => f (k + i)) rfl ?_ (by simp; omega) (by have := HB2.out.size; omega) ?_; (first | exact S1.out.keep (Carries.of 0 HB2.out) | exact ⟨_, _, by simp; omega, by simp, Or.inl (by simp; omega)⟩); intro v3 W3 ho3 hg3; have HB3 := Lib.hid (HB2.out.grown hg3 HB2.out.size (fun q hq => (HO2.out.lt q hq).1)); have HO3 := Lib.hid ho3; clear ho3 hg3))
          go_ret
          refine ⟨_, rfl, ⟨((List.range k).map fun i => f (0 + i)) ++ [x] ++ ((List.range (zs.length - k)).map fun i => f (k + i)), by simp; omega, ?_⟩, hb1.trans (HB3.out.mono hb1.size)⟩
          have h := Go.Joins.ownsRow_le HO3.out (show B ≤ wr.heap.size by omega)
          simpa [IRow, intCells, Nat.add_assoc, Nat.add_comm, Nat.add_left_comm] using h
    · have hkk : k = zs.length := by omega
      subst hkk
      by_cases hck : cap = zs.length
      · subst hck
        have hal : Below wr.heap.size wr (wr.alloc (.cells #[] 3)) := (Below.refl _ _).alloc (Nat.le_refl _) _
        have HO := Lib.hid (row_new wr)
        have S0 := Lib.hid (row_src (k := 0) (n := zs.length) HW.out hcap (by omega))
        have zb := hb1.size
        go_wp2_with (first
          | (refine wpList_append_ints rfl (.tmp 34) (.tmp 37) rfl wr.heap.size 0 _ 0 [] rfl HO.out _ ((List.range zs.length).map fun i => f (0 + i)) rfl ?_ (by simp; omega) (by simp) ?_; (exact S0.out.keep (Carries.of 0 hal)); intro v1 W1 ho1 hg1; simp only [Nat.zero_add, List.length_map, List.length_range, List.nil_append] at ho1; obtain ⟨a1, c1, rfl⟩ := owns_form ho1; have HB1 := Lib.hid (hal.grown hg1 (by simp) (fun q hq => by cases hq; exact Nat.le_refl _)); have HO1 := Lib.hid ho1; clear ho1 hg1)
          | (refine wpList_append_ints rfl (.tmp 39) (.tmp 41) rfl wr.heap.size 0 _ _ _ rfl (World.ownsRow.alloc HO1.out _) _ [x] rfl (ints_one _ _ _) (by simp; omega) (by have := HB1.out.size; simp; omega) ?_; intro v2 W2 ho2 hg2; simp only [List.length_cons, List.length_nil, Nat.zero_add] at ho2; obtain ⟨a2, c2, rfl⟩ := owns_form ho2; have HB2 := Lib.hid ((HB1.out.alloc HB1.out.size _).grown hg2 (by have := HB1.out.size; simp; omega) (fun q hq => (HO1.out.lt q hq).1)); have HO2 := Lib.hid ho2; clear ho2 hg2)
          | (refine wpList_append_ints rfl (.tmp 43) (.tmp 46) rfl wr.heap.size 0 _ _ _ rfl HO2.out _ [] rfl ?_ (by simp; omega) (by have := HB2.out.size; omega) ?_; exact ⟨_, _, rfl, Nat.zero_le _, Or.inl rfl⟩; intro v3 W3 ho3 hg3; have HB3 := Lib.hid (HB2.out.grown hg3 HB2.out.size (fun q hq => (HO2.out.lt q hq).1)); have HO3 := Lib.hid ho3; clear ho3 hg3))
        go_ret
        refine ⟨_, rfl, ⟨((List.range zs.length).map fun i => f (0 + i)) ++ [x], by simp, ?_⟩, hb1.trans (HB3.out.mono hb1.size)⟩
        have h := Go.Joins.ownsRow_le HO3.out (show B ≤ wr.heap.size by omega)
        simpa [IRow, intCells, Nat.add_assoc, Nat.add_comm, Nat.add_left_comm] using h
      · skip
        have hal : Below wr.heap.size wr (wr.alloc (.cells #[] 3)) := (Below.refl _ _).alloc (Nat.le_refl _) _
        have HO := Lib.hid (row_new wr)
        have S0 := Lib.hid (row_src (k := 0) (n := zs.length) HW.out hcap (by omega))
        have zb := hb1.size
        go_wp2_with (first
          | (refine wpList_append_ints rfl (.tmp 34) (.tmp 37) rfl wr.heap.size 0 _ 0 [] rfl HO.out _ ((List.range zs.length).map fun i => f (0 + i)) rfl ?_ (by simp; omega) (by simp) ?_; (exact S0.out.keep (Carries.of 0 hal)); intro v1 W1 ho1 hg1; simp only [Nat.zero_add, List.length_map, List.length_range, List.nil_append] at ho1; obtain ⟨a1, c1, rfl⟩ := owns_form ho1; have HB1 := Lib.hid (hal.grown hg1 (by simp) (fun q hq => by cases hq; exact Nat.le_refl _)); have HO1 := Lib.hid ho1; clear ho1 hg1)
          | (refine wpList_append_ints rfl (.tmp 39) (.tmp 41) rfl wr.heap.size 0 _ _ _ rfl (World.ownsRow.alloc HO1.out _) _ [x] rfl (ints_one _ _ _) (by simp; omega) (by have := HB1.out.size; simp; omega) ?_; intro v2 W2 ho2 hg2; simp only [List.length_cons, List.length_nil, Nat.zero_add] at ho2; obtain ⟨a2, c2, rfl⟩ := owns_form ho2; have HB2 := Lib.hid ((HB1.out.alloc HB1.out.size _).grown hg2 (by have := HB1.out.size; simp; omega) (fun q hq => (HO1.out.lt q hq).1)); have HO2 := Lib.hid ho2; clear ho2 hg2)
          | (refine wpList_append_ints rfl (.tmp 43) (.tmp 46) rfl wr.heap.size 0 _ _ _ rfl HO2.out _ [] rfl ?_ (by simp; omega) (by have := HB2.out.size; omega) ?_; exact ⟨_, _, rfl, Nat.zero_le _, Or.inl rfl⟩; intro v3 W3 ho3 hg3; have HB3 := Lib.hid (HB2.out.grown hg3 HB2.out.size (fun q hq => (HO2.out.lt q hq).1)); have HO3 := Lib.hid ho3; clear ho3 hg3))
        go_ret
        refine ⟨_, rfl, ⟨((List.range zs.length).map fun i => f (0 + i)) ++ [x], by simp, ?_⟩, hb1.trans (HB3.out.mono hb1.size)⟩
        have h := Go.Joins.ownsRow_le HO3.out (show B ≤ wr.heap.size by omega)
        simpa [IRow, intCells, Nat.add_assoc, Nat.add_comm, Nat.add_left_comm] using h

end Go.Proofs.Ytkkfglolameogaa

namespace Go.Proofs.Ytkkfglolameogaa
open Go.RowKit

/-- the block holds cells of this type -/
def TyAt (w : World) (g : Nat) (t : TypeId) : Prop := ∃ cur f, w.heap[g]? = some (.cells cur t f)
theorem TyAt.lt {w : World} {g : Nat} {t : TypeId} (h : TyAt w g t) : g < w.heap.size := by
  obtain ⟨_, _, h⟩ := h
  exact (Array.getElem?_eq_some_iff.1 h).1
theorem TyAt.keep {w w' : World} {g : Nat} {t : TypeId} (h : TyAt w g t) (hb : Below w.heap.size w w') : TyAt w' g t := by
  have hl := h.lt
  obtain ⟨c, f, h⟩ := h
  exact ⟨c, f, (hb.block g hl).trans h⟩
theorem TyAt.grown {w w' : World} {g : Nat} {t : TypeId} {row : Option Nat} (h : TyAt w g t) (hg : w.grownBy w' row) (hne : some g ≠ row) : TyAt w' g t := by
  have hl := h.lt
  obtain ⟨c, f, h⟩ := h
  exact ⟨c, f, (hg.block g hl hne).trans h⟩
theorem TyAt.set {w : World} {g : Nat} {t : TypeId} (h : TyAt w g t) (p : Addr) (u : Value) : TyAt (w.setCell p u) g t := by
  obtain ⟨c, f, h⟩ := h
  by_cases e : g = p.block
  · subst e
    exact ⟨_, _, by simp [World.setCell, Array.getElem?_modify, h]; exact ⟨rfl, rfl⟩⟩
  · exact ⟨c, f, (Below.heap_setCell _ _ _ _ e).trans h⟩
theorem TyAt.new (w : World) (c : Array Value) (t : TypeId) : TyAt (w.alloc (.cells c t)) w.heap.size t := ⟨c, _, heap_alloc_new w _⟩
theorem owns_ne {B : Nat} {w : World} {e t : TypeId} {size n g : Nat} {v : Value} {xs : List Value} (h : w.ownsRow B e size v n xs) (hT : TyAt w g t) (hne : e ≠ t) : some g ≠ v.ownBlock := by
  obtain ⟨c, f, hT⟩ := hT
  rcases h.2 with ⟨rfl, _⟩ | ⟨g', cap, cur, rfl, _, hg, _⟩
  · simp [Value.ownBlock]
  · intro e'
    simp only [Value.ownBlock, Option.some.injEq] at e'
    subst e'
    rw [hT] at hg
    simp at hg
    exact hne hg.2.1.symm
theorem owns_setT {B : Nat} {w : World} {e t : TypeId} {size n : Nat} {v : Value} {xs : List Value} (h : w.ownsRow B e size v n xs) {p : Addr} (hT : TyAt w p.block t) (hne : e ≠ t) (u : Value) : (w.setCell p u).ownsRow B e size v n xs :=
  h.kept (grownBy_set w p u) (Or.inr (fun e' => owns_ne h hT hne e'.symm))
theorem OwnTrs.setT {B : Nat} {w : World} {t : TypeId} {xs : List Value} {k : Nat} {ts : List Tr} (h : OwnTrs B w xs k ts) {p : Addr} (hT : TyAt w p.block t) (hne : 3 ≠ t) (u : Value) : OwnTrs B (w.setCell p u) xs k ts := by
  refine ⟨h.1, fun i hi => ?_⟩
  obtain ⟨v0, v1, e0, e1, h0, h1⟩ := h.2 i hi
  exact ⟨v0, v1, e0, e1, owns_setT h0 hT hne u, owns_setT h1 hT hne u⟩
theorem OwnTrs.low {B B' : Nat} {w : World} {xs : List Value} {k : Nat} {ts : List Tr} (h : OwnTrs B w xs k ts) (hB : B' ≤ B) : OwnTrs B' w xs k ts := by
  refine ⟨h.1, fun i hi => ?_⟩
  obtain ⟨v0, v1, e0, e1, h0, h1⟩ := h.2 i hi
  exact ⟨v0, v1, e0, e1, h0.low hB, h1.low hB⟩
theorem OwnTrs.congr {B : Nat} {w : World} {xs : List Value} {k : Nat} {ts us : List Tr} (h : OwnTrs B w xs k ts) (he : ∀ i, i < k → us.getD i ([], []) = ts.getD i ([], [])) : OwnTrs B w xs k us := by
  refine ⟨h.1, fun i hi => ?_⟩
  rw [he i hi]
  exact h.2 i hi

/-- a call returns a net of its own -/
def RetOwnN (w : World) (n : NetD) (e : Ending) (w' : World) : Prop :=
  ∃ u xs, e = .returned (.agg #[.int .i64 n.places, u]) ∧ w'.ownsRow w.heap.size 64 2 u n.ts.length xs ∧ OwnTrs w.heap.size w' xs n.ts.length n.ts ∧ Below w.heap.size w w'

end Go.Proofs.Ytkkfglolameogaa
