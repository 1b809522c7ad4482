/- WALK: l1Put of the model, with its exact answer (written by gen7/glpt.py out of XPut).
   WALK: l7Places of the model. -/
import Derived.Test.YtigkgfdnnfmmmaaGreatVTrn
import Derived.Test.YtigkgfdnnfmmmaaGreatVOwnt
import Derived.Test.YtigkgfdnnfmmmaaGreatVInts
namespace Go.Proofs.YtigkgfdnnfmmmaaGreat
open Go.RowKit

theorem row_new (w : World) : (w.alloc (.cells #[] 3)).ownsRow w.heap.size 3 1 (.slice (some ⟨w.heap.size, 0, none⟩) 0 0) 0 [] :=
  ⟨rfl, Or.inr ⟨w.heap.size, 0, #[], rfl, Nat.le_refl _, heap_alloc_new w _, Nat.le_refl _, Nat.zero_le _, rfl, rfl⟩⟩
theorem row_src {w : World} {g len cap : Nat} {f : Nat → Int} (h : ∀ i, i < len → w.cell? ⟨g, i, none⟩ = some (.int .i64 (f i))) (hc : len ≤ cap) {k n : Nat} (hk : k + n ≤ len) :
    IntsAt 0 w (.slice (some ⟨g, k, none⟩) n (cap - k)) ((List.range n).map fun i => f (k + i)) := by
  refine ⟨_, cap - k, by simp, by simp; omega, Or.inr ⟨g, k, rfl, Nat.zero_le _, fun i hi => ?_⟩⟩
  simp at hi
  rw [h (k + i) (by omega)]
  simp [List.getD, hi]

theorem putL_split {x : Int} : ∀ (zs : List Int) (k : Nat), k ≤ zs.length → (∀ j, j < k → zs.getD j 0 < x) → putL zs x = zs.take k ++ putL (zs.drop k) x
  | zs, 0, _, _ => rfl
  | [], k + 1, h, _ => absurd h (by simp)
  | y :: zs, k + 1, h, hl => by
    have h0 : y < x := hl 0 (by omega)
    have ih := putL_split (x := x) zs k (by simpa using h) (fun j hj => by have := hl (j + 1) (by omega); simpa [List.getD] using this)
    show (if y < x then y :: putL zs x else _) = y :: (zs.take k ++ putL (zs.drop k) x)
    rw [if_pos h0, ih]
theorem take_map {zs : List Int} {k : Nat} (hk : k ≤ zs.length) : zs.take k = (List.range k).map fun i => zs.getD (0 + i) 0 := by
  apply List.ext_getElem
  · simp; omega
  · intro i h1 h2
    have : i < zs.length := by simp at h1; omega
    simp [List.getD, this]
theorem drop_map {zs : List Int} {k : Nat} : zs.drop k = (List.range (zs.length - k)).map fun i => zs.getD (k + i) 0 := by
  apply List.ext_getElem
  · simp
  · intro i h1 h2
    have : k + i < zs.length := by simp at h1; omega
    simp [List.getD, this]
theorem drop_head {zs : List Int} {k : Nat} (hk : k < zs.length) : zs.drop k = zs.getD k 0 :: zs.drop (k + 1) := by
  rw [List.drop_eq_getElem_cons hk]
  simp [List.getD, hk]
theorem put_eq {zs : List Int} {x : Int} {k : Nat} (hk : k < zs.length) (hl : ∀ j, j < k → zs.getD j 0 < x) (he : zs.getD k 0 = x) : putL zs x = zs := by
  rw [putL_split zs k (Nat.le_of_lt hk) hl, drop_head hk, he]
  unfold putL
  rw [if_neg (Int.lt_irrefl x), if_pos rfl, ← he, ← drop_head hk, List.take_append_drop]
theorem put_mid {zs : List Int} {x : Int} {k : Nat} (hk : k < zs.length) (hl : ∀ j, j < k → zs.getD j 0 < x) (h1 : ¬ zs.getD k 0 < x) (h2 : ¬ zs.getD k 0 = x) : putL zs x = ((List.range k).map fun i => zs.getD (0 + i) 0) ++ [x] ++ ((List.range (zs.length - k)).map fun i => zs.getD (k + i) 0) := by
  rw [putL_split zs k (Nat.le_of_lt hk) hl, ← take_map (Nat.le_of_lt hk), ← drop_map, drop_head hk]
  unfold putL
  rw [if_neg h1, if_neg h2]
  simp
theorem put_end {zs : List Int} {x : Int} (hl : ∀ j, j < zs.length → zs.getD j 0 < x) : putL zs x = ((List.range zs.length).map fun i => zs.getD (0 + i) 0) ++ [x] := by
  rw [putL_split zs zs.length (Nat.le_refl _) hl, ← take_map (Nat.le_refl _), List.drop_length]
  rfl

set_option maxRecDepth 100000 in
set_option maxHeartbeats 4000000 in
theorem l1Put_any (v : Value) (zs : List Int) (x : Int) (w : World) (B : Nat) (hv : IRow B w v zs) (hB : B ≤ w.heap.size) (hn : zs.length ≤ 1048576) :
    Calls Tryz.prog 83 #[v, .int .i64 x] w (fun e w' => ∃ v', e = .returned v' ∧ IRow B w' v' (putL zs x) ∧ Below w.heap.size w w') := by
  have HV := Lib.hid hv
  rcases hv.2 with ⟨rfl, h0⟩ | ⟨g, cap, cur, rfl, hgb, hgg, hcap, -⟩
  · have hz : zs = [] := List.eq_nil_of_length_eq_zero h0
    subst hz
    clear hv h0
    go_enter Tryz.func83, Tryz.ntmps83
    go_wp2_with fail
    go_loopw [5] (fun i wr => i = .int .i64 0 ∧ Below w.heap.size w wr) (fun i _ => 0)
    case atStart => exact ⟨rfl, Below.refl _ _⟩
    case round =>
      obtain ⟨rfl, hb1⟩ := hrel
      have hal : Below wr.heap.size wr (wr.alloc (.cells #[] 3)) := (Below.refl _ _).alloc (Nat.le_refl _) _
      have HO := Lib.hid (row_new wr)
      have zb := hb1.size
      go_wp2_with (first
        | (refine wpList_append_ints rfl (.tmp 34) (.tmp 37) rfl wr.heap.size 0 _ 0 [] rfl HO.out _ [] rfl (ints_nil _ _) (by simp) (by simp) ?_; intro v1 W1 ho1 hg1; obtain ⟨a1, c1, rfl⟩ := owns_form ho1; have HB1 := Lib.hid (hal.grown hg1 (by simp) (fun q hq => by cases hq; exact Nat.le_refl _)); have HO1 := Lib.hid ho1; clear ho1 hg1)
        | (refine wpList_append_ints rfl (.tmp 39) (.tmp 41) rfl wr.heap.size 0 _ _ _ rfl (World.ownsRow.alloc HO1.out _) _ [x] rfl (ints_one _ _ _) (by simp) (by have := HB1.out.size; simp; omega) ?_; intro v2 W2 ho2 hg2; obtain ⟨a2, c2, rfl⟩ := owns_form ho2; have HB2 := Lib.hid ((HB1.out.alloc HB1.out.size _).grown hg2 (by have := HB1.out.size; simp; omega) (fun q hq => (HO1.out.lt q hq).1)); have HO2 := Lib.hid ho2; clear ho2 hg2)
        | (refine wpList_append_ints rfl (.tmp 43) (.tmp 46) rfl wr.heap.size 0 _ _ _ rfl HO2.out _ [] rfl (ints_nil _ _) (by simp) (by have := HB2.out.size; omega) ?_; intro v3 W3 ho3 hg3; have HB3 := Lib.hid (HB2.out.grown hg3 HB2.out.size (fun q hq => (HO2.out.lt q hq).1)); have HO3 := Lib.hid ho3; clear ho3 hg3))
      go_ret
      refine ⟨_, rfl, ?_, hb1.trans (HB3.out.mono hb1.size)⟩
      show IRow B W3 _ [x]
      have h := Go.Joins.ownsRow_le HO3.out (show B ≤ wr.heap.size by omega)
      simpa [IRow, intCells] using h
  have hf : ∃ f : Nat → Int, f = fun i => zs.getD i 0 := ⟨_, rfl⟩
  obtain ⟨f, hf⟩ := hf
  have hcell : ∀ i, i < zs.length → w.cell? ⟨g, i, none⟩ = some (.int .i64 (f i)) := fun i hi => by rw [hf]; exact (hv.cellAt i (by omega)).trans (intCells_get hi)
  have HL := Lib.hid hcell; clear hcell
  have HPE : Hid (∀ k, k < zs.length → (∀ j, j < k → f j < x) → f k = x → putL zs x = zs) := fun k hk h1 h2 => by subst hf; exact put_eq hk h1 h2
  have HPM : Hid (∀ k, k < zs.length → (∀ j, j < k → f j < x) → ¬ f k < x → ¬ f k = x → putL zs x = ((List.range k).map fun i => f (0 + i)) ++ [x] ++ ((List.range (zs.length - k)).map fun i => f (k + i))) := fun k hk h1 h2 h3 => by subst hf; exact put_mid hk h1 h2 h3
  have HPX : Hid ((∀ j, j < zs.length → f j < x) → putL zs x = ((List.range zs.length).map fun i => f (0 + i)) ++ [x]) := fun h1 => by subst hf; exact put_end h1
  clear hf hv hgg cur
  go_enter Tryz.func83, Tryz.ntmps83
  go_wp2_with fail
  go_loopw [5] (fun i wr => ∃ k : Nat, k ≤ zs.length ∧ i = .int .i64 k ∧ Hid (∀ j, j < k → f j < x) ∧ Below w.heap.size w wr) (fun i _ => zs.length - (intOf i).toNat)
  case atStart => exact ⟨0, Nat.zero_le _, rfl, fun j hj => absurd hj (Nat.not_lt_zero _), Below.refl _ _⟩
  case round =>
    obtain ⟨k, hk, rfl, hall, hb1⟩ := hrel
    have HW := Lib.hid (fun i hi => cell_carry (HL.out i hi) (Carries.of 0 hb1))
    have i0 : (0 : Int) ≤ (k : Int) := by omega
    have i2 : (k : Int) ≤ (cap : Int) := by omega
    have i3 : (k : Int) ≤ (zs.length : Int) := by omega
    by_cases hlt : k < zs.length
    · have c0 := HW.out k hlt
      have i1 : (k : Int) < (zs.length : Int) := by omega
      by_cases hx : f k < x
      · have t1 : decide (f k < x) = true := decide_eq_true hx
        have H2 : Hid (∀ j, j < k + 1 → f j < x) := fun j hj => by
          by_cases ej : j = k
          · subst ej; exact hx
          · exact hall.out j (by omega)
        clear i2 i3
        generalize f k = fk at c0 t1 hx
        go_wp2_with fail
        go_roundw
        case rel => exact ⟨k + 1, by omega, by go_num, H2, hb1⟩
        case measure => simp [intOf]; omega
      · have t1 : decide (f k < x) = false := decide_eq_false hx
        by_cases he : f k = x
        · have t2 : (f k == x) = true := by rw [beq_iff_eq]; exact he
          have HE := Lib.hid (HPE.out k hlt hall.out he)
          clear i2 i3 he
          generalize f k = fk at c0 t1 t2 hx
          go_wp2_with fail
          go_ret
          exact ⟨_, rfl, by rw [HE.out]; exact owns_after HV.out hb1, hb1⟩
        · have t2 : (f k == x) = false := by rw [beq_eq_false_iff_ne]; exact he
          have HE := Lib.hid (HPM.out k hlt hall.out (by omega) he)
          have hck : ¬ cap = k := by omega
          have FK := Lib.hid (show f k = f k from rfl)
          obtain ⟨fk, hfk⟩ : ∃ y, y = f k := ⟨_, rfl⟩
          rw [← hfk] at c0 t1 t2 hx he
          clear hfk he FK
          have hal : Below wr.heap.size wr (wr.alloc (.cells #[] 3)) := (Below.refl _ _).alloc (Nat.le_refl _) _
          have HO := Lib.hid (row_new wr)
          have S0 := Lib.hid (row_src (k := 0) (n := k) HW.out hcap (by omega))
          have S1 := Lib.hid (row_src (k := k) (n := zs.length - k) HW.out hcap (by omega))
          have zb := hb1.size
          go_wp2_with (first
            | (refine wpList_append_ints rfl (.tmp 34) (.tmp 37) rfl wr.heap.size 0 _ 0 [] rfl HO.out _ ((List.range k).map fun i => f (0 + i)) rfl ?_ (by simp; omega) (by simp) ?_; (exact S0.out.keep (Carries.of 0 hal)); intro v1 W1 ho1 hg1; simp only [Nat.zero_add, List.length_map, List.length_range, List.nil_append] at ho1; obtain ⟨a1, c1, rfl⟩ := owns_form ho1; have HB1 := Lib.hid (hal.grown hg1 (by simp) (fun q hq => by cases hq; exact Nat.le_refl _)); have HO1 := Lib.hid ho1; clear ho1 hg1)
            | (refine wpList_append_ints rfl (.tmp 39) (.tmp 41) rfl wr.heap.size 0 _ _ _ rfl (World.ownsRow.alloc HO1.out _) _ [x] rfl (ints_one _ _ _) (by simp; omega) (by have := HB1.out.size; simp; omega) ?_; intro v2 W2 ho2 hg2; simp only [List.length_cons, List.length_nil, Nat.zero_add] at ho2; obtain ⟨a2, c2, rfl⟩ := owns_form ho2; have HB2 := Lib.hid ((HB1.out.alloc HB1.out.size _).grown hg2 (by have := HB1.out.size; simp; omega) (fun q hq => (HO1.out.lt q hq).1)); have HO2 := Lib.hid ho2; clear ho2 hg2)
            | (refine wpList_append_ints rfl (.tmp 43) (.tmp 46) rfl wr.heap.size 0 _ _ _ rfl HO2.out _ ((List.range (zs.length - k)).map fun i => f (k + i)) rfl ?_ (by simp; omega) (by have := HB2.out.size; omega) ?_; (first | exact S1.out.keep (Carries.of 0 HB2.out) | exact ⟨_, _, by simp; omega, by simp, Or.inl (by simp; omega)⟩); intro v3 W3 ho3 hg3; have HB3 := Lib.hid (HB2.out.grown hg3 HB2.out.size (fun q hq => (HO2.out.lt q hq).1)); have HO3 := Lib.hid ho3; clear ho3 hg3))
          go_ret
          refine ⟨_, rfl, ?_, hb1.trans (HB3.out.mono hb1.size)⟩
          rw [HE.out]
          have h := Go.Joins.ownsRow_le HO3.out (show B ≤ wr.heap.size by omega)
          simpa [IRow, intCells, Nat.add_assoc, Nat.add_comm, Nat.add_left_comm] using h
    · have hkk : k = zs.length := by omega
      subst hkk
      by_cases hck : cap = zs.length
      · subst hck
        have hal : Below wr.heap.size wr (wr.alloc (.cells #[] 3)) := (Below.refl _ _).alloc (Nat.le_refl _) _
        have HO := Lib.hid (row_new wr)
        have S0 := Lib.hid (row_src (k := 0) (n := zs.length) HW.out hcap (by omega))
        have zb := hb1.size
        go_wp2_with (first
          | (refine wpList_append_ints rfl (.tmp 34) (.tmp 37) rfl wr.heap.size 0 _ 0 [] rfl HO.out _ ((List.range zs.length).map fun i => f (0 + i)) rfl ?_ (by simp; omega) (by simp) ?_; (exact S0.out.keep (Carries.of 0 hal)); intro v1 W1 ho1 hg1; simp only [Nat.zero_add, List.length_map, List.length_range, List.nil_append] at ho1; obtain ⟨a1, c1, rfl⟩ := owns_form ho1; have HB1 := Lib.hid (hal.grown hg1 (by simp) (fun q hq => by cases hq; exact Nat.le_refl _)); have HO1 := Lib.hid ho1; clear ho1 hg1)
          | (refine wpList_append_ints rfl (.tmp 39) (.tmp 41) rfl wr.heap.size 0 _ _ _ rfl (World.ownsRow.alloc HO1.out _) _ [x] rfl (ints_one _ _ _) (by simp; omega) (by have := HB1.out.size; simp; omega) ?_; intro v2 W2 ho2 hg2; simp only [List.length_cons, List.length_nil, Nat.zero_add] at ho2; obtain ⟨a2, c2, rfl⟩ := owns_form ho2; have HB2 := Lib.hid ((HB1.out.alloc HB1.out.size _).grown hg2 (by have := HB1.out.size; simp; omega) (fun q hq => (HO1.out.lt q hq).1)); have HO2 := Lib.hid ho2; clear ho2 hg2)
          | (refine wpList_append_ints rfl (.tmp 43) (.tmp 46) rfl wr.heap.size 0 _ _ _ rfl HO2.out _ [] rfl ?_ (by simp; omega) (by have := HB2.out.size; omega) ?_; exact ⟨_, _, rfl, Nat.zero_le _, Or.inl rfl⟩; intro v3 W3 ho3 hg3; have HB3 := Lib.hid (HB2.out.grown hg3 HB2.out.size (fun q hq => (HO2.out.lt q hq).1)); have HO3 := Lib.hid ho3; clear ho3 hg3))
        go_ret
        refine ⟨_, rfl, ?_, hb1.trans (HB3.out.mono hb1.size)⟩
        rw [HPX.out hall.out]
        have h := Go.Joins.ownsRow_le HO3.out (show B ≤ wr.heap.size by omega)
        simpa [IRow, intCells, Nat.add_assoc, Nat.add_comm, Nat.add_left_comm] using h
      · skip
        have hal : Below wr.heap.size wr (wr.alloc (.cells #[] 3)) := (Below.refl _ _).alloc (Nat.le_refl _) _
        have HO := Lib.hid (row_new wr)
        have S0 := Lib.hid (row_src (k := 0) (n := zs.length) HW.out hcap (by omega))
        have zb := hb1.size
        go_wp2_with (first
          | (refine wpList_append_ints rfl (.tmp 34) (.tmp 37) rfl wr.heap.size 0 _ 0 [] rfl HO.out _ ((List.range zs.length).map fun i => f (0 + i)) rfl ?_ (by simp; omega) (by simp) ?_; (exact S0.out.keep (Carries.of 0 hal)); intro v1 W1 ho1 hg1; simp only [Nat.zero_add, List.length_map, List.length_range, List.nil_append] at ho1; obtain ⟨a1, c1, rfl⟩ := owns_form ho1; have HB1 := Lib.hid (hal.grown hg1 (by simp) (fun q hq => by cases hq; exact Nat.le_refl _)); have HO1 := Lib.hid ho1; clear ho1 hg1)
          | (refine wpList_append_ints rfl (.tmp 39) (.tmp 41) rfl wr.heap.size 0 _ _ _ rfl (World.ownsRow.alloc HO1.out _) _ [x] rfl (ints_one _ _ _) (by simp; omega) (by have := HB1.out.size; simp; omega) ?_; intro v2 W2 ho2 hg2; simp only [List.length_cons, List.length_nil, Nat.zero_add] at ho2; obtain ⟨a2, c2, rfl⟩ := owns_form ho2; have HB2 := Lib.hid ((HB1.out.alloc HB1.out.size _).grown hg2 (by have := HB1.out.size; simp; omega) (fun q hq => (HO1.out.lt q hq).1)); have HO2 := Lib.hid ho2; clear ho2 hg2)
          | (refine wpList_append_ints rfl (.tmp 43) (.tmp 46) rfl wr.heap.size 0 _ _ _ rfl HO2.out _ [] rfl ?_ (by simp; omega) (by have := HB2.out.size; omega) ?_; exact ⟨_, _, rfl, Nat.zero_le _, Or.inl rfl⟩; intro v3 W3 ho3 hg3; have HB3 := Lib.hid (HB2.out.grown hg3 HB2.out.size (fun q hq => (HO2.out.lt q hq).1)); have HO3 := Lib.hid ho3; clear ho3 hg3))
        go_ret
        refine ⟨_, rfl, ?_, hb1.trans (HB3.out.mono hb1.size)⟩
        rw [HPX.out hall.out]
        have h := Go.Joins.ownsRow_le HO3.out (show B ≤ wr.heap.size by omega)
        simpa [IRow, intCells, Nat.add_assoc, Nat.add_comm, Nat.add_left_comm] using h

end Go.Proofs.YtigkgfdnnfmmmaaGreat

namespace Go.Proofs.YtigkgfdnnfmmmaaGreat
open Go.RowKit

theorem puts_snoc (acc l : List Int) (x : Int) : puts acc (l ++ [x]) = putL (puts acc l) x := by simp [puts, List.foldl_append]
theorem plM_step {cs : List Cnd} {L : List Int} {k : Nat} (hk : k < L.length) : puts [] ((plL cs L).take (k + 1)) = putL (puts [] ((plL cs L).take k)) (cnP cs (L.getD k 0).toNat) := by
  have hk2 : k < (plL cs L).length := by rw [plL_length]; exact hk
  rw [List.take_succ_eq_append_getElem hk2, puts_snoc]
  congr 1
  rw [← plL_get hk]
  simp only [List.getD, List.getElem?_eq_getElem hk2, Option.getD_some]
theorem plM_len {cs : List Cnd} {L : List Int} {k : Nat} : (puts [] ((plL cs L).take k)).length ≤ k := by
  have h := puts_len ((plL cs L).take k) []
  have h2 := List.length_take_le k (plL cs L)
  simp at h
  omega

set_option maxRecDepth 100000 in
set_option maxHeartbeats 1000000 in
theorem l7Places_any (v vl : Value) (cs : List Cnd) (es : List Ev) (L : List Int) (w : World) (lo lo' : Nat) (hv : UnfAt lo w v ⟨cs, es⟩) (hvl : IntsAt lo' w vl L) (hl : L.length ≤ 1048576) (hin : ∀ k, k < L.length → 0 ≤ L.getD k 0 ∧ L.getD k 0 < (cs.length : Int)) :
    Calls Tryz.prog 57 #[v, vl] w (fun e w' => ∃ v', e = .returned v' ∧ IRow w.heap.size w' v' (plM cs L) ∧ Below w.heap.size w w') := by
  obtain ⟨G, hG⟩ : ∃ x, x = plM cs L := ⟨_, rfl⟩
  rw [← hG]
  have HG := Lib.hid hG; clear hG
  obtain ⟨a0, c0, a1, c1, rfl, hcn, hev⟩ := hv.form
  clear hv hev
  obtain ⟨ac, kc, e0, hkc, hcz⟩ := hcn
  injection e0 with e1 e2 e3
  subst e1; subst e3; clear e2
  simp only at hkc hcz ⊢
  have HC := Lib.hid hcz; clear hcz hkc
  have HIN := Lib.hid hin; clear hin
  obtain ⟨ao, cap, rfl, hxa, hxb⟩ := hvl
  have HF := Lib.hid hxb; clear hxb hxa
  obtain ⟨nc, hnc⟩ : ∃ x, x = cs.length := ⟨_, rfl⟩
  rw [← hnc] at HC HIN ⊢
  obtain ⟨ne, hne⟩ : ∃ x, x = es.length := ⟨_, rfl⟩
  rw [← hne]
  clear hnc hne
  go_enter Tryz.func57, Tryz.ntmps57
  have hW : Below w.heap.size w (w.alloc (.cells #[.slice a0 nc c0, .slice a1 ne c1] 38)) := (Below.refl _ _).alloc (Nat.le_refl _) _
  have x0 : (w.alloc (.cells #[.slice a0 nc c0, .slice a1 ne c1] 38)).cell? ⟨w.heap.size, 0, none⟩ = some (.slice a0 nc c0) := by simp
  have zW : w.heap.size < (w.alloc (.cells #[.slice a0 nc c0, .slice a1 ne c1] 38)).heap.size := by simp
  go_wp2_with fail
  generalize w.alloc (.cells #[.slice a0 nc c0, .slice a1 ne c1] 38) = W at hW x0 zW ⊢
  go_loopw [5, 10] (fun o i wr => ∃ k : Nat, k ≤ L.length ∧ i = .int .i64 k ∧ Hid (IRow w.heap.size wr o (puts [] ((plL cs L).take k))) ∧ Below W.heap.size W wr) (fun _ i _ => L.length - (intOf i).toNat)
  case atStart => exact ⟨0, Nat.zero_le _, rfl, World.ownsRow_nil _ _ _ _, Below.refl _ _⟩
  case round =>
    obtain ⟨k, hk, rfl, hrow, hb1⟩ := hrel
    have hw1 : Below w.heap.size w wr := hW.trans (hb1.mono hW.size)
    have x0 := cell_keep x0 hb1 (Nat.le_refl _)
    by_cases hlt : k < L.length
    · rcases HF.out with h0 | ⟨b, off, rfl, hlo, hcell⟩
      · exact absurd hlt (by rw [h0]; exact Nat.not_lt_zero _)
      have q0 := hcell k hlt
      have d0 := Carries.of lo' hw1 _ _ hlo q0
      clear hcell q0
      have hin := HIN.out k hlt
      have HST := Lib.hid (plM_step (cs := cs) hlt)
      have hlen := plM_len (cs := cs) (L := L) (k := k)
      generalize L.getD k 0 = c at d0 hin HST
      obtain ⟨cn, rfl⟩ := Int.eq_ofNat_of_zero_le hin.1
      rw [Int.toNat_natCast] at HST
      have i1 := hin.1
      have i2 := hin.2
      have hcn : cn < nc := by omega
      clear hin
      rcases HC.out with h0 | ⟨b2, off2, rfl, hlo2, hcell2⟩
      · exact absurd hcn (by rw [h0]; exact Nat.not_lt_zero _)
      obtain ⟨q0, q1⟩ := hcell2 cn hcn
      have g0 := Carries.of lo hw1 _ _ hlo2 q0
      clear hcell2 q0 q1
      try dsimp only at g0
      generalize cnP cs cn = p at g0 HST
      go_wp2_with fail
      refine (l1Put_any _ (puts [] ((plL cs L).take k)) p wr w.heap.size hrow.out hw1.size (by omega)).mono ?_
      rintro e w2 ⟨v2, rfl, hr2, hb2⟩
      have HR2 : Hid (IRow w.heap.size w2 v2 (puts [] ((plL cs L).take (k + 1)))) := by unfold Hid; rw [HST.out]; exact hr2
      have hb3 : Below W.heap.size W w2 := hb1.trans (hb2.mono hb1.size)
      clear hr2 hb2
      go_wp2_with fail
      go_roundw
      case rel => exact ⟨k + 1, by omega, by go_num, HR2, hb3⟩
      case measure => simp [intOf]; omega
    · have hkk : k = L.length := by omega
      subst hkk
      have hr := hrow.out
      rw [List.take_of_length_le (by rw [plL_length]; exact Nat.le_refl _)] at hr
      have HR : Hid (IRow w.heap.size wr u5 G) := by unfold Hid; rw [HG.out]; exact hr
      clear hr hrow
      go_wp2_with fail
      go_ret
      exact ⟨_, rfl, HR.out, hw1⟩

end Go.Proofs.YtigkgfdnnfmmmaaGreat
