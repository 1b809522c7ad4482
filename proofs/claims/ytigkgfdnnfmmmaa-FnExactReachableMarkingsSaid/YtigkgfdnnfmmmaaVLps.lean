/- WALKS: l1OwnS, l9PutS of the model: a text put into a sorted list. -/
import Derived.Test.YtigkgfdnnfmmmaaVStgv
import Derived.Laws.AppendOwnNone
import Derived.Test.YtigkgfdnnfmmmaaVSteps
namespace Go.Proofs.Ytigkgfdnnfmmmaa
open Go.RowKit

theorem txCells_one (zs : List ByteArray) : ∀ u ∈ txCells zs, u.oneCell' = true := by
  intro u hu
  obtain ⟨z, _, rfl⟩ := List.mem_map.1 hu
  rfl
theorem run_append_txs (w : World) (ty : TypeId) (base lo : Nat) (v : Value) (ls : List ByteArray) (hown : SRow base w v ls) (src : Value) (zs : List ByteArray) (hsrc : TextsAt lo w src zs)
    (hlen : ls.length + zs.length ≤ 1073741824) (hbase : base ≤ w.heap.size) :
    ∃ v' w', (Builtin.append_ #[30, 30] ty #[v, src]).run Try.prog w = .ok v' w' ∧ SRow base w' v' (ls ++ zs) ∧ w.grownBy w' v.ownBlock := by
  obtain ⟨i, hi, hzz⟩ := Option.map_eq_some_iff.1 Try.infoStr
  simp only [Prod.mk.injEq] at hzz
  obtain ⟨hz, hs, hby⟩ := hzz
  obtain ⟨ao, cap, rfl, hc, hcase⟩ := hsrc
  unfold SRow at hown ⊢
  rcases hcase with h0 | ⟨b, off, rfl, _, hcell⟩
  · have hzn : zs = [] := List.eq_nil_of_length_eq_zero h0
    subst hzn
    have hrun : (Builtin.append_ #[30, 30] ty #[v, .slice ao 0 cap]).run Try.prog w = .ok v w := by
      rcases hown.2 with ⟨rfl, hn⟩ | ⟨g, cap', cur, rfl, _, _, hnc, _⟩
      · cases ao <;> simp [Builtin.append_, run_underlying Try.underlying30, sizeOf, typeInfo, hi, Builtin.lenOf, Builtin.firstCells, loadCells, loadCellsFrom]
      · cases ao <;> simp [Builtin.append_, run_underlying Try.underlying30, sizeOf, typeInfo, hi, Builtin.lenOf, Builtin.firstCells, hnc, storeCells, loadCells, loadCellsFrom]
    exact ⟨v, w, hrun, by simpa using hown, ⟨rfl, rfl, rfl, Nat.le_refl _, fun _ _ _ => rfl⟩⟩
  · obtain ⟨v', w', hr, h2, h3, _⟩ := run_append_own (P := Try.prog) w base 30 ty 9 i _ 1 16 Try.underlying30 hi hz hs hby rfl (by omega) v _ _ hown ⟨b, off, none⟩ zs.length cap (txCells zs)
      (by rw [txCells_length, Nat.mul_one]) (fun j u hj => by
        have hjl : j < zs.length := by rw [← txCells_length]; exact (List.getElem?_eq_some_iff.1 hj).1
        rw [txCells_get hjl] at hj
        rw [Addr.add_mid, hcell j hjl]
        exact hj) (txCells_one zs) (by unfold maxLen; omega) (by omega) hbase
    exact ⟨v', w', hr, by rw [txCells_append, List.length_append]; exact h2, h3⟩
theorem wpList_append_txs {ops : Array Oper} {rest : List Oper} {o : Oper} {a : Act} {w : World} {Q : Exit → Act → World → Prop} (hgd : o.guard = none) (s x : Operand)
    (ho : o.op = .call { callee := .builtin .append, args := #[s, x], argTypes := #[30, 30] })
    (base lo : Nat) (v : Value) (ls : List ByteArray) (hs : a.eval s = v) (hown : SRow base w v ls) (src : Value) (zs : List ByteArray) (hx : a.eval x = src) (hsrc : TextsAt lo w src zs)
    (hlen : ls.length + zs.length ≤ 1073741824) (hbase : base ≤ w.heap.size)
    (h : ∀ v' w', SRow base w' v' (ls ++ zs) → w.grownBy w' v.ownBlock → wpList Try.prog ops Q rest (a.put o.dst v') w') : wpList Try.prog ops Q (o :: rest) a w :=
  wpList_plain hgd fun _ hK => by
    obtain ⟨v', w', hr, h2, h3⟩ := run_append_txs w o.type base lo v ls hown src zs hsrc hlen hbase
    unfold Oper.wp execOp
    simp only [ho, resolve, invoke, builtin, Sem.run_bind, Sem.run_pure, Result.andThen_ok, List.map_toArray, List.map_cons, List.map_nil, hs, hx, hr]
    exact hK _ _ (h v' w' h2 h3)
theorem srow_new (w : World) : SRow w.heap.size (w.alloc (.cells #[] 9)) (.slice (some ⟨w.heap.size, 0, none⟩) 0 0) [] :=
  ⟨rfl, Or.inr ⟨w.heap.size, 0, #[], rfl, Nat.le_refl _, heap_alloc_new w _, Nat.le_refl _, Nat.zero_le _, rfl, rfl⟩⟩

/-- a call returns a row of texts that it owns -/
def RetTo (w : World) (zs : List ByteArray) (e : Ending) (w' : World) : Prop := ∃ v, e = .returned v ∧ SRow w.heap.size w' v zs ∧ Below w.heap.size w w'

set_option maxRecDepth 100000 in
set_option maxHeartbeats 400000 in
theorem l1OwnS_any (v : Value) (zs : List ByteArray) (w : World) (lo : Nat) (hv : TextsAt lo w v zs) (hn : zs.length ≤ 4194304) :
    Calls Try.prog 104 #[v] w (RetTo w zs) := by
  have hv' := hv
  obtain ⟨ao, cap, rfl, _, _⟩ := hv'
  have HV := Lib.hid hv; clear hv
  go_enter Try.func104, Try.ntmps104
  have HO := Lib.hid (srow_new w)
  have hsrc := Lib.hid (HV.out.keep (Carries.alloc (Carries.refl lo w) (.cells #[] 9)))
  go_wp2_with (refine wpList_append_txs rfl (.tmp 3) (.tmp 4) rfl w.heap.size lo _ [] rfl HO.out _ zs rfl hsrc.out (by simp; omega) (by simp) ?_; intro v' w' hown' hgrow)
  go_ret
  refine ⟨_, rfl, ?_, ?_⟩
  · simpa using hown'
  · exact ((Below.refl _ _).alloc (Nat.le_refl _) _).grown hgrow (by simp) (fun k hk => by cases hk; exact Nat.le_refl _)

/-! putting, as data -/
def tLt (a b : ByteArray) : Bool := Op.bytesLess a.toList b.toList
def putS : List ByteArray → ByteArray → List ByteArray
  | [], x => [x]
  | y :: ys, x => if tLt y x = true then y :: putS ys x else if y = x then y :: ys else x :: y :: ys
theorem putS_length : ∀ (zs : List ByteArray) (x : ByteArray), (putS zs x).length ≤ zs.length + 1
  | [], x => by simp [putS]
  | y :: ys, x => by
    have := putS_length ys x
    unfold putS
    split
    · simp; omega
    · split <;> simp
theorem putS_split {x : ByteArray} : ∀ (zs : List ByteArray) (k : Nat), k ≤ zs.length → (∀ j, j < k → tLt (stN zs j) x = true) → putS zs x = zs.take k ++ putS (zs.drop k) x
  | zs, 0, _, _ => rfl
  | [], k + 1, h, _ => absurd h (by simp)
  | y :: zs, k + 1, h, hl => by
    have h0 : tLt y x = true := hl 0 (by omega)
    have ih := putS_split (x := x) zs k (by simpa using h) (fun j hj => by have := hl (j + 1) (by omega); simpa [stN, List.getD] using this)
    show (if tLt y x = true then y :: putS zs x else _) = y :: (zs.take k ++ putS (zs.drop k) x)
    rw [if_pos h0, ih]
theorem drop_headS {zs : List ByteArray} {k : Nat} (hk : k < zs.length) : zs.drop k = stN zs k :: zs.drop (k + 1) := by
  rw [List.drop_eq_getElem_cons hk]
  simp [stN, List.getD, hk]
theorem putS_eq {zs : List ByteArray} {x : ByteArray} {k : Nat} (hk : k < zs.length) (hl : ∀ j, j < k → tLt (stN zs j) x = true) (hn : tLt (stN zs k) x = false) (he : stN zs k = x) : putS zs x = zs := by
  rw [putS_split zs k (Nat.le_of_lt hk) hl, drop_headS hk]
  unfold putS
  rw [if_neg (by rw [hn]; simp), if_pos he, ← drop_headS hk, List.take_append_drop]
theorem putS_mid {zs : List ByteArray} {x : ByteArray} {k : Nat} (hk : k < zs.length) (hl : ∀ j, j < k → tLt (stN zs j) x = true) (h1 : tLt (stN zs k) x = false) (h2 : ¬ stN zs k = x) : putS zs x = zs.take k ++ [x] ++ zs.drop k := by
  rw [putS_split zs k (Nat.le_of_lt hk) hl, drop_headS hk]
  unfold putS
  rw [if_neg (by rw [h1]; simp), if_neg h2]
  simp
theorem putS_end {zs : List ByteArray} {x : ByteArray} (hl : ∀ j, j < zs.length → tLt (stN zs j) x = true) : putS zs x = zs.take zs.length ++ [x] ++ zs.drop zs.length := by
  rw [putS_split zs zs.length (Nat.le_refl _) hl, List.drop_length]
  simp [putS]
theorem src_take {w : World} {g k cap : Nat} {zs : List ByteArray} (h : ∀ i, i < zs.length → w.cell? ⟨g, i, none⟩ = some (.string (stN zs i))) (hk : k ≤ zs.length) (hc : k ≤ cap) : TextsAt 0 w (.slice (some ⟨g, 0, none⟩) k cap) (zs.take k) := by
  refine ⟨_, cap, by simp; omega, by simp; omega, Or.inr ⟨g, 0, rfl, Nat.zero_le _, fun i hi => ?_⟩⟩
  simp at hi
  have hik : i < k := by omega
  rw [Nat.zero_add, h i (by omega)]
  simp [stN, List.getD, List.getElem?_take, hik]
theorem src_drop {w : World} {g k cap : Nat} {zs : List ByteArray} (h : ∀ i, i < zs.length → w.cell? ⟨g, i, none⟩ = some (.string (stN zs i))) (hk : k ≤ zs.length) (hc : zs.length ≤ cap) : TextsAt 0 w (.slice (some ⟨g, k, none⟩) (zs.length - k) (cap - k)) (zs.drop k) := by
  refine ⟨_, cap - k, by simp, by simp; omega, Or.inr ⟨g, k, rfl, Nat.zero_le _, fun i hi => ?_⟩⟩
  simp at hi
  rw [h (k + i) (by omega)]
  simp [stN, List.getD, List.getElem?_drop]

theorem srow_base {w : World} {B : Nat} {v : Value} {l : List ByteArray} (h : SRow B w v l) : ∀ b, v.ownBlock = some b → B ≤ b := by
  intro b hv
  rcases h.2 with ⟨rfl, _⟩ | ⟨g, cap, cur, rfl, hb, _⟩
  · simp [Value.ownBlock] at hv
  · simp only [Value.ownBlock, Option.some.injEq] at hv
    subst hv
    exact hb

set_option maxRecDepth 100000 in
set_option maxHeartbeats 4000000 in
theorem l9PutS_any (v : Value) (zs : List ByteArray) (x : ByteArray) (w : World) (B : Nat) (hv : SRow B w v zs) (hB : B ≤ w.heap.size) (hn : zs.length ≤ 1048576) :
    Calls Try.prog 66 #[v, .string x] w (fun e w' => ∃ v', e = .returned v' ∧ SRow B w' v' (putS zs x) ∧ Below w.heap.size w w') := by
  have HV := Lib.hid hv
  rcases hv.2 with ⟨rfl, h0⟩ | ⟨g, cap, cur, rfl, hgb, hgg, hcap, -⟩
  · have hz : zs = [] := List.eq_nil_of_length_eq_zero h0
    subst hz
    clear hv h0
    go_enter Try.func66, Try.ntmps66
    go_wp2_with fail
    go_loopw [5] (fun i wr => i = .int .i64 0 ∧ Below w.heap.size w wr) (fun i _ => 0)
    case atStart => exact ⟨rfl, Below.refl _ _⟩
    case round =>
      obtain ⟨rfl, hbw⟩ := hrel
      have hnil : TextsAt 0 wr (.slice none 0 0) [] := ⟨none, 0, rfl, Nat.le_refl _, Or.inl rfl⟩
      obtain ⟨P, hP⟩ : ∃ q : List ByteArray, q = [] := ⟨_, rfl⟩
      obtain ⟨D, hD⟩ : ∃ q : List ByteArray, q = [] := ⟨_, rfl⟩
      have HE := Lib.hid (show putS [] x = P ++ [x] ++ D by rw [hP, hD]; rfl)
      have SP := Lib.hid hnil; have SD := Lib.hid hnil
      rw [← hP] at SP
      rw [← hD] at SD
      have hPl : P.length ≤ 1048576 := by rw [hP]; simp
      have hDl : D.length ≤ 1048576 := by rw [hD]; simp
      clear hnil hP hD
      go_wp2_with fail
      refine (l1OwnS_any _ D wr 0 SD.out (by omega)).mono ?_
      rintro e W1 ⟨v1, rfl, hr1, hb1⟩
      obtain ⟨a1, c1, rfl⟩ := hr1.form
      have HR1 := Lib.hid hr1
      obtain ⟨nD, hnD⟩ : ∃ q, q = D.length := ⟨_, rfl⟩
      rw [← hnD] at HR1 ⊢
      have HND := Lib.hid hnD
      clear hr1 hnD
      go_wp2_with fail
      refine (l1OwnS_any _ P W1 0 (SP.out.keep (Carries.of 0 hb1)) (by omega)).mono ?_
      rintro e W2 ⟨v2, rfl, hr2, hb2⟩
      obtain ⟨a2, c2, rfl⟩ := hr2.form
      have hal : Below W2.heap.size W2 (W2.alloc (.cells #[.string x] 9)) := (Below.refl _ _).alloc (Nat.le_refl _) _
      have HR2 := Lib.hid (show SRow W1.heap.size (W2.alloc (.cells #[.string x] 9)) (.slice a2 P.length c2) P from owns_after hr2 hal)
      have HBA := Lib.hid (hb2.trans (hal.mono hb2.size))
      have zA : W1.heap.size ≤ (W2.alloc (.cells #[.string x] 9)).heap.size := HBA.out.size
      obtain ⟨nP, hnP⟩ : ∃ q, q = P.length := ⟨_, rfl⟩
      rw [← hnP] at HR2 ⊢
      have hPb : P.length ≤ 1073741824 := by omega
      clear hr2 hnP hal
      go_wp2_with (first
        | (refine wpList_append_tx rfl (.tmp 41) (.tmp 43) rfl W1.heap.size (.slice a2 nP c2) P rfl HR2.out W2.heap.size x rfl (by simp) hPb zA ?_; intro g3 c3 W3 ho3 hg3; have HO3 := Lib.hid ho3; have HB3 := Lib.hid (HBA.out.grown hg3 zA (srow_base HR2.out)); have HD3 := Lib.hid (TextsAt.keep (SRow.at HR1.out) (Carries.of wr.heap.size HB3.out)); clear ho3 hg3)
        | (refine wpList_append_txs rfl (.tmp 44) (.tmp 45) rfl W1.heap.size wr.heap.size _ (P ++ [x]) rfl HO3.out _ D rfl HD3.out (by simp; omega) HB3.out.size ?_; intro v4 W4 ho4 hg4; have HO4 := Lib.hid ho4; have HB4 := Lib.hid (HB3.out.grown hg4 HB3.out.size (srow_base HO3.out)); clear ho4 hg4))
      go_ret
      refine ⟨_, rfl, ?_, hbw.trans ((hb1.trans (HB4.out.mono hb1.size)).mono hbw.size)⟩
      rw [HE.out]
      exact Go.Joins.ownsRow_le HO4.out (by have h1 := hbw.size; have h2 := hb1.size; omega)
  have hcell : ∀ i, i < zs.length → w.cell? ⟨g, i, none⟩ = some (.string (stN zs i)) := fun i hi => (hv.cellAt i (by omega)).trans (txCells_get hi)
  have HL := Lib.hid hcell; clear hcell
  have hf : ∃ f : Nat → ByteArray, f = stN zs := ⟨_, rfl⟩
  obtain ⟨f, hf⟩ := hf
  have HF := Lib.hid hf
  have HPE := Lib.hid (fun (k : Nat) (hk : k < zs.length) (hl : ∀ j, j < k → tLt (f j) x = true) (h1 : tLt (f k) x = false) (he : f k = x) => (show putS zs x = zs by rw [hf] at hl h1 he; exact putS_eq hk hl h1 he))
  have HPM := Lib.hid (fun (k : Nat) (hk : k < zs.length) (hl : ∀ j, j < k → tLt (f j) x = true) (h1 : tLt (f k) x = false) (he : ¬ f k = x) => (show putS zs x = zs.take k ++ [x] ++ zs.drop k by rw [hf] at hl h1 he; exact putS_mid hk hl h1 he))
  have HPX := Lib.hid (fun (hl : ∀ j, j < zs.length → tLt (f j) x = true) => (show putS zs x = zs.take zs.length ++ [x] ++ [] by rw [hf] at hl; have := putS_end hl; rwa [List.drop_length] at this))
  rw [← hf] at HL
  clear hf hv hgg cur
  go_enter Try.func66, Try.ntmps66
  go_wp2_with fail
  go_loopw [5] (fun i wr => ∃ k : Nat, k ≤ zs.length ∧ i = .int .i64 k ∧ Hid (∀ j, j < k → tLt (f j) x = true) ∧ Below w.heap.size w wr) (fun i _ => zs.length - (intOf i).toNat)
  case atStart => exact ⟨0, Nat.zero_le _, rfl, fun j hj => absurd hj (Nat.not_lt_zero _), Below.refl _ _⟩
  case round =>
    obtain ⟨k, hk, rfl, hall, hbw⟩ := hrel
    have HW := Lib.hid (fun i hi => cell_carry (HL.out i hi) (Carries.of 0 hbw))
    have i0 : (0 : Int) ≤ (k : Int) := by omega
    have i2 : (k : Int) ≤ (cap : Int) := by omega
    have i3 : (k : Int) ≤ (zs.length : Int) := by omega
    by_cases hlt : k < zs.length
    · have c0 := HW.out k hlt
      have i1 : (k : Int) < (zs.length : Int) := by omega
      cases hx : tLt (f k) x with
      | true =>
        have H2 : Hid (∀ j, j < k + 1 → tLt (f j) x = true) := fun j hj => by
          by_cases ej : j = k
          · subst ej; exact hx
          · exact hall.out j (by omega)
        have t1 : Op.bytesLess (f k).toList x.toList = true := hx
        clear i2 i3
        generalize f k = fk at c0 t1 hx
        go_wp2_with fail
        go_roundw
        case rel => exact ⟨k + 1, by omega, by go_num, H2, hbw⟩
        case measure => simp [intOf]; omega
      | false =>
        have t1 : Op.bytesLess (f k).toList x.toList = false := hx
        by_cases he : f k = x
        · have HE := Lib.hid (HPE.out k hlt hall.out hx he)
          have t2 : ((f k).toList == x.toList) = true := by rw [bytes_toList_beq, decide_eq_true he]
          clear i2 i3 hx he
          generalize f k = fk at c0 t1 t2
          go_wp2_with fail
          go_ret
          exact ⟨_, rfl, by rw [HE.out]; exact owns_after HV.out hbw, hbw⟩
        · have HE := Lib.hid (HPM.out k hlt hall.out hx he)
          have t2 : ((f k).toList == x.toList) = false := by rw [bytes_toList_beq, decide_eq_false he]
          have hck : ¬ cap = k := by omega
          have HW2 := Lib.hid (fun i hi => (show wr.cell? ⟨g, i, none⟩ = some (.string (stN zs i)) from by rw [← HF.out]; exact HW.out i hi))
          have SP := Lib.hid (src_take HW2.out (Nat.le_of_lt hlt) (show k ≤ cap by omega))
          have SD := Lib.hid (src_drop HW2.out (Nat.le_of_lt hlt) hcap)
          obtain ⟨P, hP⟩ : ∃ q, q = zs.take k := ⟨_, rfl⟩
          obtain ⟨D, hD⟩ : ∃ q, q = zs.drop k := ⟨_, rfl⟩
          rw [← hP] at HE SP
          rw [← hD] at HE SD
          have hPl : P.length ≤ 1048576 := by rw [hP]; simp; omega
          have hDl : D.length ≤ 1048576 := by rw [hD]; simp; omega
          clear hP hD hx HW2
          generalize f k = fk at c0 t1 t2 he
          go_wp2_with fail
          refine (l1OwnS_any _ D wr 0 SD.out (by omega)).mono ?_
          rintro e W1 ⟨v1, rfl, hr1, hb1⟩
          obtain ⟨a1, c1, rfl⟩ := hr1.form
          have HR1 := Lib.hid hr1
          obtain ⟨nD, hnD⟩ : ∃ q, q = D.length := ⟨_, rfl⟩
          rw [← hnD] at HR1 ⊢
          have HND := Lib.hid hnD
          clear hr1 hnD
          go_wp2_with fail
          refine (l1OwnS_any _ P W1 0 (SP.out.keep (Carries.of 0 hb1)) (by omega)).mono ?_
          rintro e W2 ⟨v2, rfl, hr2, hb2⟩
          obtain ⟨a2, c2, rfl⟩ := hr2.form
          have hal : Below W2.heap.size W2 (W2.alloc (.cells #[.string x] 9)) := (Below.refl _ _).alloc (Nat.le_refl _) _
          have HR2 := Lib.hid (show SRow W1.heap.size (W2.alloc (.cells #[.string x] 9)) (.slice a2 P.length c2) P from owns_after hr2 hal)
          have HBA := Lib.hid (hb2.trans (hal.mono hb2.size))
          have zA : W1.heap.size ≤ (W2.alloc (.cells #[.string x] 9)).heap.size := HBA.out.size
          obtain ⟨nP, hnP⟩ : ∃ q, q = P.length := ⟨_, rfl⟩
          rw [← hnP] at HR2 ⊢
          have hPb : P.length ≤ 1073741824 := by omega
          clear hr2 hnP hal
          go_wp2_with (first
            | (refine wpList_append_tx rfl (.tmp 41) (.tmp 43) rfl W1.heap.size (.slice a2 nP c2) P rfl HR2.out W2.heap.size x rfl (by simp) hPb zA ?_; intro g3 c3 W3 ho3 hg3; have HO3 := Lib.hid ho3; have HB3 := Lib.hid (HBA.out.grown hg3 zA (srow_base HR2.out)); have HD3 := Lib.hid (TextsAt.keep (SRow.at HR1.out) (Carries.of wr.heap.size HB3.out)); clear ho3 hg3)
            | (refine wpList_append_txs rfl (.tmp 44) (.tmp 45) rfl W1.heap.size wr.heap.size _ (P ++ [x]) rfl HO3.out _ D rfl HD3.out (by simp; omega) HB3.out.size ?_; intro v4 W4 ho4 hg4; have HO4 := Lib.hid ho4; have HB4 := Lib.hid (HB3.out.grown hg4 HB3.out.size (srow_base HO3.out)); clear ho4 hg4))
          go_ret
          refine ⟨_, rfl, ?_, hbw.trans ((hb1.trans (HB4.out.mono hb1.size)).mono hbw.size)⟩
          rw [HE.out]
          exact Go.Joins.ownsRow_le HO4.out (by have h1 := hbw.size; have h2 := hb1.size; omega)
    · have hkk : k = zs.length := by omega
      subst hkk
      have HE := Lib.hid (HPX.out hall.out)
      have HW2 := Lib.hid (fun i hi => (show wr.cell? ⟨g, i, none⟩ = some (.string (stN zs i)) from by rw [← HF.out]; exact HW.out i hi))
      have SP := Lib.hid (src_take HW2.out (Nat.le_refl _) hcap)
      obtain ⟨P, hP⟩ : ∃ q, q = zs.take zs.length := ⟨_, rfl⟩
      obtain ⟨D, hD⟩ : ∃ q : List ByteArray, q = [] := ⟨_, rfl⟩
      rw [← hP] at HE SP
      have HD := Lib.hid hD
      have hPl : P.length ≤ 1048576 := by rw [hP]; simp; omega
      have hDl : D.length ≤ 1048576 := by rw [hD]; simp
      rw [show (putS zs x = P ++ [x] ++ []) = (putS zs x = P ++ [x] ++ D) by rw [hD]] at HE
      have hD0 : D.length = 0 := by rw [hD]; rfl
      clear hP HW2 hD
      by_cases hck : cap = zs.length
      · subst hck
        go_wp2_with fail
        refine (l1OwnS_any _ D wr 0 ⟨_, _, by rw [hD0], by rw [hD0]; exact Nat.zero_le _, Or.inl hD0⟩ (by omega)).mono ?_
        rintro e W1 ⟨v1, rfl, hr1, hb1⟩
        obtain ⟨a1, c1, rfl⟩ := hr1.form
        have HR1 := Lib.hid hr1
        obtain ⟨nD, hnD⟩ : ∃ q, q = D.length := ⟨_, rfl⟩
        rw [← hnD] at HR1 ⊢
        have HND := Lib.hid hnD
        clear hr1 hnD
        go_wp2_with fail
        refine (l1OwnS_any _ P W1 0 (SP.out.keep (Carries.of 0 hb1)) (by omega)).mono ?_
        rintro e W2 ⟨v2, rfl, hr2, hb2⟩
        obtain ⟨a2, c2, rfl⟩ := hr2.form
        have hal : Below W2.heap.size W2 (W2.alloc (.cells #[.string x] 9)) := (Below.refl _ _).alloc (Nat.le_refl _) _
        have HR2 := Lib.hid (show SRow W1.heap.size (W2.alloc (.cells #[.string x] 9)) (.slice a2 P.length c2) P from owns_after hr2 hal)
        have HBA := Lib.hid (hb2.trans (hal.mono hb2.size))
        have zA : W1.heap.size ≤ (W2.alloc (.cells #[.string x] 9)).heap.size := HBA.out.size
        obtain ⟨nP, hnP⟩ : ∃ q, q = P.length := ⟨_, rfl⟩
        rw [← hnP] at HR2 ⊢
        have hPb : P.length ≤ 1073741824 := by omega
        clear hr2 hnP hal
        go_wp2_with (first
          | (refine wpList_append_tx rfl (.tmp 41) (.tmp 43) rfl W1.heap.size (.slice a2 nP c2) P rfl HR2.out W2.heap.size x rfl (by simp) hPb zA ?_; intro g3 c3 W3 ho3 hg3; have HO3 := Lib.hid ho3; have HB3 := Lib.hid (HBA.out.grown hg3 zA (srow_base HR2.out)); have HD3 := Lib.hid (TextsAt.keep (SRow.at HR1.out) (Carries.of wr.heap.size HB3.out)); clear ho3 hg3)
          | (refine wpList_append_txs rfl (.tmp 44) (.tmp 45) rfl W1.heap.size wr.heap.size _ (P ++ [x]) rfl HO3.out _ D rfl HD3.out (by simp; omega) HB3.out.size ?_; intro v4 W4 ho4 hg4; have HO4 := Lib.hid ho4; have HB4 := Lib.hid (HB3.out.grown hg4 HB3.out.size (srow_base HO3.out)); clear ho4 hg4))
        go_ret
        refine ⟨_, rfl, ?_, hbw.trans ((hb1.trans (HB4.out.mono hb1.size)).mono hbw.size)⟩
        rw [HE.out]
        exact Go.Joins.ownsRow_le HO4.out (by have h1 := hbw.size; have h2 := hb1.size; omega)
      · skip
        go_wp2_with fail
        refine (l1OwnS_any _ D wr 0 ⟨_, _, by rw [hD0], by rw [hD0]; exact Nat.zero_le _, Or.inl hD0⟩ (by omega)).mono ?_
        rintro e W1 ⟨v1, rfl, hr1, hb1⟩
        obtain ⟨a1, c1, rfl⟩ := hr1.form
        have HR1 := Lib.hid hr1
        obtain ⟨nD, hnD⟩ : ∃ q, q = D.length := ⟨_, rfl⟩
        rw [← hnD] at HR1 ⊢
        have HND := Lib.hid hnD
        clear hr1 hnD
        go_wp2_with fail
        refine (l1OwnS_any _ P W1 0 (SP.out.keep (Carries.of 0 hb1)) (by omega)).mono ?_
        rintro e W2 ⟨v2, rfl, hr2, hb2⟩
        obtain ⟨a2, c2, rfl⟩ := hr2.form
        have hal : Below W2.heap.size W2 (W2.alloc (.cells #[.string x] 9)) := (Below.refl _ _).alloc (Nat.le_refl _) _
        have HR2 := Lib.hid (show SRow W1.heap.size (W2.alloc (.cells #[.string x] 9)) (.slice a2 P.length c2) P from owns_after hr2 hal)
        have HBA := Lib.hid (hb2.trans (hal.mono hb2.size))
        have zA : W1.heap.size ≤ (W2.alloc (.cells #[.string x] 9)).heap.size := HBA.out.size
        obtain ⟨nP, hnP⟩ : ∃ q, q = P.length := ⟨_, rfl⟩
        rw [← hnP] at HR2 ⊢
        have hPb : P.length ≤ 1073741824 := by omega
        clear hr2 hnP hal
        go_wp2_with (first
          | (refine wpList_append_tx rfl (.tmp 41) (.tmp 43) rfl W1.heap.size (.slice a2 nP c2) P rfl HR2.out W2.heap.size x rfl (by simp) hPb zA ?_; intro g3 c3 W3 ho3 hg3; have HO3 := Lib.hid ho3; have HB3 := Lib.hid (HBA.out.grown hg3 zA (srow_base HR2.out)); have HD3 := Lib.hid (TextsAt.keep (SRow.at HR1.out) (Carries.of wr.heap.size HB3.out)); clear ho3 hg3)
          | (refine wpList_append_txs rfl (.tmp 44) (.tmp 45) rfl W1.heap.size wr.heap.size _ (P ++ [x]) rfl HO3.out _ D rfl HD3.out (by simp; omega) HB3.out.size ?_; intro v4 W4 ho4 hg4; have HO4 := Lib.hid ho4; have HB4 := Lib.hid (HB3.out.grown hg4 HB3.out.size (srow_base HO3.out)); clear ho4 hg4))
        go_ret
        refine ⟨_, rfl, ?_, hbw.trans ((hb1.trans (HB4.out.mono hb1.size)).mono hbw.size)⟩
        rw [HE.out]
        exact Go.Joins.ownsRow_le HO4.out (by have h1 := hbw.size; have h2 := hb1.size; omega)


end Go.Proofs.Ytigkgfdnnfmmmaa
