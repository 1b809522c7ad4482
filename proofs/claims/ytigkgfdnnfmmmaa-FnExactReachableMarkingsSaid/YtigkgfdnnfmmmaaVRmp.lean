/- PURE PART: texts put one by one are texts sorted. ROWS of texts that the library's sort left. WALK: ReachableMarkings of the program. -/
import Derived.Test.YtigkgfdnnfmmmaaVScm
import Derived.Test.YtigkgfdnnfmmmaaVStgv
import Derived.Test.YtigkgfdnnfmmmaaVExp
import Derived.Test.YtigkgfdnnfmmmaaVSst
import Derived.Sort.OwnSorted
namespace Go.Proofs.Ytigkgfdnnfmmmaa
open Go.RowKit Go.Sort Go.Maps

theorem less_lt : ∀ (x y : List UInt8), Op.bytesLess x y = true ↔ x < y
  | [], [] => by simp [Op.bytesLess]
  | _ :: _, [] => by simp [Op.bytesLess]
  | [], _ :: _ => by simp [Op.bytesLess]
  | a :: x, b :: y => by
    have ih := less_lt x y
    simp only [Op.bytesLess, Bool.or_eq_true, Bool.and_eq_true, decide_eq_true_eq, beq_iff_eq, List.cons_lt_cons_iff, ih]
theorem tLt_iff (a b : ByteArray) : tLt a b = true ↔ bytes a < bytes b := by
  unfold tLt bytes
  rw [less_lt, bytes_toList_data, bytes_toList_data]
theorem putS_mem : ∀ (l : List ByteArray) (x y : ByteArray), y ∈ putS l x → y = x ∨ y ∈ l
  | [], x, y, h => by simp [putS] at h; exact Or.inl h
  | z :: l, x, y, h => by
    unfold putS at h
    split at h
    · simp only [List.mem_cons] at h
      rcases h with h | h
      · right; simp [h]
      · rcases putS_mem l x y h with h | h
        · exact Or.inl h
        · right; simp [h]
    · split at h
      · exact Or.inr h
      · simp only [List.mem_cons] at h
        rcases h with h | h | h
        · exact Or.inl h
        · right; simp [h]
        · right; simp [h]
def SortedT (l : List ByteArray) : Prop := l.Pairwise fun a b => bytes a ≤ bytes b
theorem putS_sorted : ∀ (l : List ByteArray) (x : ByteArray), SortedT l → SortedT (putS l x)
  | [], x, _ => by simp [putS, SortedT]
  | z :: l, x, h => by
    have h' := List.pairwise_cons.1 h
    unfold putS
    split
    · rename_i hlt
      rw [tLt_iff] at hlt
      refine List.pairwise_cons.2 ⟨fun y hy => ?_, putS_sorted l x h'.2⟩
      rcases putS_mem l x y hy with rfl | hy
      · exact List.le_of_lt hlt
      · exact h'.1 y hy
    · rename_i hlt
      rw [tLt_iff] at hlt
      split
      · exact h
      · have hxz : bytes x ≤ bytes z := List.not_lt.1 hlt
        refine List.pairwise_cons.2 ⟨fun y hy => ?_, h⟩
        rcases List.mem_cons.1 hy with rfl | hy
        · exact hxz
        · exact List.le_trans hxz (h'.1 y hy)
theorem putS_perm : ∀ (l : List ByteArray) (x : ByteArray), x ∉ l → (putS l x).Perm (x :: l)
  | [], x, _ => List.Perm.refl _
  | z :: l, x, h => by
    have h1 : x ≠ z := fun e => h (by simp [e])
    have h2 : x ∉ l := fun e => h (by simp [e])
    unfold putS
    split
    · exact ((putS_perm l x h2).cons z).trans (List.Perm.swap x z l)
    · rw [if_neg (fun e => h1 e.symm)]
theorem putTo_sorted (l : List ByteArray) : ∀ k, SortedT (putTo l k)
  | 0 => List.Pairwise.nil
  | k + 1 => putS_sorted _ _ (putTo_sorted l k)
theorem putTo_perm {l : List ByteArray} (hd : ∀ a b, a < b → b < l.length → stN l a ≠ stN l b) : ∀ k, k ≤ l.length → (putTo l k).Perm (l.take k)
  | 0, _ => by simp [putTo]
  | k + 1, hk => by
    have ih := putTo_perm hd k (by omega)
    have hnm : stN l k ∉ putTo l k := fun hm => by
      have hm := ih.subset hm
      obtain ⟨j, hj, he⟩ := List.mem_iff_getElem.1 hm
      have hj2 : j < k := by simp at hj; omega
      refine hd j k hj2 (by omega) ?_
      rw [← he, List.getElem_take, stN_getD (by omega)]
    show (putS (putTo l k) (stN l k)).Perm _
    refine (putS_perm _ _ hnm).trans ?_
    refine ((ih.cons _).trans (List.perm_append_singleton _ _).symm).trans ?_
    rw [List.take_succ_eq_append_getElem (by omega), stN_getD (by omega)]
/-- **the library's sort of distinct texts is what putting makes** -/
theorem put_sorted {l : List ByteArray} (hd : ∀ a b, a < b → b < l.length → stN l a ≠ stN l b) : (l.map bytes).mergeSort (fun x y => decide (x ≤ y)) = (putTo l l.length).map bytes := by
  refine List.Perm.eq_of_pairwise (le := fun x y => decide (x ≤ y) = true) ?_ ?_ ?_ ((List.mergeSort_perm _ _).trans ?_)
  · intro a b _ _ h1 h2
    exact List.le_antisymm (of_decide_eq_true h1) (of_decide_eq_true h2)
  · refine List.pairwise_mergeSort ?_ ?_ _
    · intro a b c h1 h2
      exact decide_eq_true (List.le_trans (of_decide_eq_true h1) (of_decide_eq_true h2))
    · intro a b
      rcases List.le_total a b with h | h
      · simp [h]
      · simp [h]
  · rw [List.pairwise_map]
    refine (putTo_sorted l l.length).imp ?_
    intro a b h
    exact decide_eq_true h
  · have h := putTo_perm hd l.length (Nat.le_refl _)
    rw [List.take_length] at h
    exact (h.map bytes).symm

theorem heap_sortedS {w : World} {g n : Nat} {os : Array Obj} {cur : Array Value} {e : TypeId} {fr : Nat × Nat} (d : Array (List UInt8)) (hb : w.heap[g]? = some (.cells cur e fr)) :
    (grow (putRow encStr (Sort.ahead w n) g 0 d) os).heap[g]? = some (.cells (putCells encStr 0 d cur) e fr) := by
  have hg : g < w.heap.size := (Array.getElem?_eq_some_iff.1 hb).1
  rw [heap_grow_old _ _ (by simpa using hg)]
  simp [putRow, mapBlock, Sort.ahead, Array.getElem?_modify, hb, onCells]
theorem grownBy_sortedS {w : World} {g n : Nat} {os : Array Obj} (d : Array (List UInt8)) : w.grownBy (grow (putRow encStr (Sort.ahead w n) g 0 d) os) (some g) := by
  refine ⟨rfl, rfl, rfl, by simp, fun k hk hne => ?_⟩
  rw [heap_grow_old _ _ (by simpa using hk)]
  have : g ≠ k := fun e => hne (by rw [e])
  simp [putRow, mapBlock, Sort.ahead, Array.getElem?_modify, this]
theorem row_sortedS {w : World} {g k n : Nat} {os : Array Obj} {e : TypeId} {f : Nat → Value} (ts : List ByteArray) (hl : ts.length = n) (h : w.rowIs g e n f) :
    (grow (putRow encStr (Sort.ahead w k) g 0 (ts.map bytes).toArray) os).rowIs g e n (scopied ts n) := by
  obtain ⟨cur, hg, hs, hc⟩ := h
  refine ⟨_, heap_sortedS _ hg, by simp [putCells, hs], fun i hi => ?_⟩
  have h1 : i < ts.length := by omega
  have h2 : i < cur.size := by omega
  simp [putCells, h1, h2, scopied, hi, stN, List.getD]
  exact bstr_bytes _
theorem holds_of_rowS {w : World} {g n : Nat} {e : TypeId} {zs : List ByteArray} (hl : zs.length = n) (h : w.rowIs g e n (scopied zs n)) : Holds encStr w g 0 (zs.map bytes).toArray := by
  intro j hj
  have hj' : j < zs.length := by simpa using hj
  refine ⟨?_, h.frozen _⟩
  rw [Nat.zero_add, h.cell (by omega)]
  have hjn : j < n := by omega
  simp [scopied, hj', hjn, stN, List.getD]
  exact (bstr_bytes _).symm

set_option maxRecDepth 100000 in
set_option maxHeartbeats 2000000 in
theorem ReachableMarkings_any (v : Value) (n : NetD) (s : ByteArray) (w : World) (lo : Nat) (hv : NetAt lo w v n) (hsm : SmallTrs n.ts) (hs : s.size ≤ 1048576) :
    Calls Try.prog 30 #[v, .string s] w (RetTB w (rmL n s) (sfV n s)) := by
  obtain ⟨L, ha⟩ : ∃ q, q = rmL n s := ⟨_, rfl⟩
  obtain ⟨b, hb⟩ : ∃ q, q = sfV n s := ⟨_, rfl⟩
  rw [← ha, ← hb]
  have HA := Lib.hid ha; have HB := Lib.hid hb
  clear ha hb
  obtain ⟨p, hp⟩ : ∃ p, p = n.places := ⟨_, rfl⟩
  have hv' := hv
  obtain ⟨hp0, hp1, u, rfl, ht⟩ := hv'
  obtain ⟨ao, cap, hu, hc, hz⟩ := id ht
  subst hu
  obtain ⟨m, hm⟩ : ∃ m, m = n.ts.length := ⟨_, rfl⟩
  rw [← hm] at hv ht ⊢
  rw [← hp]
  have HV := Lib.hid hv; have HT := Lib.hid ht; have HS := Lib.hid hsm; have HP := Lib.hid hp
  clear hv ht hz hc hm hsm hp hp0 hp1
  go_enter Try.func30, Try.ntmps30
  go_wp2_with fail
  have hb0 : Below w.heap.size w (w.alloc (.cells #[.int .i64 p, .slice ao m cap] 38)) := (Below.refl _ _).alloc (Nat.le_refl _) _
  have c0 : (w.alloc (.cells #[.int .i64 p, .slice ao m cap] 38)).cell? ⟨w.heap.size, 0, none⟩ = some (.int .i64 p) := by simp
  have c1 : (w.alloc (.cells #[.int .i64 p, .slice ao m cap] 38)).cell? ⟨w.heap.size, 1, none⟩ = some (.slice ao m cap) := by simp
  generalize w.alloc (.cells #[.int .i64 p, .slice ao m cap] 38) = W at hb0 c0 c1 ⊢
  refine (IsValidMarking_any _ n s W lo (by rw [HP.out]; exact HV.out.keep (Carries.of lo hb0)) HS.out hs).mono ?_
  rintro e w1 ⟨rfl, hb1⟩
  have hw1 : Below w.heap.size w w1 := hb0.trans (hb1.mono hb0.size)
  have c0 := cell_carry c0 (Carries.of 0 hb1)
  have c1 := cell_carry c1 (Carries.of 0 hb1)
  clear hb0 hb1
  cases hq : (goodN n && markB n s) with
  | false =>
    have e1 : L = [] := by rw [HA.out]; unfold rmL askB; rw [hq]; rfl
    have e2 : b = false := by rw [HB.out]; unfold sfV askB; rw [hq]; rfl
    subst e1; subst e2
    clear hq
    go_wp2_with fail
    go_ret2
    exact ⟨_, rfl, World.ownsRow_nil _ _ _ _, hw1⟩
  | true =>
  simp only [Bool.and_eq_true] at hq
  have HG := Lib.hid hq.1; have HM := Lib.hid hq.2
  have hak : askB n s = true := by unfold askB; rw [hq.1, hq.2]; rfl
  have HAK := Lib.hid hak
  have hs30 : s.size ≤ 30 := by
    have := mark_size hq.2
    have := (goodN_parts hq.1).2.1
    omega
  have hp30 := (goodN_parts hq.1).2.1
  have hp1 := (goodN_parts hq.1).1
  clear hq hak
  rw [← HP.out] at hp30 hp1
  obtain ⟨pn, hpn⟩ : ∃ q : Nat, p = (q : Int) := ⟨p.toNat, by omega⟩
  subst hpn
  go_wp2_with fail
  refine (newExplorer_any (pn : Int) ao m cap s w1 hs30).mono ?_
  rintro e w2 ⟨E, M, vm, rfl, hx2, hb2⟩
  have HX2 := Lib.hid hx2; have HB2 := Lib.hid hb2
  have hw2 : Below w.heap.size w w2 := hw1.trans (hb2.mono hw1.size)
  have HT1 := Lib.hid (HT.out.keep (Carries.of lo hw1))
  clear hx2 hb2
  go_wp2_with fail
  refine (searchByMarkings_any n s E M w1 w2 (pn : Int) _ _ _ lo HX2.out HB2.out HT1.out HS.out HG.out HM.out).mono ?_
  rintro e w3 ⟨hb3, hc⟩
  have hw3 : Below w.heap.size w w3 := hw2.trans (hb3.mono hw1.size)
  rcases hc with ⟨s', vm', vv', i, k, t, kk, tt, hf, rfl, ho, hx⟩ | ⟨s', vm', vv', i, k, t, hf, rfl, ho, hx⟩ | ⟨hf, rfl, s', vm', vv', kk, tt, hx⟩
  · have e1 : L = putTo s'.ms s'.ms.length := by rw [HA.out]; unfold rmL; rw [HAK.out, hf]; rfl
    have e2 : b = true := by rw [HB.out]; unfold sfV; rw [HAK.out, hf]; rfl
    subst e2
    have HE := Lib.hid e1
    have hmn : s'.ms.length ≤ 1000 := by
      have h1 := ho.bound
      have h2 := ho.tle
      have h3 := (goodN_parts HG.out).2.2.1
      omega
    have hzs : ∀ a, a < s'.ms.length → (stN s'.ms a).size = pn := fun a ha => by
      have := mark_size (ho.mks a ha)
      rw [← HP.out] at this
      omega
    have HX3 := Lib.hid hx; have HO := Lib.hid ho
    clear hf ho hx hb3 e1
    go_wp2_with fail
    refine (markTexts_any w1.heap.size E M w3 pn ao m cap _ _ kk tt false s' HX3.out (by omega) hzs hmn HO.out.pos).mono ?_
    rintro e w4 ⟨bT, rfl, hbT, hbT2, hrow, hb4⟩
    have hw4 := hw3.trans (hb4.mono hw3.size)
    have hH := holds_of_rowS rfl hrow
    have hsrt := Try.slices_Sort_string bT 0 s'.ms.length (s'.ms.map bytes) w4 hH hbT2 (by rw [List.length_map]; omega)
    rw [List.length_map] at hsrt
    have HSR := Lib.hid hsrt
    have HROW := Lib.hid hrow
    have zT : w.heap.size ≤ bT := Nat.le_trans hw3.size hbT
    obtain ⟨N, hN⟩ : ∃ q, q = s'.ms.length := ⟨_, rfl⟩
    have HN := Lib.hid hN
    rw [← hN] at HSR ⊢
    clear hH hsrt hrow hb4 hN hzs
    go_wp2_with fail
    refine HSR.out.mono ?_
    rintro e w5 ⟨rfl, nn, os, hw5⟩
    rw [put_sorted HO.out.dist] at hw5
    have hpl : (putTo s'.ms s'.ms.length).length = s'.ms.length := by
      have := (putTo_perm HO.out.dist s'.ms.length (Nat.le_refl _)).length_eq
      rw [List.take_length] at this
      exact this
    have hg := grownBy_sortedS (w := w4) (g := bT) (n := nn) (os := os) ((putTo s'.ms s'.ms.length).map bytes).toArray
    have hr5 := row_sortedS (k := nn) (os := os) (putTo s'.ms s'.ms.length) hpl HROW.out
    have hw5' : w5 = grow (putRow encStr (Sort.ahead w4 nn) bT 0 ((putTo s'.ms s'.ms.length).map bytes).toArray) os := hw5
    rw [← hw5'] at hg hr5
    have hwE : Below w.heap.size w w5 := hw4.grown hg hw4.size (fun j hj => by injection hj with hj; omega)
    have hsr : SRow w.heap.size w5 (.slice (some ⟨bT, 0, none⟩) s'.ms.length s'.ms.length) (putTo s'.ms s'.ms.length) := by
      obtain ⟨Q, hQ⟩ : ∃ q, q = putTo s'.ms s'.ms.length := ⟨_, rfl⟩
      rw [← hQ] at hr5 hpl ⊢
      rw [← hpl] at hr5 ⊢
      exact srow_of_made zT (by omega) hr5
    rw [← HN.out] at hsr
    have HR5 := Lib.hid hsr
    clear hg hr5 hw5 hw5' hsr hpl
    go_wp2_with fail
    go_ret2
    exact ⟨_, rfl, by rw [HE.out, ← HN.out]; exact HR5.out, hwE⟩
  · have e1 : L = [] := by rw [HA.out]; unfold rmL; rw [HAK.out, hf]; rfl
    have e2 : b = false := by rw [HB.out]; unfold sfV; rw [HAK.out, hf]; rfl
    subst e1; subst e2
    clear hf ho hx hb3
    go_wp2_with fail
    go_ret2
    exact ⟨_, rfl, World.ownsRow_nil _ _ _ _, hw3⟩
  · have e1 : L = [] := by rw [HA.out]; unfold rmL; rw [HAK.out, hf]; rfl
    have e2 : b = false := by rw [HB.out]; unfold sfV; rw [HAK.out, hf]; rfl
    subst e1; subst e2
    clear hf hx hb3
    go_wp2_with fail
    go_ret2
    exact ⟨_, rfl, World.ownsRow_nil _ _ _ _, hw3⟩

end Go.Proofs.Ytigkgfdnnfmmmaa
