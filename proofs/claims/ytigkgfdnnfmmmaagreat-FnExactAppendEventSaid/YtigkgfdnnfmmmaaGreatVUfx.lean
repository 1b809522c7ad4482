/- WALKS: markEvent, heldEventS, heldUnfolding of the laws (written by gen8/gufy.py).
   WALK: markEventS of the laws on events whose lists lie apart (written by gen8/gufx.py). -/
import Derived.Test.YtigkgfdnnfmmmaaGreatVUfw
namespace Go.Proofs.YtigkgfdnnfmmmaaGreat
open Go.RowKit

/-- the events as marks leave them: k, then the numbers of the list, and so on -/
def markedEv (k : Int) (es : List Ev) (i : Nat) : Ev := (k + (totE es i : Nat), upFrom (k + (totE es i : Nat) + 1) (evP es i).length)
def markedEvs (k : Int) (es : List Ev) : List Ev := (List.range es.length).map (markedEv k es)
theorem markedEvs_length (k : Int) (es : List Ev) : (markedEvs k es).length = es.length := by simp [markedEvs]
theorem markedEvs_T {k : Int} {es : List Ev} {i : Nat} (h : i < es.length) : evT (markedEvs k es) i = k + (totE es i : Nat) := by simp [markedEvs, evT, List.getD, h, markedEv]
theorem markedEvs_P {k : Int} {es : List Ev} {i : Nat} (h : i < es.length) : evP (markedEvs k es) i = upFrom (k + (totE es i : Nat) + 1) (evP es i).length := by simp [markedEvs, evP, List.getD, h, markedEv]

set_option maxRecDepth 100000 in
set_option maxHeartbeats 400000 in
theorem markEvent_any (t : Int) (v : Value) (len : Nat) (k : Int) (w : World) (lo hi : Nat) (hv : BoxAt lo hi w v len) (hn : len ≤ 1048576) (h0 : 0 ≤ k) (h1 : k ≤ 1099511627776000) :
    Calls Tryz.prog 18 #[.agg #[.int .i64 t, v], .int .i64 k] w (fun e w' => ∃ wa, e = .returned (.int .i64 (k + (len : Nat))) ∧ Below w.heap.size w wa ∧ Marks lo hi wa w') := by
  have HB := Lib.hid hv
  obtain ⟨ao, cap, rfl, _⟩ := hv
  have hal : Below w.heap.size w (w.alloc (.cells #[.int .i64 t, .slice ao len cap] 46)) := (Below.refl _ _).alloc (Nat.le_refl _) _
  go_enter Tryz.func18, Tryz.ntmps18
  go_wp2_with fail
  refine (markIntS_any _ len k _ lo hi (HB.out.same ⟨hal.size, fun b _ h => hal.block b h⟩) hn h0 h1).mono ?_
  rintro e w1 ⟨rfl, hm, _⟩
  go_wp2_with fail
  go_ret
  exact ⟨_, rfl, hal, hm⟩

set_option maxRecDepth 100000 in
set_option maxHeartbeats 1000000 in
theorem heldEventS_any (v : Value) (es : List Ev) (k : Int) (w : World) (lo : Nat) (hv : EvsAt lo w v (markedEvs k es)) (hs : SmallEvs es) (h0 : 0 ≤ k) (h1 : k ≤ 4398046511104) :
    Calls Tryz.prog 47 #[v, .int .i64 k] w (RetV w (.int .i64 (k + (totE es es.length : Nat)))) := by
  obtain ⟨ao, cap, rfl, hc, hz⟩ := hv
  rw [markedEvs_length] at hz hc ⊢
  have HF := Lib.hid hz; clear hz hc
  have HT := Lib.hid (totE_le hs)
  obtain ⟨hn, hsl⟩ := hs
  have HS := Lib.hid hsl; clear hsl
  have hP : ∀ j, j < es.length → evT (markedEvs k es) j = k + (totE es j : Nat) ∧ evP (markedEvs k es) j = upFrom (k + (totE es j : Nat) + 1) (evP es j).length := fun j hj => ⟨markedEvs_T hj, markedEvs_P hj⟩
  obtain ⟨T, hT⟩ : ∃ T, T = totE es := ⟨_, rfl⟩
  have hTs : ∀ j, T (j + 1) = T j + 1 + (evP es j).length := fun j => by rw [hT]; rfl
  have hT0 : T 0 = 0 := by rw [hT]; rfl
  rw [← hT] at HT hP ⊢
  have HTS := Lib.hid hTs; have HP := Lib.hid hP; clear hTs hT hP
  go_enter Tryz.func47, Tryz.ntmps47
  go_wp2_with fail
  go_loopw [1, 5] (fun kv i wr => ∃ j : Nat, j ≤ es.length ∧ i = .int .i64 j ∧ kv = .int .i64 (k + (T j : Nat)) ∧ Below w.heap.size w wr) (fun _ i _ => es.length - (intOf i).toNat)
  case atStart => exact ⟨0, Nat.zero_le _, rfl, by simp [hT0], Below.refl _ _⟩
  case round =>
    obtain ⟨j, hj, rfl, rfl, hb1⟩ := hrel
    by_cases hlt : j < es.length
    · rcases HF.out with h | ⟨b, off, rfl, hlo, hcell⟩
      · omega
      obtain ⟨x1, c0, c1, hx1⟩ := hcell j hlt
      obtain ⟨p0, p1⟩ := HP.out j hlt
      rw [p0] at c0
      rw [p1] at hx1
      have s1 := HS.out j hlt
      have tj := HT.out j hj
      have tj1 := HTS.out j
      obtain ⟨len, hX⟩ : ∃ X, X = (evP es j).length := ⟨_, rfl⟩
      rw [← hX] at hx1 s1 tj1
      have d0 := Carries.of lo hb1 _ _ hlo c0
      have d1 := Carries.of lo hb1 _ _ hlo c1
      have HX := Lib.hid (hx1.keep (Carries.of lo hb1))
      obtain ⟨a2, k2, rfl, _, _⟩ := hx1
      have hll : (upFrom (k + (T j : Nat) + 1) len).length = len := upFrom_length _ _
      rw [hll] at d1 HX
      have hne : (k + (T j : Int) != k + (T j : Int)) = false := by simp
      clear hcell c0 c1 p0 p1 hX hll
      go_wp2_with fail
      refine (heldIntS_any _ len (k + (T j : Nat) + 1) _ lo HX.out s1 (by omega) (by omega)).mono ?_
      rintro e w1 ⟨rfl, hb2⟩
      have hb3 := hb1.trans (hb2.mono hb1.size)
      have hq : decide (k + (T j : Int) + 1 + (len : Int) < 0) = false := by rw [decide_eq_false_iff_not]; omega
      clear hb2 d0 d1 hne
      go_wp2_with fail
      go_roundw
      case rel => exact ⟨j + 1, by omega, by go_num, by simp [tj1, Int.add_assoc], hb3⟩
      case measure => simp [intOf]; omega
    · have hjj : j = es.length := by omega
      subst hjj
      go_wp2_with fail
      go_ret
      exact ⟨rfl, hb1⟩

end Go.Proofs.YtigkgfdnnfmmmaaGreat

namespace Go.Proofs.YtigkgfdnnfmmmaaGreat
open Go.RowKit

/-- events in the row b, their lists in blocks g that lie apart -/
structure EvsSep (lo hi : Nat) (w : World) (b off : Nat) (g : Nat → Nat) (es : List Ev) : Prop where
  bl : lo ≤ b
  bh : b < hi
  c0 : ∀ i, i < es.length → w.cell? ⟨b, off + i * 2, none⟩ = some (.int .i64 (evT es i))
  f0 : ∀ i, i < es.length → w.frozen? ⟨b, off + i * 2, none⟩ = false
  c1 : ∀ i, i < es.length → w.cell? ⟨b, off + i * 2 + 1, none⟩ = some (.slice (some ⟨g i, 0, none⟩) (evP es i).length (evP es i).length)
  gl : ∀ i, i < es.length → lo ≤ g i ∧ g i < hi ∧ g i ≠ b
  gc : ∀ i, i < es.length → ∀ q, q < (evP es i).length → w.cell? ⟨g i, 0 + q, none⟩ = some (.int .i64 ((evP es i).getD q 0)) ∧ w.frozen? ⟨g i, 0 + q, none⟩ = false
  gs : ∀ i j, i < j → j < es.length → g i ≠ g j

set_option maxRecDepth 100000 in
set_option maxHeartbeats 2000000 in
theorem markEventS_sep (es : List Ev) (k : Int) (w : World) (lo hi b off cap : Nat) (g : Nat → Nat) (h : EvsSep lo hi w b off g es) (hcap : es.length ≤ cap) (hs : SmallEvs es) (h0 : 0 ≤ k) (h1 : k ≤ 4398046511104) :
    Calls Tryz.prog 44 #[.slice (some ⟨b, off, none⟩) es.length cap, .int .i64 k] w (fun e w' => e = .returned (.int .i64 (k + (totE es es.length : Nat))) ∧ Marks lo hi w w' ∧ EvsAt lo w' (.slice (some ⟨b, off, none⟩) es.length cap) (markedEvs k es) ∧ ∀ c, c ≠ b → (∀ i, i < es.length → c ≠ g i) → w'.heap[c]? = w.heap[c]?) := by
  have HT := Lib.hid (totE_le hs)
  obtain ⟨hn, hsl⟩ := hs
  have HS := Lib.hid hsl; clear hsl
  have hP : ∀ j, j < es.length → evT (markedEvs k es) j = k + (totE es j : Nat) ∧ evP (markedEvs k es) j = upFrom (k + (totE es j : Nat) + 1) (evP es j).length := fun j hj => ⟨markedEvs_T hj, markedEvs_P hj⟩
  obtain ⟨T, hT⟩ : ∃ T, T = totE es := ⟨_, rfl⟩
  have hTs : ∀ j, T (j + 1) = T j + 1 + (evP es j).length := fun j => by rw [hT]; rfl
  have hT0 : T 0 = 0 := by rw [hT]; rfl
  rw [← hT] at HT hP ⊢
  have HTS := Lib.hid hTs; have HP := Lib.hid hP; clear hTs hT hP
  have HH := Lib.hid h
  have hbl := h.bl; have hbh := h.bh
  clear h
  go_enter Tryz.func44, Tryz.ntmps44
  go_wp2_with fail
  go_loopw [1, 5] (fun kv i wr => ∃ j : Nat, j ≤ es.length ∧ i = .int .i64 j ∧ kv = .int .i64 (k + (T j : Nat)) ∧ Marks lo hi w wr ∧ Hid (∀ q, q < j → wr.cell? ⟨b, off + q * 2, none⟩ = some (.int .i64 (k + (T q : Nat))) ∧ ∀ r, r < (evP es q).length → wr.cell? ⟨g q, 0 + r, none⟩ = some (.int .i64 (k + (T q : Nat) + 1 + (r : Int)))) ∧ Hid (∀ c, c ≠ b → (∀ i, i < es.length → c ≠ g i) → wr.heap[c]? = w.heap[c]?)) (fun _ i _ => es.length - (intOf i).toNat)
  case atStart => exact ⟨0, Nat.zero_le _, rfl, by simp [hT0], Marks.refl _ _ _, fun q hq => absurd hq (Nat.not_lt_zero _), fun _ _ _ => rfl⟩
  case round =>
    obtain ⟨j, hj, rfl, rfl, hm, hex, hfar⟩ := hrel
    by_cases hlt : j < es.length
    · have s1 := HS.out j hlt
      have tj := HT.out j hj
      have tj1 := HTS.out j
      obtain ⟨len, hX⟩ : ∃ X, X = (evP es j).length := ⟨_, rfl⟩
      obtain ⟨z0, d0⟩ := hm.int _ _ (HH.out.c0 j hlt)
      have g0 : wr.frozen? ⟨b, off + j * 2, none⟩ = false := (hm.frozen _).trans (HH.out.f0 j hlt)
      have hm2 := hm.set d0 hbl hbh (k + (T j : Nat))
      have d1 := hm2.slice _ _ _ _ (HH.out.c1 j hlt)
      obtain ⟨gl, gh, gb⟩ := HH.out.gl j hlt
      have B0 : BoxAt (g j) (g j + 1) w (.slice (some ⟨g j, 0, none⟩) (evP es j).length (evP es j).length) (evP es j).length := ⟨_, _, rfl, Or.inr ⟨g j, 0, rfl, Nat.le_refl _, Nat.lt_succ_self _, fun i hi => ⟨⟨_, (HH.out.gc j hlt i hi).1⟩, (HH.out.gc j hlt i hi).2⟩⟩⟩
      have B2 := Lib.hid (B0.marks hm2)
      rw [← hX] at d1 B2 s1 tj1
      have MM := Lib.hid hm2
      have HE2 : Hid (∀ w', Marks (g j) (g j + 1) (wr.setCell ⟨b, off + j * 2, none⟩ (.int .i64 (k + (T j : Nat)))) w' → (∀ r, r < len → w'.cell? ⟨g j, 0 + r, none⟩ = some (.int .i64 (k + (T j : Nat) + 1 + (r : Int)))) → ∀ q, q < j + 1 → w'.cell? ⟨b, off + q * 2, none⟩ = some (.int .i64 (k + (T q : Nat))) ∧ ∀ r, r < (evP es q).length → w'.cell? ⟨g q, 0 + r, none⟩ = some (.int .i64 (k + (T q : Nat) + 1 + (r : Int)))) := by
        intro w' hmk hnew q hq
        have hb' := hmk.block b (by omega)
        by_cases e : q = j
        · subst e
          exact ⟨(World.cell?_of_block (a := ⟨b, off + q * 2, none⟩) hb').trans (World.cell?_setCell_same _ _ _ d0), fun r hr => hnew r (by rw [hX]; exact hr)⟩
        · obtain ⟨q0, q1⟩ := hex.out q (by omega)
          have hgq := HH.out.gs q j (by omega) hlt
          have hgb := (HH.out.gl q (by omega)).2.2
          have hbq := hmk.block (g q) (by omega)
          exact ⟨(World.cell?_of_block (a := ⟨b, off + q * 2, none⟩) hb').trans ((World.cell?_setCell_other _ _ _ _ (by intro h; injection h with h1 h2 h3; omega)).trans q0),
            fun r hr => (World.cell?_of_block (a := ⟨g q, 0 + r, none⟩) hbq).trans ((World.cell?_setCell_other _ _ _ _ (by intro h; injection h with h1 h2 h3; omega)).trans (q1 r hr))⟩
      have HK2 : Hid (∀ w', Marks (g j) (g j + 1) (wr.setCell ⟨b, off + j * 2, none⟩ (.int .i64 (k + (T j : Nat)))) w' → ∀ c, c ≠ b → (∀ i, i < es.length → c ≠ g i) → w'.heap[c]? = w.heap[c]?) := fun w' hmk c hc1 hc2 => by
        have hcj := hc2 j hlt
        exact (hmk.block c (by omega)).trans ((Below.heap_setCell _ _ _ _ (by simpa using hc1)).trans (hfar.out c hc1 hc2))
      clear hX hm hm2 hex B0 hfar
      go_wp2_with fail
      refine (markIntS_any _ len _ _ (g j) (g j + 1) B2.out s1 (by omega) (by omega)).mono ?_
      rintro e w1 ⟨rfl, hm1, hnew⟩
      have MM1 := Lib.hid (MM.out.trans (hm1.wide gl (by omega)))
      have HE3 := Lib.hid (HE2.out w1 hm1 (fun r hr => hnew (g j) 0 _ rfl r hr))
      have HK3 := Lib.hid (HK2.out w1 hm1)
      clear hm1 d1 d0 g0 hnew HE2 HK2
      go_wp2_with fail
      go_roundw
      case rel => exact ⟨j + 1, by omega, by go_num, by simp [tj1, Int.add_assoc], MM1.out, HE3.out, HK3.out⟩
      case measure => simp [intOf]; omega
    · have hjj : j = es.length := by omega
      subst hjj
      have HEX := Lib.hid hex.out
      have HFR := Lib.hid hfar.out
      clear hex hfar
      go_wp2_with fail
      go_ret
      refine ⟨rfl, hm, ⟨_, _, by rw [markedEvs_length], by rw [markedEvs_length]; exact hcap, Or.inr ⟨b, off, rfl, hbl, fun i hi => ?_⟩⟩, HFR.out⟩
      rw [markedEvs_length] at hi
      obtain ⟨p0, p1⟩ := HP.out i hi
      obtain ⟨q0, q1⟩ := HEX.out i hi
      refine ⟨_, by rw [p0]; exact q0, hm.slice _ _ _ _ (HH.out.c1 i hi), ?_⟩
      rw [p1]
      obtain ⟨gl, _, _⟩ := HH.out.gl i hi
      refine ⟨_, _, by rw [upFrom_length], by rw [upFrom_length]; exact Nat.le_refl _, Or.inr ⟨g i, 0, rfl, gl, fun r hr => ?_⟩⟩
      rw [upFrom_length] at hr
      rw [upFrom_get hr]
      exact q1 r hr

end Go.Proofs.YtigkgfdnnfmmmaaGreat
