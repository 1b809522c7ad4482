/- WALK: fireTransition. -/
import Derived.Test.YtigkgfdnnfmmmaaVArrb
namespace Go.Proofs.Ytigkgfdnnfmmmaa
open Go.RowKit

/-- the program's firing: whether, and which marking -/
def ftOk (xs : List UInt8) (t : Tr) : Bool := (putAll 49 xs t.1 == xs) && (putAll 48 (putAll 48 xs t.1) t.2 == putAll 48 xs t.1)
def ftA (xs : List UInt8) (t : Tr) : List UInt8 := if ftOk xs t = true then putAll 49 (putAll 48 xs t.1) t.2 else xs

set_option maxRecDepth 100000 in
set_option maxHeartbeats 2000000 in
theorem fireTransition_any (xs : List UInt8) (hx : xs.length = 30) (v0 v1 : Value) (t : Tr) (w : World) (lo : Nat) (hv : TrAt lo w v0 v1 t) (hn : t.1.length ≤ 1048576) (hm : t.2.length ≤ 1048576) (hin : InArr t.1) (him : InArr t.2) :
    Calls Try.prog 77 #[.agg (arr xs).toArray, .agg #[v0, v1]] w (RetV w (.tuple #[.agg (arr (ftA xs t)).toArray, .bool (ftOk xs t)])) := by
  generalize hFA : ftA xs t = FA
  generalize hFO : ftOk xs t = FO
  unfold ftA at hFA
  rw [hFO] at hFA
  unfold ftOk at hFO
  have hv' := hv
  obtain ⟨⟨a0, k0, rfl, _, _⟩, ⟨a1, k1, rfl, _, _⟩⟩ := hv'
  have HV := Lib.hid hv; clear hv
  have HI := Lib.hid hin; clear hin
  have HJ := Lib.hid him; clear him
  have HX := Lib.hid hx
  obtain ⟨R1, hR1⟩ : ∃ R1, R1 = putAll 48 xs t.1 := ⟨_, rfl⟩
  obtain ⟨R2, hR2⟩ : ∃ R2, R2 = putAll 48 R1 t.2 := ⟨_, rfl⟩
  obtain ⟨R3, hR3⟩ : ∃ R3, R3 = putAll 49 R1 t.2 := ⟨_, rfl⟩
  have l1 : R1.length = 30 := by rw [hR1, putAll_length]; exact hx
  have l2 : R2.length = 30 := by rw [hR2, putAll_length]; exact l1
  have l3 : R3.length = 30 := by rw [hR3, putAll_length]; exact l1
  rw [← hR1, ← hR2] at hFO
  rw [← hR1, ← hR3] at hFA
  have q2 := fun w => eqlArr R2 R1 l2 l1 w
  have HFA := Lib.hid hFA; clear hFA
  have HFO := Lib.hid hFO; clear hFO
  have HR1 := Lib.hid hR1; clear hR1
  have HR2 := Lib.hid hR2; clear hR2
  have HR3 := Lib.hid hR3; clear hR3
  have g1 := Try.underlying111
  have g2 : (Try.prog.info? 111).map (·.size) = some (arr R1).length := by rw [arr_length, l1]; exact Try.infoArr
  have hA0 := ArrAt.new w hx
  have hA2 := ArrAt.new ((w.alloc (.cells (arr xs).toArray 111)).alloc (.cells #[.slice a0 t.1.length k0, .slice a1 t.2.length k1] 116)) zeros_length
  have hA1 := (hA0.after (w' := (w.alloc (.cells (arr xs).toArray 111)).alloc (.cells #[.slice a0 t.1.length k0, .slice a1 t.2.length k1] 116)) ((Below.refl _ _).alloc (Nat.le_refl _) _)).after (w' := ((w.alloc (.cells (arr xs).toArray 111)).alloc (.cells #[.slice a0 t.1.length k0, .slice a1 t.2.length k1] 116)).alloc (.cells (arr zeros).toArray 111)) ((Below.refl _ _).alloc (Nat.le_refl _) _)
  rw [World.size_alloc, World.size_alloc] at hA2
  have HA0 := Lib.hid hA1; clear hA0 hA1
  have HA2 := Lib.hid hA2; clear hA2
  have hbw : Below w.heap.size w (((w.alloc (.cells (arr xs).toArray 111)).alloc (.cells #[.slice a0 t.1.length k0, .slice a1 t.2.length k1] 116)).alloc (.cells (arr zeros).toArray 111)) := by (repeat' (first | (with_reducible exact Below.refl _ _) | (with_reducible assumption) | (with_reducible refine Below.alloc ?_ ?_ _) | (with_reducible refine Below.drew ?_) | (with_reducible refine below_drewN ?_ _) | (with_reducible refine Below.setCell ?_ ?_ _) | go_size))
  have c0 : (((w.alloc (.cells (arr xs).toArray 111)).alloc (.cells #[.slice a0 t.1.length k0, .slice a1 t.2.length k1] 116)).alloc (.cells (arr zeros).toArray 111)).cell? ⟨w.heap.size + 1, 0, none⟩ = some (.slice a0 t.1.length k0) := cell_carry (w := (w.alloc (.cells (arr xs).toArray 111)).alloc (.cells #[.slice a0 t.1.length k0, .slice a1 t.2.length k1] 116)) (by simp) (by (repeat' (first | (with_reducible exact Carries.refl _ _) | (with_reducible assumption) | (with_reducible refine Carries.alloc ?_ _) | (with_reducible refine Carries.drew ?_) | (with_reducible refine Carries.drewN ?_ _) | (with_reducible refine Carries.set ?_ ?_ _) | go_size)))
  have c1 : (((w.alloc (.cells (arr xs).toArray 111)).alloc (.cells #[.slice a0 t.1.length k0, .slice a1 t.2.length k1] 116)).alloc (.cells (arr zeros).toArray 111)).cell? ⟨w.heap.size + 1, 1, none⟩ = some (.slice a1 t.2.length k1) := cell_carry (w := (w.alloc (.cells (arr xs).toArray 111)).alloc (.cells #[.slice a0 t.1.length k0, .slice a1 t.2.length k1] 116)) (by simp) (by (repeat' (first | (with_reducible exact Carries.refl _ _) | (with_reducible assumption) | (with_reducible refine Carries.alloc ?_ _) | (with_reducible refine Carries.drew ?_) | (with_reducible refine Carries.drewN ?_ _) | (with_reducible refine Carries.set ?_ ?_ _) | go_size)))
  have hz0 : w.heap.size + 1 + 1 < (((w.alloc (.cells (arr xs).toArray 111)).alloc (.cells #[.slice a0 t.1.length k0, .slice a1 t.2.length k1] 116)).alloc (.cells (arr zeros).toArray 111)).heap.size := by simp
  have KW := Lib.hid hbw; clear hbw
  have KC0 := Lib.hid c0; clear c0
  have KC1 := Lib.hid c1; clear c1
  have KZ := Lib.hid hz0; clear hz0
  go_enter Try.func77, Try.ntmps77
  go_wp2_with (refine wpList_load_row rfl 111 _ rfl w.heap.size rfl _ _ _ _ HA0.out.1 g1 rfl (infoArr HX.out) ?_)
  change Calls _ _ _ (((w.alloc (.cells (arr xs).toArray 111)).alloc (.cells #[.slice a0 t.1.length k0, .slice a1 t.2.length k1] 116)).alloc (.cells (arr zeros).toArray 111)) _
  generalize ((w.alloc (.cells (arr xs).toArray 111)).alloc (.cells #[.slice a0 t.1.length k0, .slice a1 t.2.length k1] 116)).alloc (.cells (arr zeros).toArray 111) = W at KW KC0 KC1 KZ HA0 HA2 ⊢
  refine (isEnabled_any xs HX.out _ _ t _ lo (HV.out.keep (Carries.of lo KW.out)) hn HI.out).mono ?_
  rintro e w1 ⟨rfl, hb⟩
  have hw1 : Below w.heap.size w w1 := KW.out.trans (hb.mono KW.out.size)
  have c0 := cell_carry KC0.out (Carries.of 0 hb)
  have c1 := cell_carry KC1.out (Carries.of 0 hb)
  have HA0' := Lib.hid (HA0.out.after hb)
  have HA2' := Lib.hid (HA2.out.after hb)
  have hz1 : w.heap.size + 1 + 1 < w1.heap.size := by have := hb.size; have := KZ.out; omega
  clear hb HA0 HA2 KC0 KC1 KZ
  cases hd : (putAll 49 xs t.1 == xs) with
  | false =>
    have k1 := HFO.out
    rw [hd, Bool.false_and] at k1
    subst k1
    have k2 := HFA.out
    rw [if_neg (by simp)] at k2
    subst k2
    clear hd q2
    go_wp2_with (first | (refine wpList_load_row rfl 111 _ rfl w.heap.size rfl _ _ _ _ HA0'.out.1 g1 rfl (infoArr HX.out) ?_) | (refine wpList_store_row rfl 111 _ _ rfl (w.heap.size + 1 + 1) _ rfl rfl _ _ HA2'.out.1 (infoArr HX.out) (by simp [arr_length, HX.out, zeros_length]) (arr_all _) ?_))
    refine bodyPost_ret (v := .tuple #[.agg (arr xs).toArray, .bool false]) (by simp [results, Try.results77, asAddr, run_loadVar_row _ (w.heap.size + 1 + 1) 111 111 _ _ _ (setRow_heap _ _ _ _ _ _ HA2'.out.1) g1 rfl (infoArr HX.out)]) rfl ⟨rfl, ?_⟩
    exact below_setRow hw1 (by omega) _
  | true =>
    have k1 := HFO.out
    rw [hd, Bool.true_and] at k1
    have HFO2 := Lib.hid k1
    clear hd k1 HFO
    go_wp2_with (refine wpList_load_row rfl 111 _ rfl w.heap.size rfl _ _ _ _ HA0'.out.1 g1 rfl (infoArr HX.out) ?_)
    refine (withoutPlaces_any xs HX.out _ t.1 _ lo (HV.out.1.keep (Carries.of lo hw1)) hn HI.out).mono ?_
    rintro e w2 ⟨rfl, hb⟩
    rw [← HR1.out]
    have hw2 : Below w.heap.size w w2 := hw1.trans (hb.mono hw1.size)
    have d0 := cell_carry c0 (Carries.of 0 hb)
    have d1 := cell_carry c1 (Carries.of 0 hb)
    have HB0 := Lib.hid (HA0'.out.after hb)
    have HB2 := Lib.hid (HA2'.out.after hb)
    have hz2 : w.heap.size + 1 + 1 < w2.heap.size := by have := hb.size; omega
    clear hb c0 c1 HA0' HA2'
    have HN := Lib.hid (ArrAt.new w2 zeros_length)
    have hS : Hid (ArrAt ((w2.alloc (.cells (arr zeros).toArray 111)).setRow w2.heap.size (arr R1).toArray) w2.heap.size R1) := ⟨setRow_heap _ _ _ _ _ _ HN.out.1, l1⟩
    have hbS : Hid (Below w2.heap.size w2 ((w2.alloc (.cells (arr zeros).toArray 111)).setRow w2.heap.size (arr R1).toArray)) := below_setRow ((Below.refl _ _).alloc (Nat.le_refl _) _) (Nat.le_refl _) _
    go_wp2_with (refine wpList_store_row rfl 111 _ _ rfl w2.heap.size _ rfl rfl _ _ HN.out.1 (infoArr l1) (by simp [arr_length, l1, zeros_length]) (arr_all _) ?_)
    change Code.wp _ _ _ _ ((w2.alloc (.cells (arr zeros).toArray 111)).setRow w2.heap.size (arr R1).toArray)
    generalize (w2.alloc (.cells (arr zeros).toArray 111)).setRow w2.heap.size (arr R1).toArray = W at hS hbS ⊢
    have hwW : Below w.heap.size w W := hw2.trans (hbS.out.mono hw2.size)
    have e0 := cell_carry d0 (Carries.of 0 hbS.out)
    have e1 := cell_carry d1 (Carries.of 0 hbS.out)
    have HC0 := Lib.hid (HB0.out.after hbS.out)
    have HC2 := Lib.hid (HB2.out.after hbS.out)
    have hzW : w.heap.size + 1 + 1 < W.heap.size := by have := hbS.out.size; omega
    have hz3 : w2.heap.size < W.heap.size := hS.out.lt
    clear HN hbS d0 d1 HB0 HB2
    refine wp_region_held_drew (S := fun w' => w'.cell? ⟨w.heap.size + 1, 1, none⟩ = some (.slice a1 t.2.length k1) ∧ w'.rangeAt w2.heap.size 0 (arr R1)) (by kernel_rfl) ⟨e1, hS.out.range⟩ (fun hHeld => ?_)
    have f0 : W.drew.cell? ⟨w.heap.size + 1, 0, none⟩ = some (.slice a0 t.1.length k0) := e0
    have f1 : W.drew.cell? ⟨w.heap.size + 1, 1, none⟩ = some (.slice a1 t.2.length k1) := e1
    have HD0 : ArrAt W.drew w.heap.size xs := HC0.out
    have HD2 : ArrAt W.drew (w.heap.size + 1 + 1) zeros := HC2.out
    have HDR : ArrAt W.drew w2.heap.size R1 := hS.out
    have hwD := hwW.drew
    have hzD : w.heap.size + 1 + 1 < W.drew.heap.size := hzW
    generalize W.drew = V at hHeld f0 f1 HD0 HD2 HDR hwD hzD ⊢
    clear e0 e1 HC0 HC2 hS hwW hzW hz3
    refine tk0 (by kernel_rfl) (by kernel_rfl) (by kernel_rfl) (by first | exact fun _ _ _ h => h | exact fun _ _ _ h => absurd h.1 (by simp)) (yieldsIf_load_mid (by rfl) _ _ rfl _ _ rfl _ _ (fun w hS => hS.2) g1 rfl g2) (by assumption) ?_
    try simp only [Act.put, List.setIfInBounds_toArray, List.set_cons_zero, List.set_cons_succ]
    refine tk1 (v := ?_) (by kernel_rfl) (by kernel_rfl) (by kernel_rfl) (by first | exact fun _ _ _ h => h | exact fun _ _ _ h => absurd h.1 (by simp)) (Or.inl ⟨by rfl, ?_⟩) (by assumption) ?_
    rotate_left 1
    focus (intro wx hSw; (try dsimp only at hSw); go_simp; try (with_reducible rfl))
    try simp only [Act.put, List.setIfInBounds_toArray, List.set_cons_zero, List.set_cons_succ]
    refine tk2 (v := ?_) (by kernel_rfl) (by kernel_rfl) (by kernel_rfl) (by first | exact fun _ _ _ h => h | exact fun _ _ _ h => absurd h.1 (by simp)) (Or.inl ⟨by rfl, ?_⟩) (by assumption) ?_
    rotate_left 1
    focus (intro wx hSw; (try dsimp only at hSw); go_simp; try (with_reducible rfl))
    try simp only [Act.put, List.setIfInBounds_toArray, List.set_cons_zero, List.set_cons_succ]
    refine tk4 (by kernel_rfl) (by kernel_rfl) (by kernel_rfl) (by first | exact fun _ _ _ h => h | exact fun _ _ _ h => absurd h.1 (by simp)) (yieldsIf_load_mid (by rfl) _ _ rfl _ _ rfl _ _ (fun w hS => hS.2) g1 rfl g2) (by assumption) ?_
    try simp only [Act.put, List.setIfInBounds_toArray, List.set_cons_zero, List.set_cons_succ]
    refine rd3 (by kernel_rfl) (fun K hK => ?_)
    go_simp
    refine (withoutPlaces_any R1 l1 _ t.2 _ lo (HV.out.2.keep (Carries.of lo hwD)) hm HJ.out).mono ?_
    rintro e w3 ⟨rfl, hb⟩
    rw [← HR2.out]
    refine hK.out _ _ ⟨cell_carry f1 (Carries.of 0 hb), (HDR.after hb).range⟩ (fun hHeld => ?_)
    clear hK K
    try simp only [Act.put, List.setIfInBounds_toArray, List.set_cons_zero, List.set_cons_succ]
    have hw3 : Below w.heap.size w w3 := hwD.trans (hb.mono hwD.size)
    have m0 := cell_carry f0 (Carries.of 0 hb)
    have m1 := cell_carry f1 (Carries.of 0 hb)
    have HE0 := Lib.hid (HD0.after hb)
    have HE2 := Lib.hid (HD2.after hb)
    have HER := Lib.hid (HDR.after hb)
    have hz4 : w.heap.size + 1 + 1 < w3.heap.size := by have := hb.size; omega
    clear hb f0 f1 HD0 HD2 HDR hzD
    rw [HFO2.out] at q2
    refine tk5 (v := ?_) (by kernel_rfl) (by kernel_rfl) (by kernel_rfl) (by first | exact fun _ _ _ h => h | exact fun _ _ _ h => absurd h.1 (by simp)) (Or.inl ⟨by rfl, ?_⟩) (by assumption) ?_
    rotate_left 1
    focus (intro wx hSw; (try dsimp only at hSw); go_simp; try (with_reducible rfl))
    try simp only [Act.put, List.setIfInBounds_toArray, List.set_cons_zero, List.set_cons_succ]
    refine wpAnyH_done (by kernel_rfl) ?_ _
    clear q2 hHeld
    cases FO with
    | false =>
      have k2 := HFA.out
      rw [if_neg (by simp)] at k2
      subst k2
      go_wp2_with (first | (refine wpList_load_row rfl 111 _ rfl w.heap.size rfl _ _ _ _ HE0.out.1 g1 rfl (infoArr HX.out) ?_) | (refine wpList_store_row rfl 111 _ _ rfl (w.heap.size + 1 + 1) _ rfl rfl _ _ HE2.out.1 (infoArr HX.out) (by simp [arr_length, HX.out, zeros_length]) (arr_all _) ?_))
      refine bodyPost_ret (v := .tuple #[.agg (arr xs).toArray, .bool false]) (by simp [results, Try.results77, asAddr, run_loadVar_row _ (w.heap.size + 1 + 1) 111 111 _ _ _ (setRow_heap _ _ _ _ _ _ HE2.out.1) g1 rfl (infoArr HX.out)]) rfl ⟨rfl, ?_⟩
      exact below_setRow hw3 (by omega) _
    | true =>
      have k2 := HFA.out
      rw [if_pos rfl] at k2
      subst k2
      go_wp2_with (refine wpList_load_row rfl 111 _ rfl w2.heap.size rfl _ _ _ _ HER.out.1 g1 rfl (infoArr l1) ?_)
      refine (withPlaces_any R1 l1 _ t.2 _ lo (HV.out.2.keep (Carries.of lo hw3)) hm HJ.out).mono ?_
      rintro e w4 ⟨rfl, hb⟩
      rw [← HR3.out]
      have hw4 : Below w.heap.size w w4 := hw3.trans (hb.mono hw3.size)
      have HG2 := Lib.hid (HE2.out.after hb)
      clear hb
      go_wp2_with (refine wpList_store_row rfl 111 _ _ rfl (w.heap.size + 1 + 1) _ rfl rfl _ _ HG2.out.1 (infoArr l3) (by simp [arr_length, l3, zeros_length]) (arr_all _) ?_)
      refine bodyPost_ret (v := .tuple #[.agg (arr R3).toArray, .bool true]) (by simp [results, Try.results77, asAddr, run_loadVar_row _ (w.heap.size + 1 + 1) 111 111 _ _ _ (setRow_heap _ _ _ _ _ _ HG2.out.1) g1 rfl (infoArr l3)]) rfl ⟨rfl, ?_⟩
      exact below_setRow hw4 (by omega) _

end Go.Proofs.Ytigkgfdnnfmmmaa
