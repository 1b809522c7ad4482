/-
  WALKS: transitionName of the program, l2Text of the model; TransitionName of both.
-/
import Derived.Test.YtjelnlhalpoinaaDoorTn
namespace Go.Proofs.YtjelnlhalpoinaaDoor
open Go.RowKit

theorem Itoa_at (n : Nat) (x : Int) (hx : x = (n : Int)) (w : World) (h2 : n < 100) :
    Calls Tryd.prog 82 #[.int .i64 x] w (fun e w' => e = .returned (.string (num2 n)) ∧ w' = w) := by
  subst hx; exact Itoa_any n w h2
theorem l1Num_at (n : Nat) (x : Int) (hx : x = (n : Int)) (w : World) (h2 : n < 100) :
    Calls Tryd.prog 78 #[.int .i64 x] w (RetV w (.string (num2 n))) := by
  subst hx; exact l1Num_any n w h2

set_option maxRecDepth 100000 in
set_option maxHeartbeats 2000000 in
theorem transitionName_any (p : Int) (a0 : Option Addr) (m c0 : Nat) (vs vl : Value) (ss : List Sig) (ls : List Lab) (t : Nat) (w : World) (lo : Nat) (hv : SigsAt lo w vs ss) (hl : LabsAt lo w vl ls) (hs : SmallSigs ss) (hls : ls.length ≤ 24) (ht : t < ls.length) (hin : LabIn ss.length (lbS ls t) (lbU ls t)) :
    Calls Tryd.prog 43 #[.agg #[.int .i64 p, .slice a0 m c0, vs, vl], .int .i64 t] w (RetV w (.string (nameL ss ls t))) := by
  have hr := rank_place ht
  have hmany := many_le ls t
  have h1 : manyL ls t = 1 → nameL ss ls t = wordL ss (lbS ls t) (lbU ls t) := nameL_one
  have h2 : ¬ manyL ls t = 1 → nameL ss ls t = wordL ss (lbS ls t) (lbU ls t) ++ ⟨#[47]⟩ ++ num2 (rankL ls t + 1) := nameL_more
  have hws := wordL_size hs hin
  have hns : (num2 (rankL ls t + 1)).size ≤ 2 := num2_size
  obtain ⟨R, hR⟩ : ∃ x, x = nameL ss ls t := ⟨_, rfl⟩
  rw [← hR] at h1 h2 ⊢
  clear hR
  obtain ⟨as_, cs_, rfl⟩ := SigsAt.form hv
  obtain ⟨ns, hns_⟩ : ∃ x, x = ss.length := ⟨_, rfl⟩
  rw [← hns_] at hv ⊢
  have HNS := Lib.hid hns_; clear hns_
  have hl0 := hl
  obtain ⟨ao, cap, rfl, hc, hz⟩ := hl
  have HLL := Lib.hid hl0; clear hl0
  have HV := Lib.hid hv; clear hv
  have HS := Lib.hid hs; clear hs
  have HIN := Lib.hid hin; clear hin
  rcases hz with h0 | ⟨b, off, rfl, hlo, hcell⟩
  · omega
  obtain ⟨q0, q1⟩ := hcell t ht
  have zb : b < w.heap.size := by have := cell_old q0; simpa using this
  clear hcell
  try dsimp only at q0 q1
  obtain ⟨M, hM⟩ : ∃ x, x = manyL ls t := ⟨_, rfl⟩
  obtain ⟨r, hr0⟩ : ∃ x, x = rankL ls t := ⟨_, rfl⟩
  rw [← hM] at hr hmany h1 h2
  rw [← hr0] at hr h2 hns
  have HMM : Hid ((labL ls (lbS ls t) (lbU ls t)).length = M) := hM.symm
  clear hM hr0
  obtain ⟨hr1, hr2, hr3⟩ := hr
  have HR2 := Lib.hid hr2; clear hr2
  have HR3 := Lib.hid hr3; clear hr3
  have H1 := Lib.hid h1; clear h1
  have H2 := Lib.hid h2; clear h2
  obtain ⟨wd, hwd⟩ : ∃ x, x = wordL ss (lbS ls t) (lbU ls t) := ⟨_, rfl⟩
  rw [← hwd] at H1 H2 hws
  have HWD := Lib.hid hwd; clear hwd
  generalize lbS ls t = x at q0 HIN HMM HR2 HR3 HWD
  generalize lbU ls t = y at q1 HIN HMM HR2 HR3 HWD
  go_enter Tryd.func43, Tryd.ntmps43
  go_wp2_with fail
  have hW : Below w.heap.size w (w.alloc (.cells #[.int .i64 p, .slice a0 m c0, .slice as_ ns cs_, .slice (some ⟨b, off, none⟩) ls.length cap] 72)) := by (repeat' (first | (with_reducible exact Below.refl _ _) | (with_reducible assumption) | (with_reducible refine Below.alloc ?_ ?_ _) | (with_reducible refine Below.drew ?_) | (with_reducible refine below_drewN ?_ _) | (with_reducible refine Below.setCell ?_ ?_ _) | go_size))
  have x0 : (w.alloc (.cells #[.int .i64 p, .slice a0 m c0, .slice as_ ns cs_, .slice (some ⟨b, off, none⟩) ls.length cap] 72)).cell? ⟨w.heap.size, 0, none⟩ = some (.int .i64 p) := by simp
  have x1 : (w.alloc (.cells #[.int .i64 p, .slice a0 m c0, .slice as_ ns cs_, .slice (some ⟨b, off, none⟩) ls.length cap] 72)).cell? ⟨w.heap.size, 1, none⟩ = some (.slice a0 m c0) := by simp
  have x2 : (w.alloc (.cells #[.int .i64 p, .slice a0 m c0, .slice as_ ns cs_, .slice (some ⟨b, off, none⟩) ls.length cap] 72)).cell? ⟨w.heap.size, 2, none⟩ = some (.slice as_ ns cs_) := by simp
  have x3 : (w.alloc (.cells #[.int .i64 p, .slice a0 m c0, .slice as_ ns cs_, .slice (some ⟨b, off, none⟩) ls.length cap] 72)).cell? ⟨w.heap.size, 3, none⟩ = some (.slice (some ⟨b, off, none⟩) ls.length cap) := by simp
  have q0 := Carries.of lo hW _ _ hlo q0
  have q1 := Carries.of lo hW _ _ hlo q1
  generalize w.alloc (.cells #[.int .i64 p, .slice a0 m c0, .slice as_ ns cs_, .slice (some ⟨b, off, none⟩) ls.length cap] 72) = W at hW x0 x1 x2 x3 q0 q1 ⊢
  have zW := hW.size
  go_still_tail 6, (by kernel_rfl)
  change wpList _ _ _ _ _ W.drew
  go_wp2_with fail
  refine (labelText_any _ _ _ _ _ _ _ _ ss x y _ lo ((HV.out.keep (Carries.of lo hW)).keep (Carries.of lo (Below.refl _ _).drew)) HS.out HIN.out).mono ?_
  rintro e w1 ⟨rfl, hb⟩
  rw [← HWD.out]
  have hb' : Below W.heap.size W w1 := Below.trans (b := W.drew) (Below.refl _ _).drew (hb.mono (by simp))
  clear hb
  have hw1 : Below w.heap.size w w1 := hW.trans (hb'.mono zW)
  have x0 := cell_carry x0 (Carries.of 0 hb')
  have x1 := cell_carry x1 (Carries.of 0 hb')
  have x2 := cell_carry x2 (Carries.of 0 hb')
  have x3 := cell_carry x3 (Carries.of 0 hb')
  have q0 := cell_carry q0 (Carries.of 0 hb')
  have q1 := cell_carry q1 (Carries.of 0 hb')
  clear hb'
  go_wp2_with fail
  go_still_tail 6, (by kernel_rfl)
  change wpList _ _ _ _ _ w1.drew
  go_wp2_with fail
  refine (labelledWith_any _ _ _ _ _ _ _ _ ls x y _ lo ((HLL.out.keep (Carries.of lo hw1)).keep (Carries.of lo (Below.refl _ _).drew)) (by omega)).mono ?_
  rintro e w2 ⟨u, rfl, hi, hb⟩
  have hb' : Below w1.heap.size w1 w2 := Below.trans (b := w1.drew) (Below.refl _ _).drew (hb.mono (by simp))
  clear hb
  have hw2 : Below w.heap.size w w2 := hw1.trans (hb'.mono hw1.size)
  clear hb' x0 x1 x2 x3 q0 q1
  have hat := hi.at
  obtain ⟨au, cu, rfl, hcu, _⟩ := id hi
  rw [HMM.out] at hat hcu ⊢
  have HAT := Lib.hid hat; clear hat hi
  by_cases hm1 : M = 1
  · have e := H1.out hm1
    subst e
    have t1 : ((M : Int) == 1) = true := by rw [beq_iff_eq]; omega
    clear hm1
    go_wp2_with fail
    go_ret
    exact ⟨rfl, hw2⟩
  · have e := H2.out hm1
    have t1 : ((M : Int) == 1) = false := by rw [beq_eq_false_iff_ne]; omega
    clear hm1
    go_wp2_with fail
    refine (Indexi_at _ (labL ls x y) (t : Int) r _ _ HAT.out (by rw [HMM.out]; omega) (by rw [HMM.out]; exact hr1) HR2.out HR3.out).mono ?_
    rintro e w3 ⟨rfl, hb⟩
    have hw3 : Below w.heap.size w w3 := hw2.trans (hb.mono hw2.size)
    clear hb
    have HE := Lib.hid e; clear e
    have hsz : (wd ++ ⟨#[47]⟩).size = wd.size + 1 := by rw [ByteArray.size_append]; rfl
    go_wp2_with fail
    refine (Itoa_at (r + 1) _ (by omega) _ (by omega)).mono ?_
    rintro e w4 ⟨rfl, rfl⟩
    obtain ⟨nu, hnu⟩ : ∃ x, x = num2 (r + 1) := ⟨_, rfl⟩
    rw [← hnu] at hns HE ⊢
    clear hnu
    have e2 := HE.out
    subst e2
    go_wp2_with fail
    go_ret
    exact ⟨rfl, hw3⟩

set_option maxRecDepth 100000 in
set_option maxHeartbeats 2000000 in
theorem l2Text_any (p : Int) (a0 : Option Addr) (m c0 : Nat) (st : ByteArray) (vs vl : Value) (ss : List Sig) (ls : List Lab) (t : Nat) (w : World) (lo : Nat) (hv : SigsAt lo w vs ss) (hl : LabsAt lo w vl ls) (hs : SmallSigs ss) (hls : ls.length ≤ 24) (ht : t < ls.length) (hin : LabIn ss.length (lbS ls t) (lbU ls t)) :
    Calls Tryd.prog 37 #[.agg #[.int .i64 p, .slice a0 m c0, vs, vl, .string st], .int .i64 t] w (RetV w (.string (nameL ss ls t))) := by
  have hr := rank_place ht
  have hmany := many_le ls t
  have h1 : manyL ls t = 1 → nameL ss ls t = wordL ss (lbS ls t) (lbU ls t) := nameL_one
  have h2 : ¬ manyL ls t = 1 → nameL ss ls t = wordL ss (lbS ls t) (lbU ls t) ++ (⟨#[47]⟩ ++ num2 (rankL ls t + 1)) := nameL_more'
  have hws := wordL_size hs hin
  have hns : (num2 (rankL ls t + 1)).size ≤ 2 := num2_size
  obtain ⟨R, hR⟩ : ∃ x, x = nameL ss ls t := ⟨_, rfl⟩
  rw [← hR] at h1 h2 ⊢
  clear hR
  obtain ⟨as_, cs_, rfl⟩ := SigsAt.form hv
  obtain ⟨ns, hns_⟩ : ∃ x, x = ss.length := ⟨_, rfl⟩
  rw [← hns_] at hv ⊢
  have HNS := Lib.hid hns_; clear hns_
  obtain ⟨ao, cap, rfl, hc, hz⟩ := hl
  have HV := Lib.hid hv; clear hv
  have HS := Lib.hid hs; clear hs
  have HIN := Lib.hid hin; clear hin
  rcases hz with h0 | ⟨b, off, rfl, hlo, hcell⟩
  · omega
  obtain ⟨q0, q1⟩ := hcell t ht
  have zb : b < w.heap.size := by have := cell_old q0; simpa using this
  try dsimp only at q0 q1
  have HC := Lib.hid hcell; clear hcell
  obtain ⟨f, hf⟩ : ∃ f, f = labIs ls (lbS ls t) (lbU ls t) := ⟨_, rfl⟩
  have hfk : ∀ k, f k = (decide (lbS ls k = lbS ls t) && decide (lbU ls k = lbU ls t)) := fun k => by rw [hf]; rfl
  have hM : manyL ls t = (enTo f ls.length).length := by rw [hf]; rfl
  have hr0 : rankL ls t = (enTo f t).length := by rw [hf]; rfl
  clear hf
  rw [hM] at hr hmany h1 h2
  rw [hr0] at hr h2 hns
  clear hM hr0
  have hr1 := hr.1
  clear hr
  have H1 := Lib.hid h1; clear h1
  have H2 := Lib.hid h2; clear h2
  obtain ⟨wd, hwd⟩ : ∃ x, x = wordL ss (lbS ls t) (lbU ls t) := ⟨_, rfl⟩
  rw [← hwd] at H1 H2 hws
  have HWD := Lib.hid hwd; clear hwd
  have HFK := Lib.hid hfk; clear hfk
  generalize lbS ls t = x at q0 HIN HWD HFK
  generalize lbU ls t = y at q1 HIN HWD HFK
  have Q0 := Lib.hid q0; clear q0
  have Q1 := Lib.hid q1; clear q1
  go_enter Tryd.func37, Tryd.ntmps37
  go_wp2_with fail
  have hW : Below w.heap.size w (w.alloc (.cells #[.int .i64 p, .slice a0 m c0, .slice as_ ns cs_, .slice (some ⟨b, off, none⟩) ls.length cap, .string st] 38)) := by (repeat' (first | (with_reducible exact Below.refl _ _) | (with_reducible assumption) | (with_reducible refine Below.alloc ?_ ?_ _) | (with_reducible refine Below.drew ?_) | (with_reducible refine below_drewN ?_ _) | (with_reducible refine Below.setCell ?_ ?_ _) | go_size))
  have x0 : (w.alloc (.cells #[.int .i64 p, .slice a0 m c0, .slice as_ ns cs_, .slice (some ⟨b, off, none⟩) ls.length cap, .string st] 38)).cell? ⟨w.heap.size, 0, none⟩ = some (.int .i64 p) := by simp
  have x1 : (w.alloc (.cells #[.int .i64 p, .slice a0 m c0, .slice as_ ns cs_, .slice (some ⟨b, off, none⟩) ls.length cap, .string st] 38)).cell? ⟨w.heap.size, 1, none⟩ = some (.slice a0 m c0) := by simp
  have x2 : (w.alloc (.cells #[.int .i64 p, .slice a0 m c0, .slice as_ ns cs_, .slice (some ⟨b, off, none⟩) ls.length cap, .string st] 38)).cell? ⟨w.heap.size, 2, none⟩ = some (.slice as_ ns cs_) := by simp
  have x3 : (w.alloc (.cells #[.int .i64 p, .slice a0 m c0, .slice as_ ns cs_, .slice (some ⟨b, off, none⟩) ls.length cap, .string st] 38)).cell? ⟨w.heap.size, 3, none⟩ = some (.slice (some ⟨b, off, none⟩) ls.length cap) := by simp
  have x4 : (w.alloc (.cells #[.int .i64 p, .slice a0 m c0, .slice as_ ns cs_, .slice (some ⟨b, off, none⟩) ls.length cap, .string st] 38)).cell? ⟨w.heap.size, 4, none⟩ = some (.string st) := by simp
  generalize w.alloc (.cells #[.int .i64 p, .slice a0 m c0, .slice as_ ns cs_, .slice (some ⟨b, off, none⟩) ls.length cap, .string st] 38) = W at hW x0 x1 x2 x3 x4 ⊢
  have zW := hW.size
  have zw : w.heap.size < W.heap.size := by have := cell_old x0; simpa using this
  go_loopw [5, 6, 13] (fun mv av i wr => ∃ k : Nat, k ≤ ls.length ∧ i = .int .i64 k ∧ mv = .int .i64 ((enTo f k).length : Int) ∧ av = .int .i64 ((enTo f (min k t)).length : Int) ∧ Below W.heap.size W wr) (fun _ _ i _ => ls.length - (intOf i).toNat)
  case atStart => exact ⟨0, Nat.zero_le _, rfl, rfl, by simp [enTo_zero], Below.refl _ _⟩
  case round =>
    obtain ⟨k, hk, rfl, rfl, rfl, hb1⟩ := hrel
    have zz1 := hb1.size
    have x0 := cell_keep x0 hb1 (Nat.le_refl _)
    have x1 := cell_keep x1 hb1 (Nat.le_refl _)
    have x2 := cell_keep x2 hb1 (Nat.le_refl _)
    have x3 := cell_keep x3 hb1 (Nat.le_refl _)
    have x4 := cell_keep x4 hb1 (Nat.le_refl _)
    have hwr := hW.trans (hb1.mono zW)
    have q0 := Carries.of lo hwr _ _ hlo Q0.out
    have q1 := Carries.of lo hwr _ _ hlo Q1.out
    by_cases hlt : k < ls.length
    · obtain ⟨d0, d1⟩ := HC.out k hlt
      have d0 := Carries.of lo hwr _ _ hlo d0
      have d1 := Carries.of lo hwr _ _ hlo d1
      try dsimp only at d0 d1
      have hfk := HFK.out k
      have hl1 := enTo_length f k
      have hl2 := enTo_length f (min k t)
      have hmin : min k t ≤ k := Nat.min_le_left _ _
      generalize lbS ls k = x' at d0 hfk
      generalize lbU ls k = y' at d1 hfk
      have hbA : Below wr.heap.size wr (wr.alloc (.cells #[.int .i64 x', .bool y'] 51)) := (Below.refl _ _).alloc (Nat.le_refl _) _
      have q0 := cell_carry q0 (Carries.of 0 hbA)
      have q1 := cell_carry q1 (Carries.of 0 hbA)
      have x3 := cell_carry x3 (Carries.of 0 hbA)
      have HBA := Lib.hid (hb1.trans (hbA.mono zz1))
      clear hbA
      go_wp2_with fail
      have g0 : (wr.alloc (.cells #[.int .i64 x', .bool y'] 51)).cell? ⟨wr.heap.size, 0, none⟩ = some (.int .i64 x') := by simp
      have g1 : (wr.alloc (.cells #[.int .i64 x', .bool y'] 51)).cell? ⟨wr.heap.size, 1, none⟩ = some (.bool y') := by simp
      clear d0 d1 x0 x1 x2 x4 hmin
      generalize wr.alloc (.cells #[.int .i64 x', .bool y'] 51) = W1 at q0 q1 x3 g0 g1 HBA ⊢
      have hA1 : (enTo f k).length ≤ k := enTo_length f k
      obtain ⟨a1, ha1⟩ : ∃ a, a = (enTo f k).length := ⟨_, rfl⟩
      obtain ⟨a2, ha2⟩ : ∃ a, a = (enTo f (min k t)).length := ⟨_, rfl⟩
      rw [← ha1] at hl1 hA1 ⊢
      rw [← ha2] at hl2 ⊢
      have h24a : a1 ≤ 24 := by omega
      have h24b : a2 ≤ 24 := by have := Nat.min_le_left k t; omega
      clear hl2
      have HA1 := Lib.hid ha1; clear ha1
      have HA2 := Lib.hid ha2; clear ha2
      by_cases he : x' = x ∧ y' = y
      · obtain ⟨e0, e1⟩ := he
        subst e0; subst e1
        have hft : f k = true := by rw [hfk]; simp
        have HM1 : Hid ((enTo f (k + 1)).length = a1 + 1) := by unfold Hid; rw [enTo_true hft, HA1.out]; simp
        clear hfk
        by_cases hkt : k < t
        · have HM2 : Hid ((enTo f (min (k + 1) t)).length = a2 + 1) := by unfold Hid; rw [Nat.min_eq_left (by omega), enTo_true hft, HA2.out, Nat.min_eq_left (by omega)]; simp
          clear hft
          go_quiet (fail)
          go_wp2_with fail
          go_roundw
          case rel => exact ⟨k + 1, by omega, by go_num, by rw [HM1.out]; try (first | rfl | go_num), by rw [HM2.out]; try (first | rfl | go_num), below_drewN HBA.out _⟩
          case measure => simp [intOf]; omega
        · have HM2 : Hid ((enTo f (min (k + 1) t)).length = a2) := by unfold Hid; rw [HA2.out, Nat.min_eq_right (by omega), Nat.min_eq_right (by omega)]
          clear hft
          go_quiet (fail)
          go_wp2_with fail
          go_roundw
          case rel => exact ⟨k + 1, by omega, by go_num, by rw [HM1.out]; try (first | rfl | go_num), by rw [HM2.out]; try (first | rfl | go_num), below_drewN HBA.out _⟩
          case measure => simp [intOf]; omega
      · have hff : f k = false := by rw [hfk]; simpa using he
        have HM1 : Hid ((enTo f (k + 1)).length = a1) := by unfold Hid; rw [enTo_false hff, HA1.out]
        have HM2 : Hid ((enTo f (min (k + 1) t)).length = a2) := by
          unfold Hid
          by_cases hkt : k < t
          · rw [Nat.min_eq_left (by omega), enTo_false hff, HA2.out, Nat.min_eq_left (by omega)]
          · rw [HA2.out, Nat.min_eq_right (by omega), Nat.min_eq_right (by omega)]
        clear hff hfk
        by_cases e0 : x' = x
        · subst e0
          have t1 : (y' == y) = false := by simpa using fun h => he ⟨rfl, h⟩
          clear he
          go_quiet (fail)
          go_wp2_with fail
          go_roundw
          case rel => exact ⟨k + 1, by omega, by go_num, by rw [HM1.out]; try (first | rfl | go_num), by rw [HM2.out]; try (first | rfl | go_num), below_drewN HBA.out _⟩
          case measure => simp [intOf]; omega
        · have t0 : (x' == x) = false := by simpa using e0
          clear he e0
          go_quiet (fail)
          go_wp2_with fail
          go_roundw
          case rel => exact ⟨k + 1, by omega, by go_num, by rw [HM1.out]; try (first | rfl | go_num), by rw [HM2.out]; try (first | rfl | go_num), below_drewN HBA.out _⟩
          case measure => simp [intOf]; omega
    · have hkk : k = ls.length := by omega
      subst hkk
      rw [Nat.min_eq_right (by omega)]
      obtain ⟨M, hM⟩ : ∃ a, a = (enTo f ls.length).length := ⟨_, rfl⟩
      obtain ⟨r, hr⟩ : ∃ a, a = (enTo f t).length := ⟨_, rfl⟩
      rw [← hM] at hmany hr1 H1 H2 ⊢
      rw [← hr] at hr1 H2 hns ⊢
      clear hM hr
      go_wp2_with fail
      go_still_tail 6, (by kernel_rfl)
      change wpList _ _ _ _ _ wr.drew
      go_wp2_with fail
      refine (l2Word_any _ _ _ _ _ _ _ _ _ ss x y _ lo ((HV.out.keep (Carries.of lo hwr)).keep (Carries.of lo (Below.refl _ _).drew)) HS.out HIN.out).mono ?_
      rintro e w1 ⟨rfl, hb⟩
      rw [← HWD.out]
      have hw1 : Below w.heap.size w w1 := hwr.trans ((Below.trans (b := wr.drew) (Below.refl _ _).drew (hb.mono (by simp))).mono hwr.size)
      clear hb x0 x1 x2 x3 x4 q0 q1
      by_cases hm1 : M = 1
      · have e := H1.out hm1
        subst e
        have t1 : ¬ (1 : Int) < (M : Int) := by omega
        go_wp2_with fail
        go_ret
        exact ⟨rfl, hw1⟩
      · have e := H2.out hm1
        have t1 : (1 : Int) < (M : Int) := by omega
        have HE := Lib.hid e; clear e
        go_wp2_with fail
        refine (l1Num_at (r + 1) _ (by omega) _ (by omega)).mono ?_
        rintro e w4 ⟨rfl, hb⟩
        have hw4 : Below w.heap.size w w4 := hw1.trans (hb.mono hw1.size)
        clear hb
        obtain ⟨nu, hnu⟩ : ∃ x, x = num2 (r + 1) := ⟨_, rfl⟩
        rw [← hnu] at hns HE ⊢
        clear hnu
        have hsz : ((⟨#[47]⟩ : ByteArray) ++ nu).size = nu.size + 1 := by rw [ByteArray.size_append]; show 1 + _ = _; omega
        have e2 := HE.out
        subst e2
        go_wp2_with fail
        go_ret
        exact ⟨rfl, hw4⟩

end Go.Proofs.YtjelnlhalpoinaaDoor
