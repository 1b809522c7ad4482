/- WALKS: haveFreeChoice. -/
import Derived.Test.YtkkfglolameogaaVArrb
namespace Go.Proofs.Ytkkfglolameogaa
open Go.RowKit

/-- behind a region: two blocks hold two markings, the frame is as given -/
def TwoArr (B : Nat) (w : World) (c0 c1 : Value) (xs ys : List UInt8) (mk : Value → Value → Act) (e : Exit) (a' : Act) (w' : World) : Prop :=
  e = .normal ∧ ∃ b c : Nat, a' = mk (.pointer (some ⟨b, 0, none⟩)) (.pointer (some ⟨c, 0, none⟩)) ∧ ArrAt w' b xs ∧ ArrAt w' c ys ∧ Below w.heap.size w w' ∧ w'.cell? ⟨B, 0, none⟩ = some c0 ∧ w'.cell? ⟨B + 1, 0, none⟩ = some c1

/-- the program's test of two transitions for free choice -/
def freeB (t s : Tr) : Bool := (putAll 49 blank t.1 == putAll 49 blank s.1) || (putAll 48 (putAll 49 blank t.1) s.1 == putAll 49 blank t.1)

set_option maxRecDepth 100000 in
set_option maxHeartbeats 4000000 in
theorem haveFreeChoice_any (v0 v1 u0 u1 : Value) (t s : Tr) (w : World) (lo lo' : Nat) (hv : TrAt lo w v0 v1 t) (hu : TrAt lo' w u0 u1 s)
    (hn : t.1.length ≤ 1048576) (hm : s.1.length ≤ 1048576) (hin : InArr t.1) (him : InArr s.1) :
    Calls Try.prog 110 #[.agg #[v0, v1], .agg #[u0, u1]] w (RetB w (freeB t s)) := by
  have hv' := hv
  have hu' := hu
  obtain ⟨⟨a0, k0, rfl, _, _⟩, ⟨a1, k1, rfl, _, _⟩⟩ := hv'
  obtain ⟨⟨b0, m0, rfl, _, _⟩, ⟨b1, m1, rfl, _, _⟩⟩ := hu'
  have HV := Lib.hid hv; clear hv
  have HU := Lib.hid hu; clear hu
  have HI := Lib.hid hin; clear hin
  have HJ := Lib.hid him; clear him
  unfold freeB
  have l1 : (putAll 49 blank t.1).length = 30 := by rw [putAll_length]; exact blank_length
  have l2 : (putAll 49 blank s.1).length = 30 := by rw [putAll_length]; exact blank_length
  have l3 : (putAll 48 (putAll 49 blank t.1) s.1).length = 30 := by rw [putAll_length]; exact l1
  have q1 := fun w => eqlArr (putAll 49 blank t.1) (putAll 49 blank s.1) l1 l2 w
  have q2 := fun w => eqlArr (putAll 48 (putAll 49 blank t.1) s.1) (putAll 49 blank t.1) l3 l1 w
  generalize hR1 : (putAll 49 blank t.1 == putAll 49 blank s.1) = r1 at q1 ⊢
  generalize hR2 : (putAll 48 (putAll 49 blank t.1) s.1 == putAll 49 blank t.1) = r2 at q2 ⊢
  obtain ⟨X, hX⟩ : ∃ X, X = putAll 49 blank t.1 := ⟨_, rfl⟩
  obtain ⟨Y, hY⟩ : ∃ Y, Y = putAll 49 blank s.1 := ⟨_, rfl⟩
  obtain ⟨Z, hZ⟩ : ∃ Z, Z = putAll 48 (putAll 49 blank t.1) s.1 := ⟨_, rfl⟩
  rw [← hZ] at l3 q2
  rw [← hX] at l1 q1 q2
  rw [← hY] at l2 q1
  rw [← hX] at hZ
  clear hR1 hR2
  have HX := Lib.hid hX; clear hX
  have HY := Lib.hid hY; clear hY
  have HZ := Lib.hid hZ; clear hZ
  have g1 := Try.underlying118
  have g2 : (Try.prog.info? 118).map (·.size) = some (arr X).length := by rw [arr_length, l1]; exact Try.infoArr
  have g3 : (Try.prog.info? 118).map (·.size) = some (arr Y).length := by rw [arr_length, l2]; exact Try.infoArr
  go_enter Try.func110, Try.ntmps110
  go_wp2_with fail
  have hbW : Below w.heap.size w ((w.alloc (.cells #[.slice a0 t.1.length k0, .slice a1 t.2.length k1] 64)).alloc (.cells #[.slice b0 s.1.length m0, .slice b1 s.2.length m1] 64)) := by (repeat' (first | (with_reducible exact Below.refl _ _) | (with_reducible assumption) | (with_reducible refine Below.alloc ?_ ?_ _) | (with_reducible refine Below.drew ?_) | (with_reducible refine below_drewN ?_ _) | (with_reducible refine Below.setCell ?_ ?_ _) | go_size))
  have c0 : ((w.alloc (.cells #[.slice a0 t.1.length k0, .slice a1 t.2.length k1] 64)).alloc (.cells #[.slice b0 s.1.length m0, .slice b1 s.2.length m1] 64)).cell? ⟨w.heap.size, 0, none⟩ = some (.slice a0 t.1.length k0) := by simp
  have c1 : ((w.alloc (.cells #[.slice a0 t.1.length k0, .slice a1 t.2.length k1] 64)).alloc (.cells #[.slice b0 s.1.length m0, .slice b1 s.2.length m1] 64)).cell? ⟨w.heap.size + 1, 0, none⟩ = some (.slice b0 s.1.length m0) := by simp
  generalize (w.alloc (.cells #[.slice a0 t.1.length k0, .slice a1 t.2.length k1] 64)).alloc (.cells #[.slice b0 s.1.length m0, .slice b1 s.2.length m1] 64) = W at hbW c0 c1 ⊢
  refine Code.wp_mono (Q := TwoArr w.heap.size W (.slice a0 t.1.length k0) (.slice b0 s.1.length m0) X Y (fun p q => { tmps := #[.agg #[.slice a0 t.1.length k0, .slice a1 t.2.length k1], .agg #[.slice b0 s.1.length m0, .slice b1 s.2.length m1], .pointer (some ⟨w.heap.size, 0, none⟩), .pointer (some ⟨w.heap.size + 1, 0, none⟩), .bool false, p, q, .pointer (some ⟨w.heap.size, 0, none⟩), .slice a0 t.1.length k0, .agg (arr X).toArray, .pointer (some ⟨w.heap.size + 1, 0, none⟩), .slice b0 s.1.length m0, .agg (arr Y).toArray, undef, undef, undef, undef, undef, undef, undef, undef, undef, undef, undef], defers := [] })) ?_ ?_
  rotate_left 1
  · have HVW := HV.out.keep (Carries.of lo hbW)
    have HUW := HU.out.keep (Carries.of lo' hbW)
    clear HV HU
    refine wp_region_held_drew (S := fun w' => w'.cell? ⟨w.heap.size, 0, none⟩ = some (.slice a0 t.1.length k0) ∧ w'.cell? ⟨w.heap.size + 1, 0, none⟩ = some (.slice b0 s.1.length m0)) (by kernel_rfl) ⟨c0, c1⟩ (fun hHeld => ?_)
    have bel0 : Below W.heap.size W W.drew := (Below.refl _ _).drew
    have c0_0 : W.drew.cell? ⟨w.heap.size, 0, none⟩ = some (.slice a0 t.1.length k0) := c0
    have c1_0 : W.drew.cell? ⟨w.heap.size + 1, 0, none⟩ = some (.slice b0 s.1.length m0) := c1
    generalize W.drew = W0 at bel0 c0_0 c1_0 hHeld ⊢
    refine tk0 (v := ?_) (by kernel_rfl) (by kernel_rfl) (by kernel_rfl) (by first | exact fun _ _ _ h => h | exact fun _ _ _ h => absurd h.1 (by simp)) (Or.inl ⟨by rfl, ?_⟩) (by assumption) ?_
    rotate_left 1
    focus (intro wx hSw; (try dsimp only at hSw); go_simp; try (with_reducible rfl))
    try simp only [Act.put, List.setIfInBounds_toArray, List.set_cons_zero, List.set_cons_succ]
    refine tk1 (v := ?_) (by kernel_rfl) (by kernel_rfl) (by kernel_rfl) (by first | exact fun _ _ _ h => h | exact fun _ _ _ h => absurd h.1 (by simp)) (Or.inl ⟨by rfl, ?_⟩) (by assumption) ?_
    rotate_left 1
    focus (intro wx hSw; (try dsimp only at hSw); go_simp; try (with_reducible rfl))
    try simp only [Act.put, List.setIfInBounds_toArray, List.set_cons_zero, List.set_cons_succ]
    refine tk3 (v := ?_) (by kernel_rfl) (by kernel_rfl) (by kernel_rfl) (by first | exact fun _ _ _ h => h | exact fun _ _ _ h => absurd h.1 (by simp)) (Or.inl ⟨by rfl, ?_⟩) (by assumption) ?_
    rotate_left 1
    focus (intro wx hSw; (try dsimp only at hSw); go_simp; try (with_reducible rfl))
    try simp only [Act.put, List.setIfInBounds_toArray, List.set_cons_zero, List.set_cons_succ]
    refine tk4 (v := ?_) (by kernel_rfl) (by kernel_rfl) (by kernel_rfl) (by first | exact fun _ _ _ h => h | exact fun _ _ _ h => absurd h.1 (by simp)) (Or.inl ⟨by rfl, ?_⟩) (by assumption) ?_
    rotate_left 1
    focus (intro wx hSw; (try dsimp only at hSw); go_simp; try (with_reducible rfl))
    try simp only [Act.put, List.setIfInBounds_toArray, List.set_cons_zero, List.set_cons_succ]
    refine wpAnyH_ready (rs := [2, 6, 7]) (by kernel_rfl) (by simp) ?_
    refine ar2 (fun K hK => ?_) ?_
    ·
      go_simp
      refine (onlyPlaces_any _ t.1 W0 lo (HVW.1.keep (Carries.of lo bel0)) hn HI.out).mono ?_
      rintro e W1 ⟨rfl, hb1⟩
      have bel1 : Below W.heap.size W W1 := bel0.trans (hb1.mono bel0.size)
      have c0_1 := cell_carry c0_0 (Carries.of 0 hb1)
      have c1_1 := cell_carry c1_0 (Carries.of 0 hb1)
      rw [← HX.out]
      refine hK.out _ _ ⟨c0_1, c1_1⟩ (fun hHeld => ?_)
      clear hK K
      try simp only [Act.put, List.setIfInBounds_toArray, List.set_cons_zero, List.set_cons_succ]
      refine wpAnyH_ready (rs := [5, 6, 7]) (by kernel_rfl) (by simp) ?_
      refine ar5 (fun K hK => ?_) ?_
      ·
        go_simp
        refine (onlyPlaces_any _ s.1 W1 lo' (HUW.1.keep (Carries.of lo' bel1)) hm HJ.out).mono ?_
        rintro e W2 ⟨rfl, hb2⟩
        have bel2 : Below W.heap.size W W2 := bel1.trans (hb2.mono bel1.size)
        have c0_2 := cell_carry c0_1 (Carries.of 0 hb2)
        have c1_2 := cell_carry c1_1 (Carries.of 0 hb2)
        rw [← HY.out]
        refine hK.out _ _ ⟨c0_2, c1_2⟩ (fun hHeld => ?_)
        clear hK K
        try simp only [Act.put]
        refine wpAnyH_ready (rs := [6, 7]) (by kernel_rfl) (by simp) ?_
        refine ar6 (fun K hK => ?_) ?_
        ·
          go_simp
          have hb3 : Below W2.heap.size W2 (W2.alloc (.cells (arr zeros).toArray 118)) := (Below.refl _ _).alloc (Nat.le_refl _) _
          have new3 := ArrAt.new W2 zeros_length
          change K _ (W2.alloc (.cells (arr zeros).toArray 118))
          generalize W2.alloc (.cells (arr zeros).toArray 118) = W3 at hb3 new3 ⊢
          have bel3 : Below W.heap.size W W3 := bel2.trans (hb3.mono bel2.size)
          have c0_3 := cell_carry c0_2 (Carries.of 0 hb3)
          have c1_3 := cell_carry c1_2 (Carries.of 0 hb3)
          have bge3_p5 : W.heap.size ≤ W2.heap.size := bel2.size
          refine hK.out _ _ ⟨c0_3, c1_3⟩ (fun hHeld => ?_)
          clear hK K
          try simp only [Act.put]
          refine rd7 (by kernel_rfl) (fun K hK => ?_)
          go_simp
          have hb4 : Below W3.heap.size W3 (W3.alloc (.cells (arr zeros).toArray 118)) := (Below.refl _ _).alloc (Nat.le_refl _) _
          have new4 := ArrAt.new W3 zeros_length
          change K _ (W3.alloc (.cells (arr zeros).toArray 118))
          generalize W3.alloc (.cells (arr zeros).toArray 118) = W4 at hb4 new4 ⊢
          have bel4 : Below W.heap.size W W4 := bel3.trans (hb4.mono bel3.size)
          have c0_4 := cell_carry c0_3 (Carries.of 0 hb4)
          have c1_4 := cell_carry c1_3 (Carries.of 0 hb4)
          have p5_4 := ArrAt.after new3 hb4
          have ne4_p5 : W2.heap.size ≠ W3.heap.size := Nat.ne_of_lt new3.lt
          have bge4_p6 : W.heap.size ≤ W3.heap.size := bel3.size
          refine hK.out _ _ ⟨c0_4, c1_4⟩ (fun hHeld => ?_)
          clear hK K
          try simp only [Act.put]
          refine rd8 (by kernel_rfl) (fun K hK => ?_)
          rw [if_pos (by rfl)]
          refine wp_store_row 118 _ _ rfl W2.heap.size _ rfl rfl _ _ p5_4.1 (infoArr l1) (by simp [arr_length, l1, zeros_length]) (arr_all _) ?_
          have new5 : ArrAt (W4.setRow W2.heap.size (arr X).toArray) W2.heap.size X := ⟨setRow_heap _ _ _ _ _ _ p5_4.1, l1⟩
          have c0_5 : (W4.setRow W2.heap.size (arr X).toArray).cell? ⟨w.heap.size, 0, none⟩ = some (.slice a0 t.1.length k0) := (World.cell?_of_block (setRow_other _ _ _ _ (by have := bge3_p5; have := cell_old c0; simp at this ⊢; omega))).trans c0_4
          have c1_5 : (W4.setRow W2.heap.size (arr X).toArray).cell? ⟨w.heap.size + 1, 0, none⟩ = some (.slice b0 s.1.length m0) := (World.cell?_of_block (setRow_other _ _ _ _ (by have := bge3_p5; have := cell_old c1; simp at this ⊢; omega))).trans c1_4
          have p6_5 : ArrAt (W4.setRow W2.heap.size (arr X).toArray) W3.heap.size _ := ⟨(setRow_other _ _ _ _ (Ne.symm ne4_p5)).trans new4.1, new4.2⟩
          have bel5 : Below W.heap.size W (W4.setRow W2.heap.size (arr X).toArray) := below_setRow bel4 bge3_p5 _
          generalize W4.setRow W2.heap.size (arr X).toArray = W5 at *
          refine hK.out _ _ ⟨c0_5, c1_5⟩ (fun hHeld => ?_)
          clear hK K
          try simp only [Act.put]
          refine rd9 (by kernel_rfl) (fun K hK => ?_)
          rw [if_pos (by rfl)]
          refine wp_store_row 118 _ _ rfl W3.heap.size _ rfl rfl _ _ p6_5.1 (infoArr l2) (by simp [arr_length, l2, zeros_length]) (arr_all _) ?_
          have new6 : ArrAt (W5.setRow W3.heap.size (arr Y).toArray) W3.heap.size Y := ⟨setRow_heap _ _ _ _ _ _ p6_5.1, l2⟩
          have c0_6 : (W5.setRow W3.heap.size (arr Y).toArray).cell? ⟨w.heap.size, 0, none⟩ = some (.slice a0 t.1.length k0) := (World.cell?_of_block (setRow_other _ _ _ _ (by have := bge4_p6; have := cell_old c0; simp at this ⊢; omega))).trans c0_5
          have c1_6 : (W5.setRow W3.heap.size (arr Y).toArray).cell? ⟨w.heap.size + 1, 0, none⟩ = some (.slice b0 s.1.length m0) := (World.cell?_of_block (setRow_other _ _ _ _ (by have := bge4_p6; have := cell_old c1; simp at this ⊢; omega))).trans c1_5
          have p5_6 : ArrAt (W5.setRow W3.heap.size (arr Y).toArray) W2.heap.size _ := ⟨(setRow_other _ _ _ _ ne4_p5).trans new5.1, new5.2⟩
          have bel6 : Below W.heap.size W (W5.setRow W3.heap.size (arr Y).toArray) := below_setRow bel5 bge4_p6 _
          generalize W5.setRow W3.heap.size (arr Y).toArray = W6 at *
          refine hK.out _ _ ⟨c0_6, c1_6⟩ (fun hHeld => ?_)
          clear hK K
          try simp only [Act.put]
          refine wpAnyH_done (by kernel_rfl) ?_ _
          exact ⟨rfl, _, _, rfl, p5_6, new6, bel6, c0_6, c1_6⟩
        refine ar7 (fun K hK => ?_) ?_
        ·
          go_simp
          have hb7 : Below W2.heap.size W2 (W2.alloc (.cells (arr zeros).toArray 118)) := (Below.refl _ _).alloc (Nat.le_refl _) _
          have new7 := ArrAt.new W2 zeros_length
          change K _ (W2.alloc (.cells (arr zeros).toArray 118))
          generalize W2.alloc (.cells (arr zeros).toArray 118) = W7 at hb7 new7 ⊢
          have bel7 : Below W.heap.size W W7 := bel2.trans (hb7.mono bel2.size)
          have c0_7 := cell_carry c0_2 (Carries.of 0 hb7)
          have c1_7 := cell_carry c1_2 (Carries.of 0 hb7)
          have bge7_p6 : W.heap.size ≤ W2.heap.size := bel2.size
          refine hK.out _ _ ⟨c0_7, c1_7⟩ (fun hHeld => ?_)
          clear hK K
          try simp only [Act.put]
          refine rd6 (by kernel_rfl) (fun K hK => ?_)
          go_simp
          have hb8 : Below W7.heap.size W7 (W7.alloc (.cells (arr zeros).toArray 118)) := (Below.refl _ _).alloc (Nat.le_refl _) _
          have new8 := ArrAt.new W7 zeros_length
          change K _ (W7.alloc (.cells (arr zeros).toArray 118))
          generalize W7.alloc (.cells (arr zeros).toArray 118) = W8 at hb8 new8 ⊢
          have bel8 : Below W.heap.size W W8 := bel7.trans (hb8.mono bel7.size)
          have c0_8 := cell_carry c0_7 (Carries.of 0 hb8)
          have c1_8 := cell_carry c1_7 (Carries.of 0 hb8)
          have p6_8 := ArrAt.after new7 hb8
          have ne8_p6 : W2.heap.size ≠ W7.heap.size := Nat.ne_of_lt new7.lt
          have bge8_p5 : W.heap.size ≤ W7.heap.size := bel7.size
          refine hK.out _ _ ⟨c0_8, c1_8⟩ (fun hHeld => ?_)
          clear hK K
          try simp only [Act.put]
          refine rd8 (by kernel_rfl) (fun K hK => ?_)
          rw [if_pos (by rfl)]
          refine wp_store_row 118 _ _ rfl W7.heap.size _ rfl rfl _ _ new8.1 (infoArr l1) (by simp [arr_length, l1, zeros_length]) (arr_all _) ?_
          have new9 : ArrAt (W8.setRow W7.heap.size (arr X).toArray) W7.heap.size X := ⟨setRow_heap _ _ _ _ _ _ new8.1, l1⟩
          have c0_9 : (W8.setRow W7.heap.size (arr X).toArray).cell? ⟨w.heap.size, 0, none⟩ = some (.slice a0 t.1.length k0) := (World.cell?_of_block (setRow_other _ _ _ _ (by have := bge8_p5; have := cell_old c0; simp at this ⊢; omega))).trans c0_8
          have c1_9 : (W8.setRow W7.heap.size (arr X).toArray).cell? ⟨w.heap.size + 1, 0, none⟩ = some (.slice b0 s.1.length m0) := (World.cell?_of_block (setRow_other _ _ _ _ (by have := bge8_p5; have := cell_old c1; simp at this ⊢; omega))).trans c1_8
          have p6_9 : ArrAt (W8.setRow W7.heap.size (arr X).toArray) W2.heap.size _ := ⟨(setRow_other _ _ _ _ ne8_p6).trans p6_8.1, p6_8.2⟩
          have bel9 : Below W.heap.size W (W8.setRow W7.heap.size (arr X).toArray) := below_setRow bel8 bge8_p5 _
          generalize W8.setRow W7.heap.size (arr X).toArray = W9 at *
          refine hK.out _ _ ⟨c0_9, c1_9⟩ (fun hHeld => ?_)
          clear hK K
          try simp only [Act.put]
          refine rd9 (by kernel_rfl) (fun K hK => ?_)
          rw [if_pos (by rfl)]
          refine wp_store_row 118 _ _ rfl W2.heap.size _ rfl rfl _ _ p6_9.1 (infoArr l2) (by simp [arr_length, l2, zeros_length]) (arr_all _) ?_
          have new10 : ArrAt (W9.setRow W2.heap.size (arr Y).toArray) W2.heap.size Y := ⟨setRow_heap _ _ _ _ _ _ p6_9.1, l2⟩
          have c0_10 : (W9.setRow W2.heap.size (arr Y).toArray).cell? ⟨w.heap.size, 0, none⟩ = some (.slice a0 t.1.length k0) := (World.cell?_of_block (setRow_other _ _ _ _ (by have := bge7_p6; have := cell_old c0; simp at this ⊢; omega))).trans c0_9
          have c1_10 : (W9.setRow W2.heap.size (arr Y).toArray).cell? ⟨w.heap.size + 1, 0, none⟩ = some (.slice b0 s.1.length m0) := (World.cell?_of_block (setRow_other _ _ _ _ (by have := bge7_p6; have := cell_old c1; simp at this ⊢; omega))).trans c1_9
          have p5_10 : ArrAt (W9.setRow W2.heap.size (arr Y).toArray) W7.heap.size _ := ⟨(setRow_other _ _ _ _ (Ne.symm ne8_p6)).trans new9.1, new9.2⟩
          have bel10 : Below W.heap.size W (W9.setRow W2.heap.size (arr Y).toArray) := below_setRow bel9 bge7_p6 _
          generalize W9.setRow W2.heap.size (arr Y).toArray = W10 at *
          refine hK.out _ _ ⟨c0_10, c1_10⟩ (fun hHeld => ?_)
          clear hK K
          try simp only [Act.put]
          refine wpAnyH_done (by kernel_rfl) ?_ _
          exact ⟨rfl, _, _, rfl, p5_10, new10, bel10, c0_10, c1_10⟩
        exact AllReadyH.nil
      refine ar6 (fun K hK => ?_) ?_
      ·
        go_simp
        have hb11 : Below W1.heap.size W1 (W1.alloc (.cells (arr zeros).toArray 118)) := (Below.refl _ _).alloc (Nat.le_refl _) _
        have new11 := ArrAt.new W1 zeros_length
        change K _ (W1.alloc (.cells (arr zeros).toArray 118))
        generalize W1.alloc (.cells (arr zeros).toArray 118) = W11 at hb11 new11 ⊢
        have bel11 : Below W.heap.size W W11 := bel1.trans (hb11.mono bel1.size)
        have c0_11 := cell_carry c0_1 (Carries.of 0 hb11)
        have c1_11 := cell_carry c1_1 (Carries.of 0 hb11)
        have bge11_p5 : W.heap.size ≤ W1.heap.size := bel1.size
        refine hK.out _ _ ⟨c0_11, c1_11⟩ (fun hHeld => ?_)
        clear hK K
        try simp only [Act.put]
        refine wpAnyH_ready (rs := [5, 7]) (by kernel_rfl) (by simp) ?_
        refine ar5 (fun K hK => ?_) ?_
        ·
          go_simp
          refine (onlyPlaces_any _ s.1 W11 lo' (HUW.1.keep (Carries.of lo' bel11)) hm HJ.out).mono ?_
          rintro e W12 ⟨rfl, hb12⟩
          have bel12 : Below W.heap.size W W12 := bel11.trans (hb12.mono bel11.size)
          have c0_12 := cell_carry c0_11 (Carries.of 0 hb12)
          have c1_12 := cell_carry c1_11 (Carries.of 0 hb12)
          have p5_12 := ArrAt.after new11 hb12
          rw [← HY.out]
          refine hK.out _ _ ⟨c0_12, c1_12⟩ (fun hHeld => ?_)
          clear hK K
          try simp only [Act.put]
          refine rd7 (by kernel_rfl) (fun K hK => ?_)
          go_simp
          have hb13 : Below W12.heap.size W12 (W12.alloc (.cells (arr zeros).toArray 118)) := (Below.refl _ _).alloc (Nat.le_refl _) _
          have new13 := ArrAt.new W12 zeros_length
          change K _ (W12.alloc (.cells (arr zeros).toArray 118))
          generalize W12.alloc (.cells (arr zeros).toArray 118) = W13 at hb13 new13 ⊢
          have bel13 : Below W.heap.size W W13 := bel12.trans (hb13.mono bel12.size)
          have c0_13 := cell_carry c0_12 (Carries.of 0 hb13)
          have c1_13 := cell_carry c1_12 (Carries.of 0 hb13)
          have p5_13 := ArrAt.after p5_12 hb13
          have ne13_p5 : W1.heap.size ≠ W12.heap.size := Nat.ne_of_lt p5_12.lt
          have bge13_p6 : W.heap.size ≤ W12.heap.size := bel12.size
          refine hK.out _ _ ⟨c0_13, c1_13⟩ (fun hHeld => ?_)
          clear hK K
          try simp only [Act.put]
          refine rd8 (by kernel_rfl) (fun K hK => ?_)
          rw [if_pos (by rfl)]
          refine wp_store_row 118 _ _ rfl W1.heap.size _ rfl rfl _ _ p5_13.1 (infoArr l1) (by simp [arr_length, l1, zeros_length]) (arr_all _) ?_
          have new14 : ArrAt (W13.setRow W1.heap.size (arr X).toArray) W1.heap.size X := ⟨setRow_heap _ _ _ _ _ _ p5_13.1, l1⟩
          have c0_14 : (W13.setRow W1.heap.size (arr X).toArray).cell? ⟨w.heap.size, 0, none⟩ = some (.slice a0 t.1.length k0) := (World.cell?_of_block (setRow_other _ _ _ _ (by have := bge11_p5; have := cell_old c0; simp at this ⊢; omega))).trans c0_13
          have c1_14 : (W13.setRow W1.heap.size (arr X).toArray).cell? ⟨w.heap.size + 1, 0, none⟩ = some (.slice b0 s.1.length m0) := (World.cell?_of_block (setRow_other _ _ _ _ (by have := bge11_p5; have := cell_old c1; simp at this ⊢; omega))).trans c1_13
          have p6_14 : ArrAt (W13.setRow W1.heap.size (arr X).toArray) W12.heap.size _ := ⟨(setRow_other _ _ _ _ (Ne.symm ne13_p5)).trans new13.1, new13.2⟩
          have bel14 : Below W.heap.size W (W13.setRow W1.heap.size (arr X).toArray) := below_setRow bel13 bge11_p5 _
          generalize W13.setRow W1.heap.size (arr X).toArray = W14 at *
          refine hK.out _ _ ⟨c0_14, c1_14⟩ (fun hHeld => ?_)
          clear hK K
          try simp only [Act.put]
          refine rd9 (by kernel_rfl) (fun K hK => ?_)
          rw [if_pos (by rfl)]
          refine wp_store_row 118 _ _ rfl W12.heap.size _ rfl rfl _ _ p6_14.1 (infoArr l2) (by simp [arr_length, l2, zeros_length]) (arr_all _) ?_
          have new15 : ArrAt (W14.setRow W12.heap.size (arr Y).toArray) W12.heap.size Y := ⟨setRow_heap _ _ _ _ _ _ p6_14.1, l2⟩
          have c0_15 : (W14.setRow W12.heap.size (arr Y).toArray).cell? ⟨w.heap.size, 0, none⟩ = some (.slice a0 t.1.length k0) := (World.cell?_of_block (setRow_other _ _ _ _ (by have := bge13_p6; have := cell_old c0; simp at this ⊢; omega))).trans c0_14
          have c1_15 : (W14.setRow W12.heap.size (arr Y).toArray).cell? ⟨w.heap.size + 1, 0, none⟩ = some (.slice b0 s.1.length m0) := (World.cell?_of_block (setRow_other _ _ _ _ (by have := bge13_p6; have := cell_old c1; simp at this ⊢; omega))).trans c1_14
          have p5_15 : ArrAt (W14.setRow W12.heap.size (arr Y).toArray) W1.heap.size _ := ⟨(setRow_other _ _ _ _ ne13_p5).trans new14.1, new14.2⟩
          have bel15 : Below W.heap.size W (W14.setRow W12.heap.size (arr Y).toArray) := below_setRow bel14 bge13_p6 _
          generalize W14.setRow W12.heap.size (arr Y).toArray = W15 at *
          refine hK.out _ _ ⟨c0_15, c1_15⟩ (fun hHeld => ?_)
          clear hK K
          try simp only [Act.put]
          refine wpAnyH_done (by kernel_rfl) ?_ _
          exact ⟨rfl, _, _, rfl, p5_15, new15, bel15, c0_15, c1_15⟩
        refine ar7 (fun K hK => ?_) ?_
        ·
          go_simp
          have hb16 : Below W11.heap.size W11 (W11.alloc (.cells (arr zeros).toArray 118)) := (Below.refl _ _).alloc (Nat.le_refl _) _
          have new16 := ArrAt.new W11 zeros_length
          change K _ (W11.alloc (.cells (arr zeros).toArray 118))
          generalize W11.alloc (.cells (arr zeros).toArray 118) = W16 at hb16 new16 ⊢
          have bel16 : Below W.heap.size W W16 := bel11.trans (hb16.mono bel11.size)
          have c0_16 := cell_carry c0_11 (Carries.of 0 hb16)
          have c1_16 := cell_carry c1_11 (Carries.of 0 hb16)
          have p5_16 := ArrAt.after new11 hb16
          have ne16_p5 : W1.heap.size ≠ W11.heap.size := Nat.ne_of_lt new11.lt
          have bge16_p6 : W.heap.size ≤ W11.heap.size := bel11.size
          refine hK.out _ _ ⟨c0_16, c1_16⟩ (fun hHeld => ?_)
          clear hK K
          try simp only [Act.put]
          refine rd5 (by kernel_rfl) (fun K hK => ?_)
          go_simp
          refine (onlyPlaces_any _ s.1 W16 lo' (HUW.1.keep (Carries.of lo' bel16)) hm HJ.out).mono ?_
          rintro e W17 ⟨rfl, hb17⟩
          have bel17 : Below W.heap.size W W17 := bel16.trans (hb17.mono bel16.size)
          have c0_17 := cell_carry c0_16 (Carries.of 0 hb17)
          have c1_17 := cell_carry c1_16 (Carries.of 0 hb17)
          have p5_17 := ArrAt.after p5_16 hb17
          have p6_17 := ArrAt.after new16 hb17
          rw [← HY.out]
          refine hK.out _ _ ⟨c0_17, c1_17⟩ (fun hHeld => ?_)
          clear hK K
          try simp only [Act.put]
          refine rd8 (by kernel_rfl) (fun K hK => ?_)
          rw [if_pos (by rfl)]
          refine wp_store_row 118 _ _ rfl W1.heap.size _ rfl rfl _ _ p5_17.1 (infoArr l1) (by simp [arr_length, l1, zeros_length]) (arr_all _) ?_
          have new18 : ArrAt (W17.setRow W1.heap.size (arr X).toArray) W1.heap.size X := ⟨setRow_heap _ _ _ _ _ _ p5_17.1, l1⟩
          have c0_18 : (W17.setRow W1.heap.size (arr X).toArray).cell? ⟨w.heap.size, 0, none⟩ = some (.slice a0 t.1.length k0) := (World.cell?_of_block (setRow_other _ _ _ _ (by have := bge11_p5; have := cell_old c0; simp at this ⊢; omega))).trans c0_17
          have c1_18 : (W17.setRow W1.heap.size (arr X).toArray).cell? ⟨w.heap.size + 1, 0, none⟩ = some (.slice b0 s.1.length m0) := (World.cell?_of_block (setRow_other _ _ _ _ (by have := bge11_p5; have := cell_old c1; simp at this ⊢; omega))).trans c1_17
          have p6_18 : ArrAt (W17.setRow W1.heap.size (arr X).toArray) W11.heap.size _ := ⟨(setRow_other _ _ _ _ (Ne.symm ne16_p5)).trans p6_17.1, p6_17.2⟩
          have bel18 : Below W.heap.size W (W17.setRow W1.heap.size (arr X).toArray) := below_setRow bel17 bge11_p5 _
          generalize W17.setRow W1.heap.size (arr X).toArray = W18 at *
          refine hK.out _ _ ⟨c0_18, c1_18⟩ (fun hHeld => ?_)
          clear hK K
          try simp only [Act.put]
          refine rd9 (by kernel_rfl) (fun K hK => ?_)
          rw [if_pos (by rfl)]
          refine wp_store_row 118 _ _ rfl W11.heap.size _ rfl rfl _ _ p6_18.1 (infoArr l2) (by simp [arr_length, l2, zeros_length]) (arr_all _) ?_
          have new19 : ArrAt (W18.setRow W11.heap.size (arr Y).toArray) W11.heap.size Y := ⟨setRow_heap _ _ _ _ _ _ p6_18.1, l2⟩
          have c0_19 : (W18.setRow W11.heap.size (arr Y).toArray).cell? ⟨w.heap.size, 0, none⟩ = some (.slice a0 t.1.length k0) := (World.cell?_of_block (setRow_other _ _ _ _ (by have := bge16_p6; have := cell_old c0; simp at this ⊢; omega))).trans c0_18
          have c1_19 : (W18.setRow W11.heap.size (arr Y).toArray).cell? ⟨w.heap.size + 1, 0, none⟩ = some (.slice b0 s.1.length m0) := (World.cell?_of_block (setRow_other _ _ _ _ (by have := bge16_p6; have := cell_old c1; simp at this ⊢; omega))).trans c1_18
          have p5_19 : ArrAt (W18.setRow W11.heap.size (arr Y).toArray) W1.heap.size _ := ⟨(setRow_other _ _ _ _ ne16_p5).trans new18.1, new18.2⟩
          have bel19 : Below W.heap.size W (W18.setRow W11.heap.size (arr Y).toArray) := below_setRow bel18 bge16_p6 _
          generalize W18.setRow W11.heap.size (arr Y).toArray = W19 at *
          refine hK.out _ _ ⟨c0_19, c1_19⟩ (fun hHeld => ?_)
          clear hK K
          try simp only [Act.put]
          refine wpAnyH_done (by kernel_rfl) ?_ _
          exact ⟨rfl, _, _, rfl, p5_19, new19, bel19, c0_19, c1_19⟩
        exact AllReadyH.nil
      refine ar7 (fun K hK => ?_) ?_
      ·
        go_simp
        have hb20 : Below W1.heap.size W1 (W1.alloc (.cells (arr zeros).toArray 118)) := (Below.refl _ _).alloc (Nat.le_refl _) _
        have new20 := ArrAt.new W1 zeros_length
        change K _ (W1.alloc (.cells (arr zeros).toArray 118))
        generalize W1.alloc (.cells (arr zeros).toArray 118) = W20 at hb20 new20 ⊢
        have bel20 : Below W.heap.size W W20 := bel1.trans (hb20.mono bel1.size)
        have c0_20 := cell_carry c0_1 (Carries.of 0 hb20)
        have c1_20 := cell_carry c1_1 (Carries.of 0 hb20)
        have bge20_p6 : W.heap.size ≤ W1.heap.size := bel1.size
        refine hK.out _ _ ⟨c0_20, c1_20⟩ (fun hHeld => ?_)
        clear hK K
        try simp only [Act.put]
        refine wpAnyH_ready (rs := [5, 6]) (by kernel_rfl) (by simp) ?_
        refine ar5 (fun K hK => ?_) ?_
        ·
          go_simp
          refine (onlyPlaces_any _ s.1 W20 lo' (HUW.1.keep (Carries.of lo' bel20)) hm HJ.out).mono ?_
          rintro e W21 ⟨rfl, hb21⟩
          have bel21 : Below W.heap.size W W21 := bel20.trans (hb21.mono bel20.size)
          have c0_21 := cell_carry c0_20 (Carries.of 0 hb21)
          have c1_21 := cell_carry c1_20 (Carries.of 0 hb21)
          have p6_21 := ArrAt.after new20 hb21
          rw [← HY.out]
          refine hK.out _ _ ⟨c0_21, c1_21⟩ (fun hHeld => ?_)
          clear hK K
          try simp only [Act.put]
          refine rd6 (by kernel_rfl) (fun K hK => ?_)
          go_simp
          have hb22 : Below W21.heap.size W21 (W21.alloc (.cells (arr zeros).toArray 118)) := (Below.refl _ _).alloc (Nat.le_refl _) _
          have new22 := ArrAt.new W21 zeros_length
          change K _ (W21.alloc (.cells (arr zeros).toArray 118))
          generalize W21.alloc (.cells (arr zeros).toArray 118) = W22 at hb22 new22 ⊢
          have bel22 : Below W.heap.size W W22 := bel21.trans (hb22.mono bel21.size)
          have c0_22 := cell_carry c0_21 (Carries.of 0 hb22)
          have c1_22 := cell_carry c1_21 (Carries.of 0 hb22)
          have p6_22 := ArrAt.after p6_21 hb22
          have ne22_p6 : W1.heap.size ≠ W21.heap.size := Nat.ne_of_lt p6_21.lt
          have bge22_p5 : W.heap.size ≤ W21.heap.size := bel21.size
          refine hK.out _ _ ⟨c0_22, c1_22⟩ (fun hHeld => ?_)
          clear hK K
          try simp only [Act.put]
          refine rd8 (by kernel_rfl) (fun K hK => ?_)
          rw [if_pos (by rfl)]
          refine wp_store_row 118 _ _ rfl W21.heap.size _ rfl rfl _ _ new22.1 (infoArr l1) (by simp [arr_length, l1, zeros_length]) (arr_all _) ?_
          have new23 : ArrAt (W22.setRow W21.heap.size (arr X).toArray) W21.heap.size X := ⟨setRow_heap _ _ _ _ _ _ new22.1, l1⟩
          have c0_23 : (W22.setRow W21.heap.size (arr X).toArray).cell? ⟨w.heap.size, 0, none⟩ = some (.slice a0 t.1.length k0) := (World.cell?_of_block (setRow_other _ _ _ _ (by have := bge22_p5; have := cell_old c0; simp at this ⊢; omega))).trans c0_22
          have c1_23 : (W22.setRow W21.heap.size (arr X).toArray).cell? ⟨w.heap.size + 1, 0, none⟩ = some (.slice b0 s.1.length m0) := (World.cell?_of_block (setRow_other _ _ _ _ (by have := bge22_p5; have := cell_old c1; simp at this ⊢; omega))).trans c1_22
          have p6_23 : ArrAt (W22.setRow W21.heap.size (arr X).toArray) W1.heap.size _ := ⟨(setRow_other _ _ _ _ ne22_p6).trans p6_22.1, p6_22.2⟩
          have bel23 : Below W.heap.size W (W22.setRow W21.heap.size (arr X).toArray) := below_setRow bel22 bge22_p5 _
          generalize W22.setRow W21.heap.size (arr X).toArray = W23 at *
          refine hK.out _ _ ⟨c0_23, c1_23⟩ (fun hHeld => ?_)
          clear hK K
          try simp only [Act.put]
          refine rd9 (by kernel_rfl) (fun K hK => ?_)
          rw [if_pos (by rfl)]
          refine wp_store_row 118 _ _ rfl W1.heap.size _ rfl rfl _ _ p6_23.1 (infoArr l2) (by simp [arr_length, l2, zeros_length]) (arr_all _) ?_
          have new24 : ArrAt (W23.setRow W1.heap.size (arr Y).toArray) W1.heap.size Y := ⟨setRow_heap _ _ _ _ _ _ p6_23.1, l2⟩
          have c0_24 : (W23.setRow W1.heap.size (arr Y).toArray).cell? ⟨w.heap.size, 0, none⟩ = some (.slice a0 t.1.length k0) := (World.cell?_of_block (setRow_other _ _ _ _ (by have := bge20_p6; have := cell_old c0; simp at this ⊢; omega))).trans c0_23
          have c1_24 : (W23.setRow W1.heap.size (arr Y).toArray).cell? ⟨w.heap.size + 1, 0, none⟩ = some (.slice b0 s.1.length m0) := (World.cell?_of_block (setRow_other _ _ _ _ (by have := bge20_p6; have := cell_old c1; simp at this ⊢; omega))).trans c1_23
          have p5_24 : ArrAt (W23.setRow W1.heap.size (arr Y).toArray) W21.heap.size _ := ⟨(setRow_other _ _ _ _ (Ne.symm ne22_p6)).trans new23.1, new23.2⟩
          have bel24 : Below W.heap.size W (W23.setRow W1.heap.size (arr Y).toArray) := below_setRow bel23 bge20_p6 _
          generalize W23.setRow W1.heap.size (arr Y).toArray = W24 at *
          refine hK.out _ _ ⟨c0_24, c1_24⟩ (fun hHeld => ?_)
          clear hK K
          try simp only [Act.put]
          refine wpAnyH_done (by kernel_rfl) ?_ _
          exact ⟨rfl, _, _, rfl, p5_24, new24, bel24, c0_24, c1_24⟩
        refine ar6 (fun K hK => ?_) ?_
        ·
          go_simp
          have hb25 : Below W20.heap.size W20 (W20.alloc (.cells (arr zeros).toArray 118)) := (Below.refl _ _).alloc (Nat.le_refl _) _
          have new25 := ArrAt.new W20 zeros_length
          change K _ (W20.alloc (.cells (arr zeros).toArray 118))
          generalize W20.alloc (.cells (arr zeros).toArray 118) = W25 at hb25 new25 ⊢
          have bel25 : Below W.heap.size W W25 := bel20.trans (hb25.mono bel20.size)
          have c0_25 := cell_carry c0_20 (Carries.of 0 hb25)
          have c1_25 := cell_carry c1_20 (Carries.of 0 hb25)
          have p6_25 := ArrAt.after new20 hb25
          have ne25_p6 : W1.heap.size ≠ W20.heap.size := Nat.ne_of_lt new20.lt
          have bge25_p5 : W.heap.size ≤ W20.heap.size := bel20.size
          refine hK.out _ _ ⟨c0_25, c1_25⟩ (fun hHeld => ?_)
          clear hK K
          try simp only [Act.put]
          refine rd5 (by kernel_rfl) (fun K hK => ?_)
          go_simp
          refine (onlyPlaces_any _ s.1 W25 lo' (HUW.1.keep (Carries.of lo' bel25)) hm HJ.out).mono ?_
          rintro e W26 ⟨rfl, hb26⟩
          have bel26 : Below W.heap.size W W26 := bel25.trans (hb26.mono bel25.size)
          have c0_26 := cell_carry c0_25 (Carries.of 0 hb26)
          have c1_26 := cell_carry c1_25 (Carries.of 0 hb26)
          have p6_26 := ArrAt.after p6_25 hb26
          have p5_26 := ArrAt.after new25 hb26
          rw [← HY.out]
          refine hK.out _ _ ⟨c0_26, c1_26⟩ (fun hHeld => ?_)
          clear hK K
          try simp only [Act.put]
          refine rd8 (by kernel_rfl) (fun K hK => ?_)
          rw [if_pos (by rfl)]
          refine wp_store_row 118 _ _ rfl W20.heap.size _ rfl rfl _ _ p5_26.1 (infoArr l1) (by simp [arr_length, l1, zeros_length]) (arr_all _) ?_
          have new27 : ArrAt (W26.setRow W20.heap.size (arr X).toArray) W20.heap.size X := ⟨setRow_heap _ _ _ _ _ _ p5_26.1, l1⟩
          have c0_27 : (W26.setRow W20.heap.size (arr X).toArray).cell? ⟨w.heap.size, 0, none⟩ = some (.slice a0 t.1.length k0) := (World.cell?_of_block (setRow_other _ _ _ _ (by have := bge25_p5; have := cell_old c0; simp at this ⊢; omega))).trans c0_26
          have c1_27 : (W26.setRow W20.heap.size (arr X).toArray).cell? ⟨w.heap.size + 1, 0, none⟩ = some (.slice b0 s.1.length m0) := (World.cell?_of_block (setRow_other _ _ _ _ (by have := bge25_p5; have := cell_old c1; simp at this ⊢; omega))).trans c1_26
          have p6_27 : ArrAt (W26.setRow W20.heap.size (arr X).toArray) W1.heap.size _ := ⟨(setRow_other _ _ _ _ ne25_p6).trans p6_26.1, p6_26.2⟩
          have bel27 : Below W.heap.size W (W26.setRow W20.heap.size (arr X).toArray) := below_setRow bel26 bge25_p5 _
          generalize W26.setRow W20.heap.size (arr X).toArray = W27 at *
          refine hK.out _ _ ⟨c0_27, c1_27⟩ (fun hHeld => ?_)
          clear hK K
          try simp only [Act.put]
          refine rd9 (by kernel_rfl) (fun K hK => ?_)
          rw [if_pos (by rfl)]
          refine wp_store_row 118 _ _ rfl W1.heap.size _ rfl rfl _ _ p6_27.1 (infoArr l2) (by simp [arr_length, l2, zeros_length]) (arr_all _) ?_
          have new28 : ArrAt (W27.setRow W1.heap.size (arr Y).toArray) W1.heap.size Y := ⟨setRow_heap _ _ _ _ _ _ p6_27.1, l2⟩
          have c0_28 : (W27.setRow W1.heap.size (arr Y).toArray).cell? ⟨w.heap.size, 0, none⟩ = some (.slice a0 t.1.length k0) := (World.cell?_of_block (setRow_other _ _ _ _ (by have := bge20_p6; have := cell_old c0; simp at this ⊢; omega))).trans c0_27
          have c1_28 : (W27.setRow W1.heap.size (arr Y).toArray).cell? ⟨w.heap.size + 1, 0, none⟩ = some (.slice b0 s.1.length m0) := (World.cell?_of_block (setRow_other _ _ _ _ (by have := bge20_p6; have := cell_old c1; simp at this ⊢; omega))).trans c1_27
          have p5_28 : ArrAt (W27.setRow W1.heap.size (arr Y).toArray) W20.heap.size _ := ⟨(setRow_other _ _ _ _ (Ne.symm ne25_p6)).trans new27.1, new27.2⟩
          have bel28 : Below W.heap.size W (W27.setRow W1.heap.size (arr Y).toArray) := below_setRow bel27 bge20_p6 _
          generalize W27.setRow W1.heap.size (arr Y).toArray = W28 at *
          refine hK.out _ _ ⟨c0_28, c1_28⟩ (fun hHeld => ?_)
          clear hK K
          try simp only [Act.put]
          refine wpAnyH_done (by kernel_rfl) ?_ _
          exact ⟨rfl, _, _, rfl, p5_28, new28, bel28, c0_28, c1_28⟩
        exact AllReadyH.nil
      exact AllReadyH.nil
    refine ar6 (fun K hK => ?_) ?_
    ·
      go_simp
      have hb29 : Below W0.heap.size W0 (W0.alloc (.cells (arr zeros).toArray 118)) := (Below.refl _ _).alloc (Nat.le_refl _) _
      have new29 := ArrAt.new W0 zeros_length
      change K _ (W0.alloc (.cells (arr zeros).toArray 118))
      generalize W0.alloc (.cells (arr zeros).toArray 118) = W29 at hb29 new29 ⊢
      have bel29 : Below W.heap.size W W29 := bel0.trans (hb29.mono bel0.size)
      have c0_29 := cell_carry c0_0 (Carries.of 0 hb29)
      have c1_29 := cell_carry c1_0 (Carries.of 0 hb29)
      have bge29_p5 : W.heap.size ≤ W0.heap.size := bel0.size
      refine hK.out _ _ ⟨c0_29, c1_29⟩ (fun hHeld => ?_)
      clear hK K
      try simp only [Act.put, List.setIfInBounds_toArray, List.set_cons_zero, List.set_cons_succ]
      refine wpAnyH_ready (rs := [2, 7]) (by kernel_rfl) (by simp) ?_
      refine ar2 (fun K hK => ?_) ?_
      ·
        go_simp
        refine (onlyPlaces_any _ t.1 W29 lo (HVW.1.keep (Carries.of lo bel29)) hn HI.out).mono ?_
        rintro e W30 ⟨rfl, hb30⟩
        have bel30 : Below W.heap.size W W30 := bel29.trans (hb30.mono bel29.size)
        have c0_30 := cell_carry c0_29 (Carries.of 0 hb30)
        have c1_30 := cell_carry c1_29 (Carries.of 0 hb30)
        have p5_30 := ArrAt.after new29 hb30
        rw [← HX.out]
        refine hK.out _ _ ⟨c0_30, c1_30⟩ (fun hHeld => ?_)
        clear hK K
        try simp only [Act.put]
        refine wpAnyH_ready (rs := [5, 7]) (by kernel_rfl) (by simp) ?_
        refine ar5 (fun K hK => ?_) ?_
        ·
          go_simp
          refine (onlyPlaces_any _ s.1 W30 lo' (HUW.1.keep (Carries.of lo' bel30)) hm HJ.out).mono ?_
          rintro e W31 ⟨rfl, hb31⟩
          have bel31 : Below W.heap.size W W31 := bel30.trans (hb31.mono bel30.size)
          have c0_31 := cell_carry c0_30 (Carries.of 0 hb31)
          have c1_31 := cell_carry c1_30 (Carries.of 0 hb31)
          have p5_31 := ArrAt.after p5_30 hb31
          rw [← HY.out]
          refine hK.out _ _ ⟨c0_31, c1_31⟩ (fun hHeld => ?_)
          clear hK K
          try simp only [Act.put]
          refine rd7 (by kernel_rfl) (fun K hK => ?_)
          go_simp
          have hb32 : Below W31.heap.size W31 (W31.alloc (.cells (arr zeros).toArray 118)) := (Below.refl _ _).alloc (Nat.le_refl _) _
          have new32 := ArrAt.new W31 zeros_length
          change K _ (W31.alloc (.cells (arr zeros).toArray 118))
          generalize W31.alloc (.cells (arr zeros).toArray 118) = W32 at hb32 new32 ⊢
          have bel32 : Below W.heap.size W W32 := bel31.trans (hb32.mono bel31.size)
          have c0_32 := cell_carry c0_31 (Carries.of 0 hb32)
          have c1_32 := cell_carry c1_31 (Carries.of 0 hb32)
          have p5_32 := ArrAt.after p5_31 hb32
          have ne32_p5 : W0.heap.size ≠ W31.heap.size := Nat.ne_of_lt p5_31.lt
          have bge32_p6 : W.heap.size ≤ W31.heap.size := bel31.size
          refine hK.out _ _ ⟨c0_32, c1_32⟩ (fun hHeld => ?_)
          clear hK K
          try simp only [Act.put]
          refine rd8 (by kernel_rfl) (fun K hK => ?_)
          rw [if_pos (by rfl)]
          refine wp_store_row 118 _ _ rfl W0.heap.size _ rfl rfl _ _ p5_32.1 (infoArr l1) (by simp [arr_length, l1, zeros_length]) (arr_all _) ?_
          have new33 : ArrAt (W32.setRow W0.heap.size (arr X).toArray) W0.heap.size X := ⟨setRow_heap _ _ _ _ _ _ p5_32.1, l1⟩
          have c0_33 : (W32.setRow W0.heap.size (arr X).toArray).cell? ⟨w.heap.size, 0, none⟩ = some (.slice a0 t.1.length k0) := (World.cell?_of_block (setRow_other _ _ _ _ (by have := bge29_p5; have := cell_old c0; simp at this ⊢; omega))).trans c0_32
          have c1_33 : (W32.setRow W0.heap.size (arr X).toArray).cell? ⟨w.heap.size + 1, 0, none⟩ = some (.slice b0 s.1.length m0) := (World.cell?_of_block (setRow_other _ _ _ _ (by have := bge29_p5; have := cell_old c1; simp at this ⊢; omega))).trans c1_32
          have p6_33 : ArrAt (W32.setRow W0.heap.size (arr X).toArray) W31.heap.size _ := ⟨(setRow_other _ _ _ _ (Ne.symm ne32_p5)).trans new32.1, new32.2⟩
          have bel33 : Below W.heap.size W (W32.setRow W0.heap.size (arr X).toArray) := below_setRow bel32 bge29_p5 _
          generalize W32.setRow W0.heap.size (arr X).toArray = W33 at *
          refine hK.out _ _ ⟨c0_33, c1_33⟩ (fun hHeld => ?_)
          clear hK K
          try simp only [Act.put]
          refine rd9 (by kernel_rfl) (fun K hK => ?_)
          rw [if_pos (by rfl)]
          refine wp_store_row 118 _ _ rfl W31.heap.size _ rfl rfl _ _ p6_33.1 (infoArr l2) (by simp [arr_length, l2, zeros_length]) (arr_all _) ?_
          have new34 : ArrAt (W33.setRow W31.heap.size (arr Y).toArray) W31.heap.size Y := ⟨setRow_heap _ _ _ _ _ _ p6_33.1, l2⟩
          have c0_34 : (W33.setRow W31.heap.size (arr Y).toArray).cell? ⟨w.heap.size, 0, none⟩ = some (.slice a0 t.1.length k0) := (World.cell?_of_block (setRow_other _ _ _ _ (by have := bge32_p6; have := cell_old c0; simp at this ⊢; omega))).trans c0_33
          have c1_34 : (W33.setRow W31.heap.size (arr Y).toArray).cell? ⟨w.heap.size + 1, 0, none⟩ = some (.slice b0 s.1.length m0) := (World.cell?_of_block (setRow_other _ _ _ _ (by have := bge32_p6; have := cell_old c1; simp at this ⊢; omega))).trans c1_33
          have p5_34 : ArrAt (W33.setRow W31.heap.size (arr Y).toArray) W0.heap.size _ := ⟨(setRow_other _ _ _ _ ne32_p5).trans new33.1, new33.2⟩
          have bel34 : Below W.heap.size W (W33.setRow W31.heap.size (arr Y).toArray) := below_setRow bel33 bge32_p6 _
          generalize W33.setRow W31.heap.size (arr Y).toArray = W34 at *
          refine hK.out _ _ ⟨c0_34, c1_34⟩ (fun hHeld => ?_)
          clear hK K
          try simp only [Act.put]
          refine wpAnyH_done (by kernel_rfl) ?_ _
          exact ⟨rfl, _, _, rfl, p5_34, new34, bel34, c0_34, c1_34⟩
        refine ar7 (fun K hK => ?_) ?_
        ·
          go_simp
          have hb35 : Below W30.heap.size W30 (W30.alloc (.cells (arr zeros).toArray 118)) := (Below.refl _ _).alloc (Nat.le_refl _) _
          have new35 := ArrAt.new W30 zeros_length
          change K _ (W30.alloc (.cells (arr zeros).toArray 118))
          generalize W30.alloc (.cells (arr zeros).toArray 118) = W35 at hb35 new35 ⊢
          have bel35 : Below W.heap.size W W35 := bel30.trans (hb35.mono bel30.size)
          have c0_35 := cell_carry c0_30 (Carries.of 0 hb35)
          have c1_35 := cell_carry c1_30 (Carries.of 0 hb35)
          have p5_35 := ArrAt.after p5_30 hb35
          have ne35_p5 : W0.heap.size ≠ W30.heap.size := Nat.ne_of_lt p5_30.lt
          have bge35_p6 : W.heap.size ≤ W30.heap.size := bel30.size
          refine hK.out _ _ ⟨c0_35, c1_35⟩ (fun hHeld => ?_)
          clear hK K
          try simp only [Act.put]
          refine rd5 (by kernel_rfl) (fun K hK => ?_)
          go_simp
          refine (onlyPlaces_any _ s.1 W35 lo' (HUW.1.keep (Carries.of lo' bel35)) hm HJ.out).mono ?_
          rintro e W36 ⟨rfl, hb36⟩
          have bel36 : Below W.heap.size W W36 := bel35.trans (hb36.mono bel35.size)
          have c0_36 := cell_carry c0_35 (Carries.of 0 hb36)
          have c1_36 := cell_carry c1_35 (Carries.of 0 hb36)
          have p5_36 := ArrAt.after p5_35 hb36
          have p6_36 := ArrAt.after new35 hb36
          rw [← HY.out]
          refine hK.out _ _ ⟨c0_36, c1_36⟩ (fun hHeld => ?_)
          clear hK K
          try simp only [Act.put]
          refine rd8 (by kernel_rfl) (fun K hK => ?_)
          rw [if_pos (by rfl)]
          refine wp_store_row 118 _ _ rfl W0.heap.size _ rfl rfl _ _ p5_36.1 (infoArr l1) (by simp [arr_length, l1, zeros_length]) (arr_all _) ?_
          have new37 : ArrAt (W36.setRow W0.heap.size (arr X).toArray) W0.heap.size X := ⟨setRow_heap _ _ _ _ _ _ p5_36.1, l1⟩
          have c0_37 : (W36.setRow W0.heap.size (arr X).toArray).cell? ⟨w.heap.size, 0, none⟩ = some (.slice a0 t.1.length k0) := (World.cell?_of_block (setRow_other _ _ _ _ (by have := bge29_p5; have := cell_old c0; simp at this ⊢; omega))).trans c0_36
          have c1_37 : (W36.setRow W0.heap.size (arr X).toArray).cell? ⟨w.heap.size + 1, 0, none⟩ = some (.slice b0 s.1.length m0) := (World.cell?_of_block (setRow_other _ _ _ _ (by have := bge29_p5; have := cell_old c1; simp at this ⊢; omega))).trans c1_36
          have p6_37 : ArrAt (W36.setRow W0.heap.size (arr X).toArray) W30.heap.size _ := ⟨(setRow_other _ _ _ _ (Ne.symm ne35_p5)).trans p6_36.1, p6_36.2⟩
          have bel37 : Below W.heap.size W (W36.setRow W0.heap.size (arr X).toArray) := below_setRow bel36 bge29_p5 _
          generalize W36.setRow W0.heap.size (arr X).toArray = W37 at *
          refine hK.out _ _ ⟨c0_37, c1_37⟩ (fun hHeld => ?_)
          clear hK K
          try simp only [Act.put]
          refine rd9 (by kernel_rfl) (fun K hK => ?_)
          rw [if_pos (by rfl)]
          refine wp_store_row 118 _ _ rfl W30.heap.size _ rfl rfl _ _ p6_37.1 (infoArr l2) (by simp [arr_length, l2, zeros_length]) (arr_all _) ?_
          have new38 : ArrAt (W37.setRow W30.heap.size (arr Y).toArray) W30.heap.size Y := ⟨setRow_heap _ _ _ _ _ _ p6_37.1, l2⟩
          have c0_38 : (W37.setRow W30.heap.size (arr Y).toArray).cell? ⟨w.heap.size, 0, none⟩ = some (.slice a0 t.1.length k0) := (World.cell?_of_block (setRow_other _ _ _ _ (by have := bge35_p6; have := cell_old c0; simp at this ⊢; omega))).trans c0_37
          have c1_38 : (W37.setRow W30.heap.size (arr Y).toArray).cell? ⟨w.heap.size + 1, 0, none⟩ = some (.slice b0 s.1.length m0) := (World.cell?_of_block (setRow_other _ _ _ _ (by have := bge35_p6; have := cell_old c1; simp at this ⊢; omega))).trans c1_37
          have p5_38 : ArrAt (W37.setRow W30.heap.size (arr Y).toArray) W0.heap.size _ := ⟨(setRow_other _ _ _ _ ne35_p5).trans new37.1, new37.2⟩
          have bel38 : Below W.heap.size W (W37.setRow W30.heap.size (arr Y).toArray) := below_setRow bel37 bge35_p6 _
          generalize W37.setRow W30.heap.size (arr Y).toArray = W38 at *
          refine hK.out _ _ ⟨c0_38, c1_38⟩ (fun hHeld => ?_)
          clear hK K
          try simp only [Act.put]
          refine wpAnyH_done (by kernel_rfl) ?_ _
          exact ⟨rfl, _, _, rfl, p5_38, new38, bel38, c0_38, c1_38⟩
        exact AllReadyH.nil
      refine ar7 (fun K hK => ?_) ?_
      ·
        go_simp
        have hb39 : Below W29.heap.size W29 (W29.alloc (.cells (arr zeros).toArray 118)) := (Below.refl _ _).alloc (Nat.le_refl _) _
        have new39 := ArrAt.new W29 zeros_length
        change K _ (W29.alloc (.cells (arr zeros).toArray 118))
        generalize W29.alloc (.cells (arr zeros).toArray 118) = W39 at hb39 new39 ⊢
        have bel39 : Below W.heap.size W W39 := bel29.trans (hb39.mono bel29.size)
        have c0_39 := cell_carry c0_29 (Carries.of 0 hb39)
        have c1_39 := cell_carry c1_29 (Carries.of 0 hb39)
        have p5_39 := ArrAt.after new29 hb39
        have ne39_p5 : W0.heap.size ≠ W29.heap.size := Nat.ne_of_lt new29.lt
        have bge39_p6 : W.heap.size ≤ W29.heap.size := bel29.size
        refine hK.out _ _ ⟨c0_39, c1_39⟩ (fun hHeld => ?_)
        clear hK K
        try simp only [Act.put]
        refine rd2 (by kernel_rfl) (fun K hK => ?_)
        go_simp
        refine (onlyPlaces_any _ t.1 W39 lo (HVW.1.keep (Carries.of lo bel39)) hn HI.out).mono ?_
        rintro e W40 ⟨rfl, hb40⟩
        have bel40 : Below W.heap.size W W40 := bel39.trans (hb40.mono bel39.size)
        have c0_40 := cell_carry c0_39 (Carries.of 0 hb40)
        have c1_40 := cell_carry c1_39 (Carries.of 0 hb40)
        have p5_40 := ArrAt.after p5_39 hb40
        have p6_40 := ArrAt.after new39 hb40
        rw [← HX.out]
        refine hK.out _ _ ⟨c0_40, c1_40⟩ (fun hHeld => ?_)
        clear hK K
        try simp only [Act.put]
        refine rd5 (by kernel_rfl) (fun K hK => ?_)
        go_simp
        refine (onlyPlaces_any _ s.1 W40 lo' (HUW.1.keep (Carries.of lo' bel40)) hm HJ.out).mono ?_
        rintro e W41 ⟨rfl, hb41⟩
        have bel41 : Below W.heap.size W W41 := bel40.trans (hb41.mono bel40.size)
        have c0_41 := cell_carry c0_40 (Carries.of 0 hb41)
        have c1_41 := cell_carry c1_40 (Carries.of 0 hb41)
        have p5_41 := ArrAt.after p5_40 hb41
        have p6_41 := ArrAt.after p6_40 hb41
        rw [← HY.out]
        refine hK.out _ _ ⟨c0_41, c1_41⟩ (fun hHeld => ?_)
        clear hK K
        try simp only [Act.put]
        refine rd8 (by kernel_rfl) (fun K hK => ?_)
        rw [if_pos (by rfl)]
        refine wp_store_row 118 _ _ rfl W0.heap.size _ rfl rfl _ _ p5_41.1 (infoArr l1) (by simp [arr_length, l1, zeros_length]) (arr_all _) ?_
        have new42 : ArrAt (W41.setRow W0.heap.size (arr X).toArray) W0.heap.size X := ⟨setRow_heap _ _ _ _ _ _ p5_41.1, l1⟩
        have c0_42 : (W41.setRow W0.heap.size (arr X).toArray).cell? ⟨w.heap.size, 0, none⟩ = some (.slice a0 t.1.length k0) := (World.cell?_of_block (setRow_other _ _ _ _ (by have := bge29_p5; have := cell_old c0; simp at this ⊢; omega))).trans c0_41
        have c1_42 : (W41.setRow W0.heap.size (arr X).toArray).cell? ⟨w.heap.size + 1, 0, none⟩ = some (.slice b0 s.1.length m0) := (World.cell?_of_block (setRow_other _ _ _ _ (by have := bge29_p5; have := cell_old c1; simp at this ⊢; omega))).trans c1_41
        have p6_42 : ArrAt (W41.setRow W0.heap.size (arr X).toArray) W29.heap.size _ := ⟨(setRow_other _ _ _ _ (Ne.symm ne39_p5)).trans p6_41.1, p6_41.2⟩
        have bel42 : Below W.heap.size W (W41.setRow W0.heap.size (arr X).toArray) := below_setRow bel41 bge29_p5 _
        generalize W41.setRow W0.heap.size (arr X).toArray = W42 at *
        refine hK.out _ _ ⟨c0_42, c1_42⟩ (fun hHeld => ?_)
        clear hK K
        try simp only [Act.put]
        refine rd9 (by kernel_rfl) (fun K hK => ?_)
        rw [if_pos (by rfl)]
        refine wp_store_row 118 _ _ rfl W29.heap.size _ rfl rfl _ _ p6_42.1 (infoArr l2) (by simp [arr_length, l2, zeros_length]) (arr_all _) ?_
        have new43 : ArrAt (W42.setRow W29.heap.size (arr Y).toArray) W29.heap.size Y := ⟨setRow_heap _ _ _ _ _ _ p6_42.1, l2⟩
        have c0_43 : (W42.setRow W29.heap.size (arr Y).toArray).cell? ⟨w.heap.size, 0, none⟩ = some (.slice a0 t.1.length k0) := (World.cell?_of_block (setRow_other _ _ _ _ (by have := bge39_p6; have := cell_old c0; simp at this ⊢; omega))).trans c0_42
        have c1_43 : (W42.setRow W29.heap.size (arr Y).toArray).cell? ⟨w.heap.size + 1, 0, none⟩ = some (.slice b0 s.1.length m0) := (World.cell?_of_block (setRow_other _ _ _ _ (by have := bge39_p6; have := cell_old c1; simp at this ⊢; omega))).trans c1_42
        have p5_43 : ArrAt (W42.setRow W29.heap.size (arr Y).toArray) W0.heap.size _ := ⟨(setRow_other _ _ _ _ ne39_p5).trans new42.1, new42.2⟩
        have bel43 : Below W.heap.size W (W42.setRow W29.heap.size (arr Y).toArray) := below_setRow bel42 bge39_p6 _
        generalize W42.setRow W29.heap.size (arr Y).toArray = W43 at *
        refine hK.out _ _ ⟨c0_43, c1_43⟩ (fun hHeld => ?_)
        clear hK K
        try simp only [Act.put]
        refine wpAnyH_done (by kernel_rfl) ?_ _
        exact ⟨rfl, _, _, rfl, p5_43, new43, bel43, c0_43, c1_43⟩
      exact AllReadyH.nil
    refine ar7 (fun K hK => ?_) ?_
    ·
      go_simp
      have hb44 : Below W0.heap.size W0 (W0.alloc (.cells (arr zeros).toArray 118)) := (Below.refl _ _).alloc (Nat.le_refl _) _
      have new44 := ArrAt.new W0 zeros_length
      change K _ (W0.alloc (.cells (arr zeros).toArray 118))
      generalize W0.alloc (.cells (arr zeros).toArray 118) = W44 at hb44 new44 ⊢
      have bel44 : Below W.heap.size W W44 := bel0.trans (hb44.mono bel0.size)
      have c0_44 := cell_carry c0_0 (Carries.of 0 hb44)
      have c1_44 := cell_carry c1_0 (Carries.of 0 hb44)
      have bge44_p6 : W.heap.size ≤ W0.heap.size := bel0.size
      refine hK.out _ _ ⟨c0_44, c1_44⟩ (fun hHeld => ?_)
      clear hK K
      try simp only [Act.put, List.setIfInBounds_toArray, List.set_cons_zero, List.set_cons_succ]
      refine wpAnyH_ready (rs := [2, 6]) (by kernel_rfl) (by simp) ?_
      refine ar2 (fun K hK => ?_) ?_
      ·
        go_simp
        refine (onlyPlaces_any _ t.1 W44 lo (HVW.1.keep (Carries.of lo bel44)) hn HI.out).mono ?_
        rintro e W45 ⟨rfl, hb45⟩
        have bel45 : Below W.heap.size W W45 := bel44.trans (hb45.mono bel44.size)
        have c0_45 := cell_carry c0_44 (Carries.of 0 hb45)
        have c1_45 := cell_carry c1_44 (Carries.of 0 hb45)
        have p6_45 := ArrAt.after new44 hb45
        rw [← HX.out]
        refine hK.out _ _ ⟨c0_45, c1_45⟩ (fun hHeld => ?_)
        clear hK K
        try simp only [Act.put]
        refine wpAnyH_ready (rs := [5, 6]) (by kernel_rfl) (by simp) ?_
        refine ar5 (fun K hK => ?_) ?_
        ·
          go_simp
          refine (onlyPlaces_any _ s.1 W45 lo' (HUW.1.keep (Carries.of lo' bel45)) hm HJ.out).mono ?_
          rintro e W46 ⟨rfl, hb46⟩
          have bel46 : Below W.heap.size W W46 := bel45.trans (hb46.mono bel45.size)
          have c0_46 := cell_carry c0_45 (Carries.of 0 hb46)
          have c1_46 := cell_carry c1_45 (Carries.of 0 hb46)
          have p6_46 := ArrAt.after p6_45 hb46
          rw [← HY.out]
          refine hK.out _ _ ⟨c0_46, c1_46⟩ (fun hHeld => ?_)
          clear hK K
          try simp only [Act.put]
          refine rd6 (by kernel_rfl) (fun K hK => ?_)
          go_simp
          have hb47 : Below W46.heap.size W46 (W46.alloc (.cells (arr zeros).toArray 118)) := (Below.refl _ _).alloc (Nat.le_refl _) _
          have new47 := ArrAt.new W46 zeros_length
          change K _ (W46.alloc (.cells (arr zeros).toArray 118))
          generalize W46.alloc (.cells (arr zeros).toArray 118) = W47 at hb47 new47 ⊢
          have bel47 : Below W.heap.size W W47 := bel46.trans (hb47.mono bel46.size)
          have c0_47 := cell_carry c0_46 (Carries.of 0 hb47)
          have c1_47 := cell_carry c1_46 (Carries.of 0 hb47)
          have p6_47 := ArrAt.after p6_46 hb47
          have ne47_p6 : W0.heap.size ≠ W46.heap.size := Nat.ne_of_lt p6_46.lt
          have bge47_p5 : W.heap.size ≤ W46.heap.size := bel46.size
          refine hK.out _ _ ⟨c0_47, c1_47⟩ (fun hHeld => ?_)
          clear hK K
          try simp only [Act.put]
          refine rd8 (by kernel_rfl) (fun K hK => ?_)
          rw [if_pos (by rfl)]
          refine wp_store_row 118 _ _ rfl W46.heap.size _ rfl rfl _ _ new47.1 (infoArr l1) (by simp [arr_length, l1, zeros_length]) (arr_all _) ?_
          have new48 : ArrAt (W47.setRow W46.heap.size (arr X).toArray) W46.heap.size X := ⟨setRow_heap _ _ _ _ _ _ new47.1, l1⟩
          have c0_48 : (W47.setRow W46.heap.size (arr X).toArray).cell? ⟨w.heap.size, 0, none⟩ = some (.slice a0 t.1.length k0) := (World.cell?_of_block (setRow_other _ _ _ _ (by have := bge47_p5; have := cell_old c0; simp at this ⊢; omega))).trans c0_47
          have c1_48 : (W47.setRow W46.heap.size (arr X).toArray).cell? ⟨w.heap.size + 1, 0, none⟩ = some (.slice b0 s.1.length m0) := (World.cell?_of_block (setRow_other _ _ _ _ (by have := bge47_p5; have := cell_old c1; simp at this ⊢; omega))).trans c1_47
          have p6_48 : ArrAt (W47.setRow W46.heap.size (arr X).toArray) W0.heap.size _ := ⟨(setRow_other _ _ _ _ ne47_p6).trans p6_47.1, p6_47.2⟩
          have bel48 : Below W.heap.size W (W47.setRow W46.heap.size (arr X).toArray) := below_setRow bel47 bge47_p5 _
          generalize W47.setRow W46.heap.size (arr X).toArray = W48 at *
          refine hK.out _ _ ⟨c0_48, c1_48⟩ (fun hHeld => ?_)
          clear hK K
          try simp only [Act.put]
          refine rd9 (by kernel_rfl) (fun K hK => ?_)
          rw [if_pos (by rfl)]
          refine wp_store_row 118 _ _ rfl W0.heap.size _ rfl rfl _ _ p6_48.1 (infoArr l2) (by simp [arr_length, l2, zeros_length]) (arr_all _) ?_
          have new49 : ArrAt (W48.setRow W0.heap.size (arr Y).toArray) W0.heap.size Y := ⟨setRow_heap _ _ _ _ _ _ p6_48.1, l2⟩
          have c0_49 : (W48.setRow W0.heap.size (arr Y).toArray).cell? ⟨w.heap.size, 0, none⟩ = some (.slice a0 t.1.length k0) := (World.cell?_of_block (setRow_other _ _ _ _ (by have := bge44_p6; have := cell_old c0; simp at this ⊢; omega))).trans c0_48
          have c1_49 : (W48.setRow W0.heap.size (arr Y).toArray).cell? ⟨w.heap.size + 1, 0, none⟩ = some (.slice b0 s.1.length m0) := (World.cell?_of_block (setRow_other _ _ _ _ (by have := bge44_p6; have := cell_old c1; simp at this ⊢; omega))).trans c1_48
          have p5_49 : ArrAt (W48.setRow W0.heap.size (arr Y).toArray) W46.heap.size _ := ⟨(setRow_other _ _ _ _ (Ne.symm ne47_p6)).trans new48.1, new48.2⟩
          have bel49 : Below W.heap.size W (W48.setRow W0.heap.size (arr Y).toArray) := below_setRow bel48 bge44_p6 _
          generalize W48.setRow W0.heap.size (arr Y).toArray = W49 at *
          refine hK.out _ _ ⟨c0_49, c1_49⟩ (fun hHeld => ?_)
          clear hK K
          try simp only [Act.put]
          refine wpAnyH_done (by kernel_rfl) ?_ _
          exact ⟨rfl, _, _, rfl, p5_49, new49, bel49, c0_49, c1_49⟩
        refine ar6 (fun K hK => ?_) ?_
        ·
          go_simp
          have hb50 : Below W45.heap.size W45 (W45.alloc (.cells (arr zeros).toArray 118)) := (Below.refl _ _).alloc (Nat.le_refl _) _
          have new50 := ArrAt.new W45 zeros_length
          change K _ (W45.alloc (.cells (arr zeros).toArray 118))
          generalize W45.alloc (.cells (arr zeros).toArray 118) = W50 at hb50 new50 ⊢
          have bel50 : Below W.heap.size W W50 := bel45.trans (hb50.mono bel45.size)
          have c0_50 := cell_carry c0_45 (Carries.of 0 hb50)
          have c1_50 := cell_carry c1_45 (Carries.of 0 hb50)
          have p6_50 := ArrAt.after p6_45 hb50
          have ne50_p6 : W0.heap.size ≠ W45.heap.size := Nat.ne_of_lt p6_45.lt
          have bge50_p5 : W.heap.size ≤ W45.heap.size := bel45.size
          refine hK.out _ _ ⟨c0_50, c1_50⟩ (fun hHeld => ?_)
          clear hK K
          try simp only [Act.put]
          refine rd5 (by kernel_rfl) (fun K hK => ?_)
          go_simp
          refine (onlyPlaces_any _ s.1 W50 lo' (HUW.1.keep (Carries.of lo' bel50)) hm HJ.out).mono ?_
          rintro e W51 ⟨rfl, hb51⟩
          have bel51 : Below W.heap.size W W51 := bel50.trans (hb51.mono bel50.size)
          have c0_51 := cell_carry c0_50 (Carries.of 0 hb51)
          have c1_51 := cell_carry c1_50 (Carries.of 0 hb51)
          have p6_51 := ArrAt.after p6_50 hb51
          have p5_51 := ArrAt.after new50 hb51
          rw [← HY.out]
          refine hK.out _ _ ⟨c0_51, c1_51⟩ (fun hHeld => ?_)
          clear hK K
          try simp only [Act.put]
          refine rd8 (by kernel_rfl) (fun K hK => ?_)
          rw [if_pos (by rfl)]
          refine wp_store_row 118 _ _ rfl W45.heap.size _ rfl rfl _ _ p5_51.1 (infoArr l1) (by simp [arr_length, l1, zeros_length]) (arr_all _) ?_
          have new52 : ArrAt (W51.setRow W45.heap.size (arr X).toArray) W45.heap.size X := ⟨setRow_heap _ _ _ _ _ _ p5_51.1, l1⟩
          have c0_52 : (W51.setRow W45.heap.size (arr X).toArray).cell? ⟨w.heap.size, 0, none⟩ = some (.slice a0 t.1.length k0) := (World.cell?_of_block (setRow_other _ _ _ _ (by have := bge50_p5; have := cell_old c0; simp at this ⊢; omega))).trans c0_51
          have c1_52 : (W51.setRow W45.heap.size (arr X).toArray).cell? ⟨w.heap.size + 1, 0, none⟩ = some (.slice b0 s.1.length m0) := (World.cell?_of_block (setRow_other _ _ _ _ (by have := bge50_p5; have := cell_old c1; simp at this ⊢; omega))).trans c1_51
          have p6_52 : ArrAt (W51.setRow W45.heap.size (arr X).toArray) W0.heap.size _ := ⟨(setRow_other _ _ _ _ ne50_p6).trans p6_51.1, p6_51.2⟩
          have bel52 : Below W.heap.size W (W51.setRow W45.heap.size (arr X).toArray) := below_setRow bel51 bge50_p5 _
          generalize W51.setRow W45.heap.size (arr X).toArray = W52 at *
          refine hK.out _ _ ⟨c0_52, c1_52⟩ (fun hHeld => ?_)
          clear hK K
          try simp only [Act.put]
          refine rd9 (by kernel_rfl) (fun K hK => ?_)
          rw [if_pos (by rfl)]
          refine wp_store_row 118 _ _ rfl W0.heap.size _ rfl rfl _ _ p6_52.1 (infoArr l2) (by simp [arr_length, l2, zeros_length]) (arr_all _) ?_
          have new53 : ArrAt (W52.setRow W0.heap.size (arr Y).toArray) W0.heap.size Y := ⟨setRow_heap _ _ _ _ _ _ p6_52.1, l2⟩
          have c0_53 : (W52.setRow W0.heap.size (arr Y).toArray).cell? ⟨w.heap.size, 0, none⟩ = some (.slice a0 t.1.length k0) := (World.cell?_of_block (setRow_other _ _ _ _ (by have := bge44_p6; have := cell_old c0; simp at this ⊢; omega))).trans c0_52
          have c1_53 : (W52.setRow W0.heap.size (arr Y).toArray).cell? ⟨w.heap.size + 1, 0, none⟩ = some (.slice b0 s.1.length m0) := (World.cell?_of_block (setRow_other _ _ _ _ (by have := bge44_p6; have := cell_old c1; simp at this ⊢; omega))).trans c1_52
          have p5_53 : ArrAt (W52.setRow W0.heap.size (arr Y).toArray) W45.heap.size _ := ⟨(setRow_other _ _ _ _ (Ne.symm ne50_p6)).trans new52.1, new52.2⟩
          have bel53 : Below W.heap.size W (W52.setRow W0.heap.size (arr Y).toArray) := below_setRow bel52 bge44_p6 _
          generalize W52.setRow W0.heap.size (arr Y).toArray = W53 at *
          refine hK.out _ _ ⟨c0_53, c1_53⟩ (fun hHeld => ?_)
          clear hK K
          try simp only [Act.put]
          refine wpAnyH_done (by kernel_rfl) ?_ _
          exact ⟨rfl, _, _, rfl, p5_53, new53, bel53, c0_53, c1_53⟩
        exact AllReadyH.nil
      refine ar6 (fun K hK => ?_) ?_
      ·
        go_simp
        have hb54 : Below W44.heap.size W44 (W44.alloc (.cells (arr zeros).toArray 118)) := (Below.refl _ _).alloc (Nat.le_refl _) _
        have new54 := ArrAt.new W44 zeros_length
        change K _ (W44.alloc (.cells (arr zeros).toArray 118))
        generalize W44.alloc (.cells (arr zeros).toArray 118) = W54 at hb54 new54 ⊢
        have bel54 : Below W.heap.size W W54 := bel44.trans (hb54.mono bel44.size)
        have c0_54 := cell_carry c0_44 (Carries.of 0 hb54)
        have c1_54 := cell_carry c1_44 (Carries.of 0 hb54)
        have p6_54 := ArrAt.after new44 hb54
        have ne54_p6 : W0.heap.size ≠ W44.heap.size := Nat.ne_of_lt new44.lt
        have bge54_p5 : W.heap.size ≤ W44.heap.size := bel44.size
        refine hK.out _ _ ⟨c0_54, c1_54⟩ (fun hHeld => ?_)
        clear hK K
        try simp only [Act.put]
        refine rd2 (by kernel_rfl) (fun K hK => ?_)
        go_simp
        refine (onlyPlaces_any _ t.1 W54 lo (HVW.1.keep (Carries.of lo bel54)) hn HI.out).mono ?_
        rintro e W55 ⟨rfl, hb55⟩
        have bel55 : Below W.heap.size W W55 := bel54.trans (hb55.mono bel54.size)
        have c0_55 := cell_carry c0_54 (Carries.of 0 hb55)
        have c1_55 := cell_carry c1_54 (Carries.of 0 hb55)
        have p6_55 := ArrAt.after p6_54 hb55
        have p5_55 := ArrAt.after new54 hb55
        rw [← HX.out]
        refine hK.out _ _ ⟨c0_55, c1_55⟩ (fun hHeld => ?_)
        clear hK K
        try simp only [Act.put]
        refine rd5 (by kernel_rfl) (fun K hK => ?_)
        go_simp
        refine (onlyPlaces_any _ s.1 W55 lo' (HUW.1.keep (Carries.of lo' bel55)) hm HJ.out).mono ?_
        rintro e W56 ⟨rfl, hb56⟩
        have bel56 : Below W.heap.size W W56 := bel55.trans (hb56.mono bel55.size)
        have c0_56 := cell_carry c0_55 (Carries.of 0 hb56)
        have c1_56 := cell_carry c1_55 (Carries.of 0 hb56)
        have p6_56 := ArrAt.after p6_55 hb56
        have p5_56 := ArrAt.after p5_55 hb56
        rw [← HY.out]
        refine hK.out _ _ ⟨c0_56, c1_56⟩ (fun hHeld => ?_)
        clear hK K
        try simp only [Act.put]
        refine rd8 (by kernel_rfl) (fun K hK => ?_)
        rw [if_pos (by rfl)]
        refine wp_store_row 118 _ _ rfl W44.heap.size _ rfl rfl _ _ p5_56.1 (infoArr l1) (by simp [arr_length, l1, zeros_length]) (arr_all _) ?_
        have new57 : ArrAt (W56.setRow W44.heap.size (arr X).toArray) W44.heap.size X := ⟨setRow_heap _ _ _ _ _ _ p5_56.1, l1⟩
        have c0_57 : (W56.setRow W44.heap.size (arr X).toArray).cell? ⟨w.heap.size, 0, none⟩ = some (.slice a0 t.1.length k0) := (World.cell?_of_block (setRow_other _ _ _ _ (by have := bge54_p5; have := cell_old c0; simp at this ⊢; omega))).trans c0_56
        have c1_57 : (W56.setRow W44.heap.size (arr X).toArray).cell? ⟨w.heap.size + 1, 0, none⟩ = some (.slice b0 s.1.length m0) := (World.cell?_of_block (setRow_other _ _ _ _ (by have := bge54_p5; have := cell_old c1; simp at this ⊢; omega))).trans c1_56
        have p6_57 : ArrAt (W56.setRow W44.heap.size (arr X).toArray) W0.heap.size _ := ⟨(setRow_other _ _ _ _ ne54_p6).trans p6_56.1, p6_56.2⟩
        have bel57 : Below W.heap.size W (W56.setRow W44.heap.size (arr X).toArray) := below_setRow bel56 bge54_p5 _
        generalize W56.setRow W44.heap.size (arr X).toArray = W57 at *
        refine hK.out _ _ ⟨c0_57, c1_57⟩ (fun hHeld => ?_)
        clear hK K
        try simp only [Act.put]
        refine rd9 (by kernel_rfl) (fun K hK => ?_)
        rw [if_pos (by rfl)]
        refine wp_store_row 118 _ _ rfl W0.heap.size _ rfl rfl _ _ p6_57.1 (infoArr l2) (by simp [arr_length, l2, zeros_length]) (arr_all _) ?_
        have new58 : ArrAt (W57.setRow W0.heap.size (arr Y).toArray) W0.heap.size Y := ⟨setRow_heap _ _ _ _ _ _ p6_57.1, l2⟩
        have c0_58 : (W57.setRow W0.heap.size (arr Y).toArray).cell? ⟨w.heap.size, 0, none⟩ = some (.slice a0 t.1.length k0) := (World.cell?_of_block (setRow_other _ _ _ _ (by have := bge44_p6; have := cell_old c0; simp at this ⊢; omega))).trans c0_57
        have c1_58 : (W57.setRow W0.heap.size (arr Y).toArray).cell? ⟨w.heap.size + 1, 0, none⟩ = some (.slice b0 s.1.length m0) := (World.cell?_of_block (setRow_other _ _ _ _ (by have := bge44_p6; have := cell_old c1; simp at this ⊢; omega))).trans c1_57
        have p5_58 : ArrAt (W57.setRow W0.heap.size (arr Y).toArray) W44.heap.size _ := ⟨(setRow_other _ _ _ _ (Ne.symm ne54_p6)).trans new57.1, new57.2⟩
        have bel58 : Below W.heap.size W (W57.setRow W0.heap.size (arr Y).toArray) := below_setRow bel57 bge44_p6 _
        generalize W57.setRow W0.heap.size (arr Y).toArray = W58 at *
        refine hK.out _ _ ⟨c0_58, c1_58⟩ (fun hHeld => ?_)
        clear hK K
        try simp only [Act.put]
        refine wpAnyH_done (by kernel_rfl) ?_ _
        exact ⟨rfl, _, _, rfl, p5_58, new58, bel58, c0_58, c1_58⟩
      exact AllReadyH.nil
    exact AllReadyH.nil
  rintro e a' W1 ⟨rfl, b, c, rfl, hB, hC, hb1, d0, d1⟩
  have hw1 : Below w.heap.size w W1 := hbW.trans (hb1.mono hbW.size)
  have HU1 := HU.out.keep (Carries.of lo' hw1)
  clear hb1 c0 c1 hbW
  go_wp2_with fail
  refine wp_region_held_drew (S := fun w' => w'.cell? ⟨w.heap.size + 1, 0, none⟩ = some (.slice b0 s.1.length m0) ∧ w'.rangeAt b 0 (arr X) ∧ w'.rangeAt c 0 (arr Y)) (by kernel_rfl) ⟨d1, hB.range, hC.range⟩ (fun hHeld => ?_)
  refine tk0 (by kernel_rfl) (by kernel_rfl) (by kernel_rfl) (by first | exact fun _ _ _ h => h | exact fun _ _ _ h => absurd h.1 (by simp)) (yieldsIf_load_mid (by rfl) _ _ rfl _ _ rfl _ _ (fun w hS => hS.2.1) g1 rfl g2) (by assumption) ?_
  try simp only [Act.put, List.setIfInBounds_toArray, List.set_cons_zero, List.set_cons_succ]
  refine tk1 (by kernel_rfl) (by kernel_rfl) (by kernel_rfl) (by first | exact fun _ _ _ h => h | exact fun _ _ _ h => absurd h.1 (by simp)) (yieldsIf_load_mid (by rfl) _ _ rfl _ _ rfl _ _ (fun w hS => hS.2.2) g1 rfl g3) (by assumption) ?_
  try simp only [Act.put, List.setIfInBounds_toArray, List.set_cons_zero, List.set_cons_succ]
  refine tk2 (v := ?_) (by kernel_rfl) (by kernel_rfl) (by kernel_rfl) (by first | exact fun _ _ _ h => h | exact fun _ _ _ h => absurd h.1 (by simp)) (Or.inl ⟨by rfl, ?_⟩) (by assumption) ?_
  rotate_left 1
  focus (intro wx hSw; (try dsimp only at hSw); go_simp; try (with_reducible rfl))
  try simp only [Act.put, List.setIfInBounds_toArray, List.set_cons_zero, List.set_cons_succ]
  refine tk3 (v := ?_) (by kernel_rfl) (by kernel_rfl) (by kernel_rfl) (by first | exact fun _ _ _ h => h | exact fun _ _ _ h => absurd h.1 (by simp)) (Or.inl ⟨by rfl, ?_⟩) (by assumption) ?_
  rotate_left 1
  focus (intro wx hSw; (try dsimp only at hSw); go_simp; try (with_reducible rfl))
  try simp only [Act.put, List.setIfInBounds_toArray, List.set_cons_zero, List.set_cons_succ]
  cases r1 with
  | true =>
    refine tk4 (by kernel_rfl) (by kernel_rfl) (by kernel_rfl) (by first | exact fun _ _ _ h => h | exact fun _ _ _ h => absurd h.1 (by simp)) (Or.inr ⟨by rfl, rfl⟩) (by assumption) ?_
    try simp only [Act.put, List.setIfInBounds_toArray, List.set_cons_zero, List.set_cons_succ]
    refine tk5 (by kernel_rfl) (by kernel_rfl) (by kernel_rfl) (by first | exact fun _ _ _ h => h | exact fun _ _ _ h => absurd h.1 (by simp)) (Or.inr ⟨by rfl, rfl⟩) (by assumption) ?_
    try simp only [Act.put, List.setIfInBounds_toArray, List.set_cons_zero, List.set_cons_succ]
    refine tk6 (by kernel_rfl) (by kernel_rfl) (by kernel_rfl) (by first | exact fun _ _ _ h => h | exact fun _ _ _ h => absurd h.1 (by simp)) (Or.inr ⟨by rfl, rfl⟩) (by assumption) ?_
    try simp only [Act.put, List.setIfInBounds_toArray, List.set_cons_zero, List.set_cons_succ]
    refine tk7 (by kernel_rfl) (by kernel_rfl) (by kernel_rfl) (by first | exact fun _ _ _ h => h | exact fun _ _ _ h => absurd h.1 (by simp)) (Or.inr ⟨by rfl, rfl⟩) (by assumption) ?_
    try simp only [Act.put, List.setIfInBounds_toArray, List.set_cons_zero, List.set_cons_succ]
    refine tk8 (by kernel_rfl) (by kernel_rfl) (by kernel_rfl) (by first | exact fun _ _ _ h => h | exact fun _ _ _ h => absurd h.1 (by simp)) (Or.inr ⟨by rfl, rfl⟩) (by assumption) ?_
    try simp only [Act.put, List.setIfInBounds_toArray, List.set_cons_zero, List.set_cons_succ]
    refine tk9 (by kernel_rfl) (by kernel_rfl) (by kernel_rfl) (by first | exact fun _ _ _ h => h | exact fun _ _ _ h => absurd h.1 (by simp)) (Or.inr ⟨by rfl, rfl⟩) (by assumption) ?_
    try simp only [Act.put, List.setIfInBounds_toArray, List.set_cons_zero, List.set_cons_succ]
    refine tk10 (v := ?_) (by kernel_rfl) (by kernel_rfl) (by kernel_rfl) (by first | exact fun _ _ _ h => h | exact fun _ _ _ h => absurd h.1 (by simp)) (Or.inl ⟨by rfl, ?_⟩) (by assumption) ?_
    rotate_left 1
    focus (intro wx hSw; (try dsimp only at hSw); go_simp; try (with_reducible rfl))
    try simp only [Act.put, List.setIfInBounds_toArray, List.set_cons_zero, List.set_cons_succ]
    refine tk11 (v := ?_) (by kernel_rfl) (by kernel_rfl) (by kernel_rfl) (by first | exact fun _ _ _ h => h | exact fun _ _ _ h => absurd h.1 (by simp)) (Or.inl ⟨by rfl, ?_⟩) (by assumption) ?_
    rotate_left 1
    focus (intro wx hSw; (try dsimp only at hSw); go_simp; try (with_reducible rfl))
    try simp only [Act.put, List.setIfInBounds_toArray, List.set_cons_zero, List.set_cons_succ]
    refine wpAnyH_done (by kernel_rfl) ?_ _
    go_wp2_with fail
    go_ret
    exact ⟨rfl, hw1.drew⟩
  | false =>
    refine tk4 (by kernel_rfl) (by kernel_rfl) (by kernel_rfl) (by first | exact fun _ _ _ h => h | exact fun _ _ _ h => absurd h.1 (by simp)) (yieldsIf_load_mid (by rfl) _ _ rfl _ _ rfl _ _ (fun w hS => hS.2.1) g1 rfl g2) (by assumption) ?_
    try simp only [Act.put, List.setIfInBounds_toArray, List.set_cons_zero, List.set_cons_succ]
    refine tk5 (v := ?_) (by kernel_rfl) (by kernel_rfl) (by kernel_rfl) (by first | exact fun _ _ _ h => h | exact fun _ _ _ h => absurd h.1 (by simp)) (Or.inl ⟨by rfl, ?_⟩) (by assumption) ?_
    rotate_left 1
    focus (intro wx hSw; (try dsimp only at hSw); go_simp; try (with_reducible rfl))
    try simp only [Act.put, List.setIfInBounds_toArray, List.set_cons_zero, List.set_cons_succ]
    refine tk6 (v := ?_) (by kernel_rfl) (by kernel_rfl) (by kernel_rfl) (by first | exact fun _ _ _ h => h | exact fun _ _ _ h => absurd h.1 (by simp)) (Or.inl ⟨by rfl, ?_⟩) (by assumption) ?_
    rotate_left 1
    focus (intro wx hSw; (try dsimp only at hSw); go_simp; try (with_reducible rfl))
    try simp only [Act.put, List.setIfInBounds_toArray, List.set_cons_zero, List.set_cons_succ]
    refine tk8 (by kernel_rfl) (by kernel_rfl) (by kernel_rfl) (by first | exact fun _ _ _ h => h | exact fun _ _ _ h => absurd h.1 (by simp)) (yieldsIf_load_mid (by rfl) _ _ rfl _ _ rfl _ _ (fun w hS => hS.2.1) g1 rfl g2) (by assumption) ?_
    try simp only [Act.put, List.setIfInBounds_toArray, List.set_cons_zero, List.set_cons_succ]
    refine rd7 (by kernel_rfl) (fun K hK => ?_)
    go_simp
    refine (withoutPlaces_any X l1 _ s.1 W1.drew lo' (HU1.1.keep (Carries.of lo' (Below.refl _ _).drew)) hm HJ.out).mono ?_
    rintro e W2 ⟨rfl, hb2⟩
    rw [← HZ.out]
    have hB2 := ArrAt.after (w := W1.drew) hB hb2
    refine hK.out _ _ ⟨cell_carry (w := W1.drew) d1 (Carries.of 0 hb2), (ArrAt.after (w := W1.drew) hB hb2).range, (ArrAt.after (w := W1.drew) hC hb2).range⟩ (fun hHeld => ?_)
    clear hK K
    try simp only [Act.put, List.setIfInBounds_toArray, List.set_cons_zero, List.set_cons_succ]
    refine tk9 (v := ?_) (by kernel_rfl) (by kernel_rfl) (by kernel_rfl) (by first | exact fun _ _ _ h => h | exact fun _ _ _ h => absurd h.1 (by simp)) (Or.inl ⟨by rfl, ?_⟩) (by assumption) ?_
    rotate_left 1
    focus (intro wx hSw; (try dsimp only at hSw); go_simp; try (with_reducible rfl))
    try simp only [Act.put, List.setIfInBounds_toArray, List.set_cons_zero, List.set_cons_succ]
    refine tk10 (v := ?_) (by kernel_rfl) (by kernel_rfl) (by kernel_rfl) (by first | exact fun _ _ _ h => h | exact fun _ _ _ h => absurd h.1 (by simp)) (Or.inl ⟨by rfl, ?_⟩) (by assumption) ?_
    rotate_left 1
    focus (intro wx hSw; (try dsimp only at hSw); go_simp; try (with_reducible rfl))
    try simp only [Act.put, List.setIfInBounds_toArray, List.set_cons_zero, List.set_cons_succ]
    refine tk11 (v := ?_) (by kernel_rfl) (by kernel_rfl) (by kernel_rfl) (by first | exact fun _ _ _ h => h | exact fun _ _ _ h => absurd h.1 (by simp)) (Or.inl ⟨by rfl, ?_⟩) (by assumption) ?_
    rotate_left 1
    focus (intro wx hSw; (try dsimp only at hSw); go_simp; try (with_reducible rfl))
    try simp only [Act.put, List.setIfInBounds_toArray, List.set_cons_zero, List.set_cons_succ]
    refine wpAnyH_done (by kernel_rfl) ?_ _
    go_wp2_with fail
    go_ret
    exact ⟨rfl, hw1.trans (Below.trans (b := W1.drew) (Below.refl _ _).drew (hb2.mono hw1.size))⟩

end Go.Proofs.Ytkkfglolameogaa
