/- DRAWS: anyNet. -/
import Derived.Test.YtkkfglolameogaaVDnet
namespace Go.Proofs.Ytkkfglolameogaa
open Go.RowKit

theorem NetRow.len {B k : Nat} {w : World} {a : Option Addr} {n c : Nat} (h : NetRow B k w (.slice a n c)) : ∃ (ts : List Tr) (xs : List Value), ts.length = n ∧ n ≤ k ∧ (∀ i, i < ts.length → (ts.getD i ([], [])).1.length ≤ 2 ∧ (ts.getD i ([], [])).2.length ≤ 2) ∧ w.ownsRow B 64 2 (.slice a n c) n xs ∧ OwnTrs B w xs n ts := by
  obtain ⟨ts, xs, h1, h2, hr, h3⟩ := h
  obtain ⟨a', c', e⟩ := owns_form hr
  simp only [Value.slice.injEq] at e
  obtain ⟨rfl, rfl, rfl⟩ := e
  exact ⟨ts, xs, rfl, h1, h2, hr, h3⟩
/-- the first transition's list written anew -/
theorem NetRow.store {B k g n cap o : Nat} {w : World} {v : Value} (ho : o = 0 ∨ o = 1) (h : NetRow B k w (.slice (some ⟨g, 0, none⟩) n cap)) (hn : 0 < n) (hs : SetRow B 2 w v) :
    NetRow B k (w.setCell ⟨g, o, none⟩ v) (.slice (some ⟨g, 0, none⟩) n cap) := by
  obtain ⟨ts, xs, hl, hk, hls, hr, hx⟩ := h.len
  have hlen := hx.1
  obtain ⟨zs, hz, hrow⟩ := hs
  have hT : TyAt w g 64 := by
    rcases hr.2 with ⟨e, _⟩ | ⟨g', cap', cur, e, _, hg, _⟩
    · cases e
    · simp only [Value.slice.injEq, Option.some.injEq, Addr.mk.injEq, and_true, true_and] at e
      obtain ⟨rfl, _⟩ := e
      exact ⟨_, _, hg⟩
  have s1 := hr.stored o v
  have hx2 := hx.setT (p := ⟨g, o, none⟩) hT (by decide) v
  have hrow2 := owns_setT hrow (p := ⟨g, o, none⟩) hT (by decide) v
  obtain ⟨v0, v1, e0, e1, q0, q1⟩ := hx2.2 0 hn
  obtain ⟨l0, l1⟩ := hls 0 (by omega)
  simp only [Nat.zero_mul, Nat.zero_add] at e0 e1
  have hget : ∀ i, i < ts.length → ∀ t : Tr, (ts.set 0 t).getD i ([], []) = if i = 0 then t else ts.getD i ([], []) := fun i hi t => by
    by_cases e : i = 0
    · subst e; simp [List.getD, hi]
    · rw [if_neg e]; simp [List.getD, List.getElem?_set_ne (Ne.symm e)]
  rcases ho with rfl | rfl
  · refine ⟨ts.set 0 (zs, (ts.getD 0 ([], [])).2), xs.set 0 v, by simp; omega, fun i hi => ?_, by rw [List.length_set, hl]; exact s1.1, by simp only [List.length_set]; omega, fun i hi => ?_⟩
    · rw [List.length_set] at hi
      rw [hget i hi]; split
      · exact ⟨hz, l1⟩
      · exact hls i hi
    · rw [List.length_set] at hi
      rw [hget i hi]
      by_cases e : i = 0
      · subst e
        rw [if_pos rfl]
        exact ⟨v, v1, by rw [Nat.zero_mul, List.getElem?_set_self (by omega)], by rw [List.getElem?_set_ne (by omega)]; simpa using e1, hrow2, q1⟩
      · rw [if_neg e]
        obtain ⟨u0, u1, f0, f1, g0, g1⟩ := hx2.2 i (by omega)
        exact ⟨u0, u1, by rw [List.getElem?_set_ne (by omega)]; exact f0, by rw [List.getElem?_set_ne (by omega)]; exact f1, g0, g1⟩
  · refine ⟨ts.set 0 ((ts.getD 0 ([], [])).1, zs), xs.set 1 v, by simp; omega, fun i hi => ?_, by rw [List.length_set, hl]; exact s1.1, by simp only [List.length_set]; omega, fun i hi => ?_⟩
    · rw [List.length_set] at hi
      rw [hget i hi]; split
      · exact ⟨l0, hz⟩
      · exact hls i hi
    · rw [List.length_set] at hi
      rw [hget i hi]
      by_cases e : i = 0
      · subst e
        rw [if_pos rfl]
        exact ⟨v0, v, by rw [List.getElem?_set_ne (by omega)]; simpa using e0, by rw [Nat.zero_mul, Nat.zero_add, List.getElem?_set_self (by omega)], q0, hrow2⟩
      · rw [if_neg e]
        obtain ⟨u0, u1, f0, f1, g0, g1⟩ := hx2.2 i (by omega)
        exact ⟨u0, u1, by rw [List.getElem?_set_ne (by omega)]; exact f0, by rw [List.getElem?_set_ne (by omega)]; exact f1, g0, g1⟩
theorem NetRow.farG {B k : Nat} {t : TypeId} {w : World} {u : Value} (h : NetRow B k w u) {q : Addr} (hT : TyAt w q.block t) (hne : 3 ≠ t) (hneu : some q.block ≠ u.ownBlock) (v : Value) : NetRow B k (w.setCell q v) u := by
  obtain ⟨ts, xs, h1, h2, hr, h3⟩ := h
  exact ⟨ts, xs, h1, h2, hr.kept (grownBy_set w q v) (Or.inr (fun e => hneu e.symm)), h3.setT hT hne v⟩
theorem setRow_two (w : World) (x y : Int) : SetRow w.heap.size 2 (w.alloc (.cells #[.int .i64 x, .int .i64 y] 3)) (.slice (some ⟨w.heap.size, 0, none⟩) 2 2) :=
  ⟨[x, y], Nat.le_refl _, rfl, Or.inr ⟨w.heap.size, 2, #[.int .i64 x, .int .i64 y], rfl, Nat.le_refl _, heap_alloc_new w _, Nat.le_refl _, by decide, rfl, rfl⟩⟩
theorem ints_four (w : World) (x y z u : Int) : IntsAt w.heap.size (w.alloc (.cells #[.int .i64 x, .int .i64 y, .int .i64 z, .int .i64 u] 3)) (.slice (some ⟨w.heap.size, 0, none⟩) 4 4) [x, y, z, u] := by
  refine ⟨_, 4, rfl, Nat.le_refl _, Or.inr ⟨w.heap.size, 0, rfl, Nat.le_refl _, fun i hi => ?_⟩⟩
  simp at hi
  rcases (by omega : i = 0 ∨ i = 1 ∨ i = 2 ∨ i = 3) with rfl | rfl | rfl | rfl <;> simp

set_option maxRecDepth 100000 in
set_option maxHeartbeats 8000000 in
theorem anyNet_any (b a : Nat) (w : World) (hc : CurAt b w a) (ha : a ≤ 1099511610000) :
    Calls Try.prog 105 #[.pointer (some ⟨b, 0, none⟩)] w (fun e w' => ∃ (p : Int) (u : Value) (a' : Nat), e = .returned (.agg #[.int .i64 p, u]) ∧ 0 ≤ p ∧ p ≤ 31 ∧ NetRow w.heap.size 4 w' u ∧ a' ≤ a + 110 ∧ CurAt b w' a' ∧ w.grownBy w' (some b)) := by
  have hbo := hc.old
  have hal : Below w.heap.size w (w.alloc (.cells #[.int .i64 0, .slice none 0 0] 32)) := (Below.refl _ _).alloc (Nat.le_refl _) _
  have HC := Lib.hid (hc.below hal); clear hc
  have zal : (w.alloc (.cells #[.int .i64 0, .slice none 0 0] 32)).heap.size = w.heap.size + 1 := by simp
  go_enter Try.func105, Try.ntmps105
  go_wp2_with fail
  refine (net_any b a _ HC.out (by omega)).mono ?_
  rintro e w1 ⟨P, u, a1, rfl, p0, p1, hnr, ha1, hc1, hg1⟩
  obtain ⟨ua, un, uc, rfl⟩ := hnr.form
  have z0 : w.heap.size + 1 ≤ w1.heap.size := by have := hg1.size; simp at this; omega
  have BR := Lib.hid ((NBox.new w (.int .i64 0) (.slice none 0 0) 32).cur hg1 (by omega))
  have HG1 := Lib.hid (Lib.grownBy_trans (grown_below hal) hg1); clear hg1 hal HC
  rw [zal] at hnr
  have hal : Below w1.heap.size w1 (w1.alloc (.cells #[.int .i64 P, .slice ua un uc] 32)) := (Below.refl _ _).alloc (Nat.le_refl _) _
  have HC2 := Lib.hid (hc1.below hal); clear hc1
  have BR2 := Lib.hid (BR.out.after hal); clear BR
  have BN2 := Lib.hid (NBox.new w1 (.int .i64 P) (.slice ua un uc) 32)
  have TN2 := Lib.hid (TyAt.new w1 #[.int .i64 P, .slice ua un uc] 32)
  have NR2 := Lib.hid (hnr.after hal)
  have hune : ∀ q, (Value.slice ua un uc).ownBlock = some q → q < w1.heap.size ∧ w.heap.size + 1 ≤ q := fun q hq => by
    obtain ⟨ts, xs, _, _, hr, _⟩ := hnr
    exact ⟨(hr.lt q hq).2, (hr.lt q hq).1⟩
  have HUN := Lib.hid hune; clear hune hnr
  have HG2 := Lib.hid (Lib.grownBy_trans HG1.out (grown_below hal)); clear HG1
  have z1 : (w1.alloc (.cells #[.int .i64 P, .slice ua un uc] 32)).heap.size = w1.heap.size + 1 := by simp
  have m1 : (w1.alloc (.cells #[.int .i64 P, .slice ua un uc] 32)).cell? ⟨w1.heap.size, 1, none⟩ = some (.slice ua un uc) := BN2.out.2.1
  by_cases h0 : 0 < un
  case neg =>
    have t0 : decide ((0 : Int) < (un : Int)) = false := decide_eq_false (by omega)
    have h00 : un = 0 := by omega
    subst h00
    have BRF := Lib.hid ((BR2.out.set0 (.int .i64 P)).set1 (.slice ua 0 uc))
    have NRF := Lib.hid ((NR2.out.setLow (q := ⟨w.heap.size, 0, none⟩) (Nat.lt_succ_self _) (.int .i64 P)).setLow (q := ⟨w.heap.size, 1, none⟩) (Nat.lt_succ_self _) (.slice ua 0 uc))
    have CUF := Lib.hid ((HC2.out.far (q := ⟨w.heap.size, 0, none⟩) hbo (.int .i64 P)).far (q := ⟨w.heap.size, 1, none⟩) hbo (.slice ua 0 uc))
    have GRF := Lib.hid (grown_setNew (grown_setNew HG2.out (q := ⟨w.heap.size, 0, none⟩) (Nat.le_refl _) (.int .i64 P)) (q := ⟨w.heap.size, 1, none⟩) (Nat.le_refl _) (.slice ua 0 uc))
    obtain ⟨n0, n1, _, _⟩ := BN2.out
    obtain ⟨r0_, r1_, rf0, rf1⟩ := BR2.out
    go_wp2_with fail
    generalize (((w1.alloc (.cells #[.int .i64 P, .slice ua 0 uc] 32)).setCell ⟨w.heap.size, 0, none⟩ (.int .i64 P)).setCell ⟨w.heap.size, 1, none⟩ (.slice ua 0 uc)) = WX at BRF NRF CUF GRF ⊢
    obtain ⟨q0, q1, _, _⟩ := BRF.out
    refine bodyPost_ret (v := .agg #[.int .i64 P, .slice ua 0 uc]) (by simp [results, Try.results105, go_sem, q0, q1]) rfl ?_
    exact ⟨_, _, a1, rfl, by omega, by omega, NRF.out.low (Nat.le_succ _) (Nat.le_refl _), by omega, CUF.out, GRF.out⟩
  have t0 : decide ((0 : Int) < (un : Int)) = true := decide_eq_true (by omega)
  have t0' : (0 : Int) < (un : Int) := by omega
  obtain ⟨g, rfl⟩ : ∃ g, ua = some ⟨g, 0, none⟩ := by
    obtain ⟨ts, xs, _, _, _, hr, _⟩ := NR2.out.len
    rcases hr.2 with ⟨e, h⟩ | ⟨g, cap, cur, e, _⟩
    · omega
    · simp only [Value.slice.injEq] at e; exact ⟨g, e.1⟩
  have hg0 := HUN.out g rfl
  have hgn : g ≠ w1.heap.size := by omega
  go_wp2_with fail
  clear m1
  generalize (w1.alloc (.cells #[.int .i64 P, .slice (some ⟨g, 0, none⟩) un uc] 32)) = w2 at HC2 BR2 BN2 TN2 NR2 HG2 z1 ⊢
  refine (pick_any b a1 20 w2 HC2.out (by omega) (by omega) (by omega)).mono ?_
  rintro e w3 ⟨r, a3, rfl, r0, r1, ha3, hc3, hg3⟩
  have BR3 := Lib.hid (BR2.out.cur hg3 (by omega)); clear BR2
  have BN3 := Lib.hid (BN2.out.cur hg3 (by omega)); clear BN2
  have NR3 := Lib.hid (NR2.out.cur hg3 (by omega)); clear NR2
  have HG3 := Lib.hid (Lib.grownBy_trans HG2.out hg3); clear HG2
  have z3 := hg3.size
  have HC3 := Lib.hid hc3; 
  have TN3 := Lib.hid (TN2.out.grown hg3 (fun e => by injection e with e; omega)); clear hc3 hg3 HC2 TN2
  by_cases e0 : r = 0
  · subst e0
    obtain ⟨ts, xs, _, _, _, hr, hx⟩ := NR3.out.len
    obtain ⟨v0, v1, x0, x1, _, _⟩ := hx.2 0 (by omega)
    have k0 := (hr.cellAt 0 (by omega)).trans x0
    have kf := hr.frozenAt 0
    have hnil : SetRow (w.heap.size + 1) 2 w3 (.slice none 0 0) := ⟨[], Nat.zero_le _, World.ownsRow_nil _ _ _ _⟩
    have NR4 := Lib.hid (NR3.out.store (o := 0) (Or.inl rfl) (by omega) hnil)
    have BN4 := Lib.hid (BN3.out.far (q := ⟨g, 0, none⟩) hgn (.slice none 0 0))
    have BR4 := Lib.hid (BR3.out.far (q := ⟨g, 0, none⟩) (by show g ≠ w.heap.size; omega) (.slice none 0 0))
    have HC4 := Lib.hid (HC3.out.far (q := ⟨g, 0, none⟩) (by show b < g; omega) (.slice none 0 0))
    have HG4 := Lib.hid (grown_setNew HG3.out (q := ⟨g, 0, none⟩) (by show w.heap.size ≤ g; omega) (.slice none 0 0))
    have n1_3 := BN3.out.2.1
    clear hr hx x0 x1 hnil
    have BRF := Lib.hid ((BR4.out.set0 (.int .i64 P)).set1 (.slice (some ⟨g, 0, none⟩) un uc))
    have NRF := Lib.hid ((NR4.out.setLow (q := ⟨w.heap.size, 0, none⟩) (Nat.lt_succ_self _) (.int .i64 P)).setLow (q := ⟨w.heap.size, 1, none⟩) (Nat.lt_succ_self _) (.slice (some ⟨g, 0, none⟩) un uc))
    have CUF := Lib.hid ((HC4.out.far (q := ⟨w.heap.size, 0, none⟩) hbo (.int .i64 P)).far (q := ⟨w.heap.size, 1, none⟩) hbo (.slice (some ⟨g, 0, none⟩) un uc))
    have GRF := Lib.hid (grown_setNew (grown_setNew HG4.out (q := ⟨w.heap.size, 0, none⟩) (Nat.le_refl _) (.int .i64 P)) (q := ⟨w.heap.size, 1, none⟩) (Nat.le_refl _) (.slice (some ⟨g, 0, none⟩) un uc))
    obtain ⟨n0, n1, _, _⟩ := BN4.out
    obtain ⟨r0_, r1_, rf0, rf1⟩ := BR4.out
    go_wp2_with fail
    generalize (((w3.setCell ⟨g, 0, none⟩ (.slice none 0 0)).setCell ⟨w.heap.size, 0, none⟩ (.int .i64 P)).setCell ⟨w.heap.size, 1, none⟩ (.slice (some ⟨g, 0, none⟩) un uc)) = WX at BRF NRF CUF GRF ⊢
    obtain ⟨q0, q1, _, _⟩ := BRF.out
    refine bodyPost_ret (v := .agg #[.int .i64 P, .slice (some ⟨g, 0, none⟩) un uc]) (by simp [results, Try.results105, go_sem, q0, q1]) rfl ?_
    exact ⟨_, _, a3, rfl, by omega, by omega, NRF.out.low (Nat.le_succ _) (Nat.le_refl _), by omega, CUF.out, GRF.out⟩
  have t1 : (r == 0) = false := by rw [beq_eq_false_iff_ne]; exact e0
  by_cases e1 : r = 1
  · subst e1
    clear t1 e0
    have n1_3 := BN3.out.2.1
    go_wp2_with fail
    refine wp_region_held_drew (S := fun w' => w'.cell? ⟨w1.heap.size, 1, none⟩ = some (.slice (some ⟨g, 0, none⟩) un uc)) (by kernel_rfl) n1_3 (fun hHeld => ?_)
    have hd : Below w3.heap.size w3 w3.drew := (Below.refl _ _).drew
    have hdg : w3.grownBy w3.drew (some b) := grown_below hd
    have HC4 := Lib.hid (HC3.out.below hd); clear HC3
    have BR4 := Lib.hid (BR3.out.cur hdg (by omega)); clear BR3
    have BN4 := Lib.hid (BN3.out.cur hdg (by omega)); clear BN3
    have NR4 := Lib.hid (NR3.out.cur hdg (by omega)); clear NR3
    have HG4 := Lib.hid (Lib.grownBy_trans HG3.out hdg); clear HG3
    have zw4 := hdg.size
    have n1_4 := cell_carry n1_3 (Carries.of 0 hd)
    clear hd hdg n1_3 TN3
    generalize w3.drew = W4 at HC4 BR4 BN4 NR4 HG4 n1_4 zw4 hHeld ⊢
    refine tk0 (v := ?_) (by kernel_rfl) (by kernel_rfl) (by kernel_rfl) (by first | exact fun _ _ _ h => h | exact fun _ _ _ h => absurd h.1 (by simp)) (Or.inl ⟨by rfl, ?_⟩) (by assumption) ?_
    rotate_left 1
    focus (intro wx hSw; (try dsimp only at hSw); go_simp; try (with_reducible rfl))
    try simp only [Act.put, List.setIfInBounds_toArray, List.set_cons_zero, List.set_cons_succ]
    refine tk1 (v := ?_) (by kernel_rfl) (by kernel_rfl) (by kernel_rfl) (by first | exact fun _ _ _ h => h | exact fun _ _ _ h => absurd h.1 (by simp)) (Or.inl ⟨by rfl, ?_⟩) (by assumption) ?_
    rotate_left 1
    focus (intro wx hSw; (try dsimp only at hSw); go_simp; try (with_reducible rfl))
    try simp only [Act.put, List.setIfInBounds_toArray, List.set_cons_zero, List.set_cons_succ]
    refine tk2 (v := ?_) (by kernel_rfl) (by kernel_rfl) (by kernel_rfl) (by first | exact fun _ _ _ h => h | exact fun _ _ _ h => absurd h.1 (by simp)) (Or.inl ⟨by rfl, ?_⟩) (by assumption) ?_
    rotate_left 1
    focus (intro wx hSw; (try dsimp only at hSw); go_simp; try (with_reducible rfl))
    try simp only [Act.put, List.setIfInBounds_toArray, List.set_cons_zero, List.set_cons_succ]
    refine rd3 (by kernel_rfl) (fun K hK => ?_)
    go_simp
    refine (pick_any b a3 8 W4 HC4.out (by omega) (by omega) (by omega)).mono ?_
    rintro e W5 ⟨r5, a5, rfl, r50, r51, ha5, hc5, hg5⟩
    have BR5 := Lib.hid (BR4.out.cur hg5 (by omega)); clear BR4
    have BN5 := Lib.hid (BN4.out.cur hg5 (by omega)); clear BN4
    have NR5 := Lib.hid (NR4.out.cur hg5 (by omega)); clear NR4
    have HG5 := Lib.hid (Lib.grownBy_trans HG4.out hg5); clear HG4
    have zw5 := hg5.size
    have n1_5 := hg5.cell n1_4 (by simp; omega)
    have HC5 := Lib.hid hc5; clear hc5 hg5 HC4 n1_4
    refine hK.out _ _ n1_5 (fun hHeld => ?_)
    clear hK K
    try simp only [Act.put, List.setIfInBounds_toArray, List.set_cons_zero, List.set_cons_succ]
    refine rd4 (by kernel_rfl) (fun K hK => ?_)
    go_simp
    have hal : Below W5.heap.size W5 (W5.alloc (.cells #[.int .i64 r5, .int .i64 1] 3)) := (Below.refl _ _).alloc (Nat.le_refl _) _
    have hdg : W5.grownBy (W5.alloc (.cells #[.int .i64 r5, .int .i64 1] 3)) (some b) := grown_below hal
    have HC6 := Lib.hid (HC5.out.below hal); clear HC5
    have BR6 := Lib.hid (BR5.out.cur hdg (by omega)); clear BR5
    have BN6 := Lib.hid (BN5.out.cur hdg (by omega)); clear BN5
    have NR6 := Lib.hid (NR5.out.cur hdg (by omega)); clear NR5
    have HG6 := Lib.hid (Lib.grownBy_trans HG5.out hdg); clear HG5
    have zw6 := hdg.size
    have n1_6 := cell_carry n1_5 (Carries.of 0 hal)
    have S6 := Lib.hid ((setRow_two W5 r5 1).low (B' := w.heap.size + 1) (by omega) (Nat.le_refl _))
    have zn6 : (W5.alloc (.cells #[.int .i64 r5, .int .i64 1] 3)).heap.size = W5.heap.size + 1 := by simp
    clear hal hdg n1_5
    change K _ (W5.alloc (.cells #[.int .i64 r5, .int .i64 1] 3))
    generalize (W5.alloc (.cells #[.int .i64 r5, .int .i64 1] 3)) = W6 at HC6 BR6 BN6 NR6 HG6 n1_6 S6 zw6 zn6 ⊢
    refine hK.out _ _ n1_6 (fun hHeld => ?_)
    clear hK K
    try simp only [Act.put, List.setIfInBounds_toArray, List.set_cons_zero, List.set_cons_succ]
    refine tk5 (v := ?_) (by kernel_rfl) (by kernel_rfl) (by kernel_rfl) (by first | exact fun _ _ _ h => h | exact fun _ _ _ h => absurd h.1 (by simp)) (Or.inl ⟨by rfl, ?_⟩) (by assumption) ?_
    rotate_left 1
    focus (intro wx hSw; (try dsimp only at hSw); go_simp; try (with_reducible rfl))
    try simp only [Act.put, List.setIfInBounds_toArray, List.set_cons_zero, List.set_cons_succ]
    refine tk6 (v := ?_) (by kernel_rfl) (by kernel_rfl) (by kernel_rfl) (by first | exact fun _ _ _ h => h | exact fun _ _ _ h => absurd h.1 (by simp)) (Or.inl ⟨by rfl, ?_⟩) (by assumption) ?_
    rotate_left 1
    focus (intro wx hSw; (try dsimp only at hSw); go_simp; try (with_reducible rfl))
    try simp only [Act.put, List.setIfInBounds_toArray, List.set_cons_zero, List.set_cons_succ]
    obtain ⟨ts, xs, _, _, _, hr, hx⟩ := NR6.out.len
    obtain ⟨v0, v1, x0, x1, _, _⟩ := hx.2 0 (by omega)
    have k0 := (hr.cellAt 1 (by omega)).trans x1
    have kf := hr.frozenAt 1
    clear hr hx x0 x1
    refine rd7 (by kernel_rfl) (fun K hK => ?_)
    go_simp
    have NR7 := Lib.hid (NR6.out.store (o := 1) (Or.inr rfl) (by omega) S6.out)
    have BN7 := Lib.hid (BN6.out.far (q := ⟨g, 1, none⟩) hgn (.slice (some ⟨W5.heap.size, 0, none⟩) 2 2))
    have BR7 := Lib.hid (BR6.out.far (q := ⟨g, 1, none⟩) (by show g ≠ w.heap.size; omega) (.slice (some ⟨W5.heap.size, 0, none⟩) 2 2))
    have HC7 := Lib.hid (HC6.out.far (q := ⟨g, 1, none⟩) (by show b < g; omega) (.slice (some ⟨W5.heap.size, 0, none⟩) 2 2))
    have HG7 := Lib.hid (grown_setNew HG6.out (q := ⟨g, 1, none⟩) (by show w.heap.size ≤ g; omega) (.slice (some ⟨W5.heap.size, 0, none⟩) 2 2))
    have n1_7 : (W6.setCell ⟨g, 1, none⟩ (.slice (some ⟨W5.heap.size, 0, none⟩) 2 2)).cell? ⟨w1.heap.size, 1, none⟩ = some (.slice (some ⟨g, 0, none⟩) un uc) := BN7.out.2.1
    clear k0 kf
    generalize (W6.setCell ⟨g, 1, none⟩ (.slice (some ⟨W5.heap.size, 0, none⟩) 2 2)) = W7 at NR7 BN7 BR7 HC7 HG7 n1_7 ⊢
    refine hK.out _ _ n1_7 (fun hHeld => ?_)
    clear hK K
    try simp only [Act.put, List.setIfInBounds_toArray, List.set_cons_zero, List.set_cons_succ]
    refine wpAnyH_done (by kernel_rfl) ?_ _
    clear n1_7
    have BRF := Lib.hid ((BR7.out.set0 (.int .i64 P)).set1 (.slice (some ⟨g, 0, none⟩) un uc))
    have NRF := Lib.hid ((NR7.out.setLow (q := ⟨w.heap.size, 0, none⟩) (Nat.lt_succ_self _) (.int .i64 P)).setLow (q := ⟨w.heap.size, 1, none⟩) (Nat.lt_succ_self _) (.slice (some ⟨g, 0, none⟩) un uc))
    have CUF := Lib.hid ((HC7.out.far (q := ⟨w.heap.size, 0, none⟩) hbo (.int .i64 P)).far (q := ⟨w.heap.size, 1, none⟩) hbo (.slice (some ⟨g, 0, none⟩) un uc))
    have GRF := Lib.hid (grown_setNew (grown_setNew HG7.out (q := ⟨w.heap.size, 0, none⟩) (Nat.le_refl _) (.int .i64 P)) (q := ⟨w.heap.size, 1, none⟩) (Nat.le_refl _) (.slice (some ⟨g, 0, none⟩) un uc))
    obtain ⟨n0, n1, _, _⟩ := BN7.out
    obtain ⟨r0_, r1_, rf0, rf1⟩ := BR7.out
    go_wp2_with fail
    generalize ((W7.setCell ⟨w.heap.size, 0, none⟩ (.int .i64 P)).setCell ⟨w.heap.size, 1, none⟩ (.slice (some ⟨g, 0, none⟩) un uc)) = WX at BRF NRF CUF GRF ⊢
    obtain ⟨q0, q1, _, _⟩ := BRF.out
    refine bodyPost_ret (v := .agg #[.int .i64 P, .slice (some ⟨g, 0, none⟩) un uc]) (by simp [results, Try.results105, go_sem, q0, q1]) rfl ?_
    exact ⟨_, _, a5, rfl, by omega, by omega, NRF.out.low (Nat.le_succ _) (Nat.le_refl _), by omega, CUF.out, GRF.out⟩
  have t2 : (r == 1) = false := by rw [beq_eq_false_iff_ne]; exact e1
  by_cases e2 : r = 2
  · subst e2
    clear t1 t2 e0 e1
    have hal : Below w3.heap.size w3 (w3.alloc (.cells #[.int .i64 0, .int .i64 1, .int .i64 30, .int .i64 31] 3)) := (Below.refl _ _).alloc (Nat.le_refl _) _
    have HC4 := Lib.hid (HC3.out.below hal)
    have BN4 := Lib.hid (BN3.out.after hal)
    have BR4 := Lib.hid (BR3.out.after hal)
    have NR4 := Lib.hid (NR3.out.after hal)
    have HG4 := Lib.hid (Lib.grownBy_trans HG3.out (grown_below hal))
    have HI4 := Lib.hid (ints_four w3 0 1 30 31)
    have TN4 := Lib.hid (TN3.out.keep hal)
    clear hal
    go_wp2_with fail
    generalize (w3.alloc (.cells #[.int .i64 0, .int .i64 1, .int .i64 30, .int .i64 31] 3)) = w4 at HC4 BN4 BR4 NR4 HG4 HI4 TN4 ⊢
    refine (among_any b a3 w3.heap.size _ [0, 1, 30, 31] w4 HC4.out (by omega) HI4.out (by omega) (by simp) (by simp)).mono ?_
    rintro e w5 ⟨i, a5, rfl, hi, ha5, hc5, hg5⟩
    have hp5 : 0 ≤ ([0, 1, 30, 31] : List Int).getD i 0 ∧ ([0, 1, 30, 31] : List Int).getD i 0 ≤ 31 := by
      simp at hi
      rcases (by omega : i = 0 ∨ i = 1 ∨ i = 2 ∨ i = 3) with rfl | rfl | rfl | rfl <;> simp
    generalize ([0, 1, 30, 31] : List Int).getD i 0 = P5 at hp5 ⊢
    obtain ⟨p50, p51⟩ := hp5
    have BR5 := Lib.hid (BR4.out.cur hg5 (by omega))
    have BN5 := Lib.hid (BN4.out.cur hg5 (by omega))
    have NR5 := Lib.hid (NR4.out.cur hg5 (by omega))
    have HG5 := Lib.hid (Lib.grownBy_trans HG4.out hg5)
    have HC5 := Lib.hid hc5
    have TN5 := TN4.out.grown hg5 (fun e => by injection e with e; omega)
    obtain ⟨m0, m1, mf0, mf1⟩ := BN5.out
    have BN6 := Lib.hid (BN5.out.set0 (.int .i64 P5))
    have BR6 := Lib.hid (BR5.out.far (q := ⟨w1.heap.size, 0, none⟩) (by show w1.heap.size ≠ w.heap.size; omega) (.int .i64 P5))
    have NR6 := Lib.hid (NR5.out.farG (q := ⟨w1.heap.size, 0, none⟩) TN5 (by decide) (fun e => by have := HUN.out _ e.symm; simp at this) (.int .i64 P5))
    have HC6 := Lib.hid (HC5.out.far (q := ⟨w1.heap.size, 0, none⟩) (by show b < w1.heap.size; omega) (.int .i64 P5))
    have HG6 := Lib.hid (grown_setNew HG5.out (q := ⟨w1.heap.size, 0, none⟩) (by show w.heap.size ≤ w1.heap.size; omega) (.int .i64 P5))
    clear hc5 hg5 TN5
    have BRF := Lib.hid ((BR6.out.set0 (.int .i64 P5)).set1 (.slice (some ⟨g, 0, none⟩) un uc))
    have NRF := Lib.hid ((NR6.out.setLow (q := ⟨w.heap.size, 0, none⟩) (Nat.lt_succ_self _) (.int .i64 P5)).setLow (q := ⟨w.heap.size, 1, none⟩) (Nat.lt_succ_self _) (.slice (some ⟨g, 0, none⟩) un uc))
    have CUF := Lib.hid ((HC6.out.far (q := ⟨w.heap.size, 0, none⟩) hbo (.int .i64 P5)).far (q := ⟨w.heap.size, 1, none⟩) hbo (.slice (some ⟨g, 0, none⟩) un uc))
    have GRF := Lib.hid (grown_setNew (grown_setNew HG6.out (q := ⟨w.heap.size, 0, none⟩) (Nat.le_refl _) (.int .i64 P5)) (q := ⟨w.heap.size, 1, none⟩) (Nat.le_refl _) (.slice (some ⟨g, 0, none⟩) un uc))
    obtain ⟨n0, n1, _, _⟩ := BN6.out
    obtain ⟨r0_, r1_, rf0, rf1⟩ := BR6.out
    go_wp2_with fail
    generalize (((w5.setCell ⟨w1.heap.size, 0, none⟩ (.int .i64 P5)).setCell ⟨w.heap.size, 0, none⟩ (.int .i64 P5)).setCell ⟨w.heap.size, 1, none⟩ (.slice (some ⟨g, 0, none⟩) un uc)) = WX at BRF NRF CUF GRF ⊢
    obtain ⟨q0, q1, _, _⟩ := BRF.out
    refine bodyPost_ret (v := .agg #[.int .i64 P5, .slice (some ⟨g, 0, none⟩) un uc]) (by simp [results, Try.results105, go_sem, q0, q1]) rfl ?_
    exact ⟨_, _, a5, rfl, p50, p51, NRF.out.low (Nat.le_succ _) (Nat.le_refl _), by omega, CUF.out, GRF.out⟩
  have t3 : (r == 2) = false := by rw [beq_eq_false_iff_ne]; exact e2
  have BRF := Lib.hid ((BR3.out.set0 (.int .i64 P)).set1 (.slice (some ⟨g, 0, none⟩) un uc))
  have NRF := Lib.hid ((NR3.out.setLow (q := ⟨w.heap.size, 0, none⟩) (Nat.lt_succ_self _) (.int .i64 P)).setLow (q := ⟨w.heap.size, 1, none⟩) (Nat.lt_succ_self _) (.slice (some ⟨g, 0, none⟩) un uc))
  have CUF := Lib.hid ((HC3.out.far (q := ⟨w.heap.size, 0, none⟩) hbo (.int .i64 P)).far (q := ⟨w.heap.size, 1, none⟩) hbo (.slice (some ⟨g, 0, none⟩) un uc))
  have GRF := Lib.hid (grown_setNew (grown_setNew HG3.out (q := ⟨w.heap.size, 0, none⟩) (Nat.le_refl _) (.int .i64 P)) (q := ⟨w.heap.size, 1, none⟩) (Nat.le_refl _) (.slice (some ⟨g, 0, none⟩) un uc))
  obtain ⟨n0, n1, _, _⟩ := BN3.out
  obtain ⟨r0_, r1_, rf0, rf1⟩ := BR3.out
  go_wp2_with fail
  generalize ((w3.setCell ⟨w.heap.size, 0, none⟩ (.int .i64 P)).setCell ⟨w.heap.size, 1, none⟩ (.slice (some ⟨g, 0, none⟩) un uc)) = WX at BRF NRF CUF GRF ⊢
  obtain ⟨q0, q1, _, _⟩ := BRF.out
  refine bodyPost_ret (v := .agg #[.int .i64 P, .slice (some ⟨g, 0, none⟩) un uc]) (by simp [results, Try.results105, go_sem, q0, q1]) rfl ?_
  exact ⟨_, _, a3, rfl, by omega, by omega, NRF.out.low (Nat.le_succ _) (Nat.le_refl _), by omega, CUF.out, GRF.out⟩

end Go.Proofs.Ytkkfglolameogaa
