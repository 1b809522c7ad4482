/- DRAWS: DrawIsValidMarking, DrawFire. -/
import Derived.Test.YtkkfglolameogaaVDany
import Derived.Test.YtkkfglolameogaaVDstr
namespace Go.Proofs.Ytkkfglolameogaa
open Go.RowKit

theorem CodeIn.up {b b' : Nat} {w : World} {v : Value} {n : Nat} (h : CodeIn b w v n) (hb : b ≤ b') : CodeIn b' w v n := by
  obtain ⟨ao, cap, rfl, hz⟩ := h
  refine ⟨ao, cap, rfl, ?_⟩
  rcases hz with hz | ⟨g, off, rfl, hg, hcell⟩
  · exact Or.inl hz
  · exact Or.inr ⟨g, off, rfl, Nat.lt_of_lt_of_le hg hb, hcell⟩
theorem CurAt.new {w : World} {v : Value} {n : Nat} (h : CodeIn w.heap.size w v n) (hn : n ≤ 1048576) : CurAt w.heap.size (w.alloc (.cells #[v, .int .i64 0, .int .u64 0] 115)) 0 :=
  ⟨v, n, 0, by simp, h.keep (fun x hx _ => ((Below.refl w.heap.size w).alloc (Nat.le_refl _) _).block x hx), hn, by simp, by simp, by decide, by decide, by simp, by simp⟩
theorem grown_under {w w1 w' : World} {b : Nat} (h1 : Below w.heap.size w w1) (hg : w1.grownBy w' (some b)) (hb : w.heap.size ≤ b) : Below w.heap.size w w' :=
  h1.grown hg h1.size (fun k hk => by injection hk with hk; omega)

/-- a call returns a drawn net and a text -/
def RetDM (w : World) (e : Ending) (w' : World) : Prop := ∃ (P : Int) (u : Value) (s : ByteArray), e = .returned (.tuple #[.agg #[.int .i64 P, u], .string s]) ∧ 0 ≤ P ∧ P ≤ 31 ∧ NetRow w.heap.size 4 w' u ∧ s.size ≤ 1010 ∧ Below w.heap.size w w'

set_option maxRecDepth 100000 in
set_option maxHeartbeats 4000000 in
theorem DrawMark_any (v : Value) (n : Nat) (w : World) (hv : CodeIn w.heap.size w v n) (hn : n ≤ 1048576) :
    Calls Try.prog 88 #[v] w (RetDM w) := by
  have hal0 : Below w.heap.size w (w.alloc (.cells #[.int .i64 0, .slice none 0 0] 32)) := (Below.refl _ _).alloc (Nat.le_refl _) _
  have z0 : (w.alloc (.cells #[.int .i64 0, .slice none 0 0] 32)).heap.size = w.heap.size + 1 := by simp
  have hcode : CodeIn (w.alloc (.cells #[.int .i64 0, .slice none 0 0] 32)).heap.size (w.alloc (.cells #[.int .i64 0, .slice none 0 0] 32)) v n := (hv.keep (fun x hx _ => hal0.block x hx)).up (by omega)
  have HC0 := Lib.hid (CurAt.new hcode hn)
  rw [z0] at HC0
  have hal1 : Below (w.heap.size + 1) (w.alloc (.cells #[.int .i64 0, .slice none 0 0] 32)) ((w.alloc (.cells #[.int .i64 0, .slice none 0 0] 32)).alloc (.cells #[v, .int .i64 0, .int .u64 0] 115)) := (Below.refl _ _).alloc (by omega) _
  have BR0 := Lib.hid ((NBox.new w (.int .i64 0) (.slice none 0 0) 32).keep (hal1.block w.heap.size (by omega)))
  have z1 : ((w.alloc (.cells #[.int .i64 0, .slice none 0 0] 32)).alloc (.cells #[v, .int .i64 0, .int .u64 0] 115)).heap.size = w.heap.size + 2 := by simp
  have bel1 : Below w.heap.size w ((w.alloc (.cells #[.int .i64 0, .slice none 0 0] 32)).alloc (.cells #[v, .int .i64 0, .int .u64 0] 115)) := hal0.trans (hal1.mono (by omega))
  obtain ⟨ao, cap, rfl, _⟩ := hv
  clear hal0 hal1 hcode
  go_enter Try.func88, Try.ntmps88
  go_wp2_with fail
  generalize ((w.alloc (.cells #[.int .i64 0, .slice none 0 0] 32)).alloc (.cells #[.slice ao n cap, .int .i64 0, .int .u64 0] 115)) = W1 at HC0 BR0 z1 bel1 ⊢
  refine (anyNet_any (w.heap.size + 1) 0 W1 HC0.out (by omega)).mono ?_
  rintro e w2 ⟨P, u, a2, rfl, p0, p1, hnr, ha2, hc2, hg2⟩
  obtain ⟨ua, un, uc, rfl⟩ := hnr.form
  rw [z1] at hnr
  have BR2 := Lib.hid (BR0.out.cur hg2 (by omega)); clear BR0
  have zw2 := hg2.size
  have hal : Below w2.heap.size w2 (w2.alloc (.cells #[.int .i64 P, .slice ua un uc] 32)) := (Below.refl _ _).alloc (Nat.le_refl _) _
  have hdg : w2.grownBy (w2.alloc (.cells #[.int .i64 P, .slice ua un uc] 32)) (some (w.heap.size + 1)) := grown_below hal
  have HC3 := Lib.hid (hc2.below hal); clear hc2 HC0
  have BR3 := Lib.hid (BR2.out.after hal); clear BR2
  have BN3 := Lib.hid (NBox.new w2 (.int .i64 P) (.slice ua un uc) 32)
  have NR3 := Lib.hid (hnr.after hal); clear hnr
  have HG3 := Lib.hid (Lib.grownBy_trans hg2 hdg); clear hg2 hdg
  have z3 : (w2.alloc (.cells #[.int .i64 P, .slice ua un uc] 32)).heap.size = w2.heap.size + 1 := by simp
  clear hal
  go_wp2_with fail
  generalize (w2.alloc (.cells #[.int .i64 P, .slice ua un uc] 32)) = w3 at HC3 BR3 BN3 NR3 HG3 z3 ⊢
  refine wp_region_held_drew (S := fun w' => w'.cell? ⟨w2.heap.size, 0, none⟩ = some (.int .i64 P)) (by kernel_rfl) BN3.out.1 (fun hHeld => ?_)
  have hd : Below w3.heap.size w3 w3.drew := (Below.refl _ _).drew
  have hdg : w3.grownBy w3.drew (some (w.heap.size + 1)) := grown_below hd
  have HC4 := Lib.hid (HC3.out.below hd); clear HC3
  have BR4 := Lib.hid (BR3.out.cur hdg (by omega)); clear BR3
  have BN4 := Lib.hid (BN3.out.cur hdg (by omega)); clear BN3
  have NR4 := Lib.hid (NR3.out.cur hdg (by omega)); clear NR3
  have HG4 := Lib.hid (Lib.grownBy_trans HG3.out hdg); clear HG3
  have zw4 := hdg.size
  clear hd hdg
  generalize w3.drew = W4 at HC4 BR4 BN4 NR4 HG4 zw4 hHeld ⊢
  refine tk0 (v := ?_) (by kernel_rfl) (by kernel_rfl) (by kernel_rfl) (by first | exact fun _ _ _ h => h | exact fun _ _ _ h => absurd h.1 (by simp)) (Or.inl ⟨by rfl, ?_⟩) (by assumption) ?_
  rotate_left 1
  focus (intro wx hSw; (try dsimp only at hSw); go_simp; try (with_reducible rfl))
  try simp only [Act.put, List.setIfInBounds_toArray, List.set_cons_zero, List.set_cons_succ]
  refine tk1 (v := ?_) (by kernel_rfl) (by kernel_rfl) (by kernel_rfl) (by first | exact fun _ _ _ h => h | exact fun _ _ _ h => absurd h.1 (by simp)) (Or.inl ⟨by rfl, ?_⟩) (by assumption) ?_
  rotate_left 1
  focus (intro wx hSw; (try dsimp only at hSw); go_simp; try (with_reducible rfl))
  try simp only [Act.put, List.setIfInBounds_toArray, List.set_cons_zero, List.set_cons_succ]
  refine tk2 (v := ?_) (by kernel_rfl) (by kernel_rfl) (by kernel_rfl) (by first | exact fun _ _ _ h => h | exact fun _ _ _ h => absurd h.1 (by simp)) (Or.inl ⟨by rfl, ?_⟩) (by assumption) ?_
  rotate_left 1
  focus (intro wx hSw; (try dsimp only at hSw); go_simp; try (with_reducible rfl))
  try simp only [Act.put, List.setIfInBounds_toArray, List.set_cons_zero, List.set_cons_succ]
  refine tk3 (v := ?_) (by kernel_rfl) (by kernel_rfl) (by kernel_rfl) (by first | exact fun _ _ _ h => h | exact fun _ _ _ h => absurd h.1 (by simp)) (Or.inl ⟨by rfl, ?_⟩) (by assumption) ?_
  rotate_left 1
  focus (intro wx hSw; (try dsimp only at hSw); go_simp; try (with_reducible rfl))
  try simp only [Act.put, List.setIfInBounds_toArray, List.set_cons_zero, List.set_cons_succ]
  refine rd4 (by kernel_rfl) (fun K hK => ?_)
  go_simp
  refine (pick_any (w.heap.size + 1) a2 15 W4 HC4.out (by omega) (by omega) (by omega)).mono ?_
  rintro e W5 ⟨r5, a5, rfl, r50, r51, ha5, hc5, hg5⟩
  obtain ⟨r5, rfl⟩ : ∃ k : Nat, r5 = k := ⟨r5.toNat, by omega⟩
  have BR5 := Lib.hid (BR4.out.cur hg5 (by omega)); clear BR4
  have BN5 := Lib.hid (BN4.out.cur hg5 (by omega)); clear BN4
  have NR5 := Lib.hid (NR4.out.cur hg5 (by omega)); clear NR4
  have HG5 := Lib.hid (Lib.grownBy_trans HG4.out hg5); clear HG4
  have zw5 := hg5.size
  have HC5 := Lib.hid hc5; clear hc5 hg5 HC4
  refine hK.out _ _ BN5.out.1 (fun hHeld => ?_)
  clear hK K
  try simp only [Act.put, List.setIfInBounds_toArray, List.set_cons_zero, List.set_cons_succ]
  have hq1 : (r5 : Int).tdiv 14 = (r5 : Int) / 14 := Int.tdiv_eq_ediv_of_nonneg (by omega)
  have hq2 : IntKind.i64.wrap ((r5 : Int) / 14) = (r5 : Int) / 14 := IntWalk.i64_in _ ⟨by omega, by omega⟩
  have hq3 : IntKind.i64.wrap (P + (r5 : Int) / 14) = P + (r5 : Int) / 14 := IntWalk.i64_in _ ⟨by omega, by omega⟩
  refine tk5 (v := ?_) (by kernel_rfl) (by kernel_rfl) (by kernel_rfl) (by first | exact fun _ _ _ h => h | exact fun _ _ _ h => absurd h.1 (by simp)) (Or.inl ⟨by rfl, ?_⟩) (by assumption) ?_
  rotate_left 1
  focus (intro wx hSw; (try dsimp only at hSw); go_simp; try (with_reducible rfl))
  try simp only [Act.put, List.setIfInBounds_toArray, List.set_cons_zero, List.set_cons_succ]
  refine tk6 (v := ?_) (by kernel_rfl) (by kernel_rfl) (by kernel_rfl) (by first | exact fun _ _ _ h => h | exact fun _ _ _ h => absurd h.1 (by simp)) (Or.inl ⟨by rfl, ?_⟩) (by assumption) ?_
  rotate_left 1
  focus (intro wx hSw; (try dsimp only at hSw); go_simp; try (with_reducible rfl))
  try simp only [Act.put, List.setIfInBounds_toArray, List.set_cons_zero, List.set_cons_succ]
  refine rd7 (by kernel_rfl) (fun K hK => ?_)
  go_simp
  refine (markOf_any (w.heap.size + 1) a5 (P + (r5 : Int) / 14) W5 HC5.out (by omega) (by omega)).mono ?_
  rintro e W6 ⟨m, a6, rfl, hm, ha6, hc6, hg6⟩
  clear hq1 hq2 hq3
  have BR6 := Lib.hid (BR5.out.cur hg6 (by omega)); clear BR5
  have BN6 := Lib.hid (BN5.out.cur hg6 (by omega)); clear BN5
  have NR6 := Lib.hid (NR5.out.cur hg6 (by omega)); clear NR5
  have HG6 := Lib.hid (Lib.grownBy_trans HG5.out hg6); clear HG5
  have zw6 := hg6.size
  have HC6 := Lib.hid hc6; clear hc6 hg6 HC5
  refine hK.out _ _ BN6.out.1 (fun hHeld => ?_)
  clear hK K
  try simp only [Act.put, List.setIfInBounds_toArray, List.set_cons_zero, List.set_cons_succ]
  refine tk8 (v := ?_) (by kernel_rfl) (by kernel_rfl) (by kernel_rfl) (by first | exact fun _ _ _ h => h | exact fun _ _ _ h => absurd h.1 (by simp)) (Or.inl ⟨by rfl, ?_⟩) (by assumption) ?_
  rotate_left 1
  focus (intro wx hSw; (try dsimp only at hSw); go_simp; try (with_reducible rfl))
  try simp only [Act.put, List.setIfInBounds_toArray, List.set_cons_zero, List.set_cons_succ]
  refine wpAnyH_done (by kernel_rfl) ?_ _
  go_wp2_with fail
  refine (one_any (w.heap.size + 1) a6 15 W6 HC6.out (by omega) (by omega) (by omega)).mono ?_
  rintro e w7 ⟨rb, a7, rfl, ha7, hc7, hg7⟩
  have BR7 := Lib.hid (BR6.out.cur hg7 (by omega)); clear BR6
  have BN7 := Lib.hid (BN6.out.cur hg7 (by omega)); clear BN6
  have NR7 := Lib.hid (NR6.out.cur hg7 (by omega)); clear NR6
  have HG7 := Lib.hid (Lib.grownBy_trans HG6.out hg7); clear HG6
  have zw7 := hg7.size
  have HC7 := Lib.hid hc7; clear hc7 hg7 HC6
  cases rb with
  | false =>
    have BRF := Lib.hid ((BR7.out.set0 (.int .i64 P)).set1 (.slice ua un uc))
    have NRF := Lib.hid ((NR7.out.setLow (q := ⟨w.heap.size, 0, none⟩) (by show w.heap.size < _; omega) (.int .i64 P)).setLow (q := ⟨w.heap.size, 1, none⟩) (by show w.heap.size < _; omega) (.slice ua un uc))
    have BEF := Lib.hid (((grown_under bel1 HG7.out (Nat.le_succ _)).setCell (p := ⟨w.heap.size, 0, none⟩) (Nat.le_refl _) (.int .i64 P)).setCell (p := ⟨w.heap.size, 1, none⟩) (Nat.le_refl _) (.slice ua un uc))
    obtain ⟨n0, n1, _, _⟩ := BN7.out
    obtain ⟨r0_, r1_, rf0, rf1⟩ := BR7.out
    go_wp2_with fail
    generalize ((w7.setCell ⟨w.heap.size, 0, none⟩ (.int .i64 P)).setCell ⟨w.heap.size, 1, none⟩ (.slice ua un uc)) = WX at BRF NRF BEF ⊢
    obtain ⟨q0, q1, _, _⟩ := BRF.out
    refine bodyPost_ret (v := .tuple #[.agg #[.int .i64 P, .slice ua un uc], .string m]) (by simp [results, Try.results88, go_sem, q0, q1]) rfl ?_
    exact ⟨_, _, _, rfl, p0, p1, NRF.out.low (by omega) (Nat.le_refl _), by omega, BEF.out⟩
  | true =>
    go_wp2_with fail
    refine (spoilt_any (w.heap.size + 1) a7 m ⟨#[48, 49, 50]⟩ w7 HC7.out (by omega) (by omega) (by decide) (by decide)).mono ?_
    rintro e w8 ⟨m8, a8, rfl, hm8, ha8, hc8, hg8⟩
    have BR8 := Lib.hid (BR7.out.cur hg8 (by omega)); clear BR7
    have BN8 := Lib.hid (BN7.out.cur hg8 (by omega)); clear BN7
    have NR8 := Lib.hid (NR7.out.cur hg8 (by omega)); clear NR7
    have HG8 := Lib.hid (Lib.grownBy_trans HG7.out hg8); clear HG7
    have zw8 := hg8.size
    clear hc8 hg8
    have BRF := Lib.hid ((BR8.out.set0 (.int .i64 P)).set1 (.slice ua un uc))
    have NRF := Lib.hid ((NR8.out.setLow (q := ⟨w.heap.size, 0, none⟩) (by show w.heap.size < _; omega) (.int .i64 P)).setLow (q := ⟨w.heap.size, 1, none⟩) (by show w.heap.size < _; omega) (.slice ua un uc))
    have BEF := Lib.hid (((grown_under bel1 HG8.out (Nat.le_succ _)).setCell (p := ⟨w.heap.size, 0, none⟩) (Nat.le_refl _) (.int .i64 P)).setCell (p := ⟨w.heap.size, 1, none⟩) (Nat.le_refl _) (.slice ua un uc))
    obtain ⟨n0, n1, _, _⟩ := BN8.out
    obtain ⟨r0_, r1_, rf0, rf1⟩ := BR8.out
    go_wp2_with fail
    generalize ((w8.setCell ⟨w.heap.size, 0, none⟩ (.int .i64 P)).setCell ⟨w.heap.size, 1, none⟩ (.slice ua un uc)) = WX at BRF NRF BEF ⊢
    obtain ⟨q0, q1, _, _⟩ := BRF.out
    refine bodyPost_ret (v := .tuple #[.agg #[.int .i64 P, .slice ua un uc], .string m8]) (by simp [results, Try.results88, go_sem, q0, q1]) rfl ?_
    exact ⟨_, _, _, rfl, p0, p1, NRF.out.low (by omega) (Nat.le_refl _), by omega, BEF.out⟩

/-- a call returns a drawn net, a text and a number -/
def RetDF (w : World) (e : Ending) (w' : World) : Prop := ∃ (P : Int) (u : Value) (s : ByteArray) (t : Int), e = .returned (.tuple #[.agg #[.int .i64 P, u], .string s, .int .i64 t]) ∧ 0 ≤ P ∧ P ≤ 31 ∧ NetRow w.heap.size 4 w' u ∧ s.size ≤ 1010 ∧ -1 ≤ t ∧ t ≤ 4 ∧ Below w.heap.size w w'

set_option maxRecDepth 100000 in
set_option maxHeartbeats 8000000 in
theorem DrawFire_any (v : Value) (n : Nat) (w : World) (hv : CodeIn w.heap.size w v n) (hn : n ≤ 1048576) :
    Calls Try.prog 32 #[v] w (RetDF w) := by
  have hal0 : Below w.heap.size w (w.alloc (.cells #[.int .i64 0, .slice none 0 0] 32)) := (Below.refl _ _).alloc (Nat.le_refl _) _
  have z0 : (w.alloc (.cells #[.int .i64 0, .slice none 0 0] 32)).heap.size = w.heap.size + 1 := by simp
  have hcode : CodeIn (w.alloc (.cells #[.int .i64 0, .slice none 0 0] 32)).heap.size (w.alloc (.cells #[.int .i64 0, .slice none 0 0] 32)) v n := (hv.keep (fun x hx _ => hal0.block x hx)).up (by omega)
  have HC0 := Lib.hid (CurAt.new hcode hn)
  rw [z0] at HC0
  have hal1 : Below (w.heap.size + 1) (w.alloc (.cells #[.int .i64 0, .slice none 0 0] 32)) (((w.alloc (.cells #[.int .i64 0, .slice none 0 0] 32)).alloc (.cells #[v, .int .i64 0, .int .u64 0] 115))) := (Below.refl _ _).alloc (by omega) _
  have BR0 := Lib.hid ((NBox.new w (.int .i64 0) (.slice none 0 0) 32).keep (hal1.block w.heap.size (by omega)))
  have z1 : (((w.alloc (.cells #[.int .i64 0, .slice none 0 0] 32)).alloc (.cells #[v, .int .i64 0, .int .u64 0] 115))).heap.size = w.heap.size + 2 := by simp
  have bel1 : Below w.heap.size w (((w.alloc (.cells #[.int .i64 0, .slice none 0 0] 32)).alloc (.cells #[v, .int .i64 0, .int .u64 0] 115))) := hal0.trans (hal1.mono (by omega))
  have HCD := Lib.hid ((hv.keep (fun x hx _ => bel1.block x hx)).up (show w.heap.size ≤ (((w.alloc (.cells #[.int .i64 0, .slice none 0 0] 32)).alloc (.cells #[v, .int .i64 0, .int .u64 0] 115))).heap.size by omega))
  obtain ⟨ao, cap, rfl, _⟩ := hv
  clear hal0 hal1 hcode
  go_enter Try.func32, Try.ntmps32
  go_wp2_with fail
  generalize ((w.alloc (.cells #[.int .i64 0, .slice none 0 0] 32)).alloc (.cells #[.slice ao n cap, .int .i64 0, .int .u64 0] 115)) = W1 at HC0 BR0 z1 bel1 HCD ⊢
  refine (DrawMark_any _ n W1 HCD.out hn).mono ?_
  rintro e w2 ⟨P, u, s, rfl, p0, p1, hnr, hs, hb2⟩
  obtain ⟨ua, un, uc, rfl⟩ := hnr.form
  rw [z1] at hnr
  have hg2 : W1.grownBy w2 (some (w.heap.size + 1)) := grown_below hb2
  have BR2 := Lib.hid (BR0.out.cur hg2 (by omega)); clear BR0
  have hc2 := HC0.out.below hb2
  have zw2 := hg2.size
  have hal : Below w2.heap.size w2 (w2.alloc (.cells #[.int .i64 P, .slice ua un uc] 32)) := (Below.refl _ _).alloc (Nat.le_refl _) _
  have hdg : w2.grownBy (w2.alloc (.cells #[.int .i64 P, .slice ua un uc] 32)) (some (w.heap.size + 1)) := grown_below hal
  have HC3 := Lib.hid (hc2.below hal); clear hc2 HC0 HCD hb2
  have BR3 := Lib.hid (BR2.out.after hal); clear BR2
  have BN3 := Lib.hid (NBox.new w2 (.int .i64 P) (.slice ua un uc) 32)
  have NR3 := Lib.hid (hnr.after hal); clear hnr
  have HG3 := Lib.hid (Lib.grownBy_trans hg2 hdg); clear hg2 hdg
  have z3 : (w2.alloc (.cells #[.int .i64 P, .slice ua un uc] 32)).heap.size = w2.heap.size + 1 := by simp
  clear hal
  go_wp2_with fail
  generalize (w2.alloc (.cells #[.int .i64 P, .slice ua un uc] 32)) = w3 at HC3 BR3 BN3 NR3 HG3 z3 ⊢
  refine wp_region_held_drew (S := fun w' => w'.cell? ⟨w2.heap.size, 0, none⟩ = some (.int .i64 P) ∧ w'.cell? ⟨w2.heap.size, 1, none⟩ = some (.slice ua un uc)) (by kernel_rfl) ⟨BN3.out.1, BN3.out.2.1⟩ (fun hHeld => ?_)
  have hd : Below w3.heap.size w3 w3.drew := (Below.refl _ _).drew
  have hdg : w3.grownBy w3.drew (some (w.heap.size + 1)) := grown_below hd
  have HC4 := Lib.hid (HC3.out.below hd); clear HC3
  have BR4 := Lib.hid (BR3.out.cur hdg (by omega)); clear BR3
  have BN4 := Lib.hid (BN3.out.cur hdg (by omega)); clear BN3
  have NR4 := Lib.hid (NR3.out.cur hdg (by omega)); clear NR3
  have HG4 := Lib.hid (Lib.grownBy_trans HG3.out hdg); clear HG3
  have zw4 := hdg.size
  clear hd hdg
  generalize w3.drew = W4 at HC4 BR4 BN4 NR4 HG4 zw4 hHeld ⊢
  refine tk0 (v := ?_) (by kernel_rfl) (by kernel_rfl) (by kernel_rfl) (by first | exact fun _ _ _ h => h | exact fun _ _ _ h => absurd h.1 (by simp)) (Or.inl ⟨by rfl, ?_⟩) (by assumption) ?_
  rotate_left 1
  focus (intro wx hSw; (try dsimp only at hSw); go_simp; try (with_reducible rfl))
  try simp only [Act.put, List.setIfInBounds_toArray, List.set_cons_zero, List.set_cons_succ]
  refine tk1 (v := ?_) (by kernel_rfl) (by kernel_rfl) (by kernel_rfl) (by first | exact fun _ _ _ h => h | exact fun _ _ _ h => absurd h.1 (by simp)) (Or.inl ⟨by rfl, ?_⟩) (by assumption) ?_
  rotate_left 1
  focus (intro wx hSw; (try dsimp only at hSw); go_simp; try (with_reducible rfl))
  try simp only [Act.put, List.setIfInBounds_toArray, List.set_cons_zero, List.set_cons_succ]
  refine tk2 (v := ?_) (by kernel_rfl) (by kernel_rfl) (by kernel_rfl) (by first | exact fun _ _ _ h => h | exact fun _ _ _ h => absurd h.1 (by simp)) (Or.inl ⟨by rfl, ?_⟩) (by assumption) ?_
  rotate_left 1
  focus (intro wx hSw; (try dsimp only at hSw); go_simp; try (with_reducible rfl))
  try simp only [Act.put, List.setIfInBounds_toArray, List.set_cons_zero, List.set_cons_succ]
  refine tk4 (v := ?_) (by kernel_rfl) (by kernel_rfl) (by kernel_rfl) (by first | exact fun _ _ _ h => h | exact fun _ _ _ h => absurd h.1 (by simp)) (Or.inl ⟨by rfl, ?_⟩) (by assumption) ?_
  rotate_left 1
  focus (intro wx hSw; (try dsimp only at hSw); go_simp; try (with_reducible rfl))
  try simp only [Act.put, List.setIfInBounds_toArray, List.set_cons_zero, List.set_cons_succ]
  refine rd3 (by kernel_rfl) (fun K hK => ?_)
  go_simp
  refine (pick_any (w.heap.size + 1) 0 5 W4 HC4.out (by omega) (by omega) (by omega)).mono ?_
  rintro e W5 ⟨r5, a5, rfl, r50, r51, ha5, hc5, hg5⟩
  have BR5 := Lib.hid (BR4.out.cur hg5 (by omega)); clear BR4
  have BN5 := Lib.hid (BN4.out.cur hg5 (by omega)); clear BN4
  have NR5 := Lib.hid (NR4.out.cur hg5 (by omega)); clear NR4
  have HG5 := Lib.hid (Lib.grownBy_trans HG4.out hg5); clear HG4
  have zw5 := hg5.size
  have HC5 := Lib.hid hc5; clear hc5 hg5 HC4
  refine hK.out _ _ ⟨BN5.out.1, BN5.out.2.1⟩ (fun hHeld => ?_)
  clear hK K
  try simp only [Act.put, List.setIfInBounds_toArray, List.set_cons_zero, List.set_cons_succ]
  refine rd5 (by kernel_rfl) (fun K hK => ?_)
  go_simp
  refine (pick_any (w.heap.size + 1) a5 20 W5 HC5.out (by omega) (by omega) (by omega)).mono ?_
  rintro e W6 ⟨r6, a6, rfl, r60, r61, ha6, hc6, hg6⟩
  obtain ⟨r6, rfl⟩ : ∃ k : Nat, r6 = k := ⟨r6.toNat, by omega⟩
  have BR6 := Lib.hid (BR5.out.cur hg6 (by omega)); clear BR5
  have BN6 := Lib.hid (BN5.out.cur hg6 (by omega)); clear BN5
  have NR6 := Lib.hid (NR5.out.cur hg6 (by omega)); clear NR5
  have HG6 := Lib.hid (Lib.grownBy_trans HG5.out hg6); clear HG5
  have zw6 := hg6.size
  clear hc6 hg6 HC5
  refine hK.out _ _ ⟨BN6.out.1, BN6.out.2.1⟩ (fun hHeld => ?_)
  clear hK K
  try simp only [Act.put, List.setIfInBounds_toArray, List.set_cons_zero, List.set_cons_succ]
  have hq1 : (r6 : Int).tdiv 19 = (r6 : Int) / 19 := Int.tdiv_eq_ediv_of_nonneg (by omega)
  have hq2 : IntKind.i64.wrap ((r6 : Int) / 19) = (r6 : Int) / 19 := IntWalk.i64_in _ ⟨by omega, by omega⟩
  have hq3 : IntKind.i64.wrap (r5 - (r6 : Int) / 19) = r5 - (r6 : Int) / 19 := IntWalk.i64_in _ ⟨by omega, by omega⟩
  refine tk6 (v := ?_) (by kernel_rfl) (by kernel_rfl) (by kernel_rfl) (by first | exact fun _ _ _ h => h | exact fun _ _ _ h => absurd h.1 (by simp)) (Or.inl ⟨by rfl, ?_⟩) (by assumption) ?_
  rotate_left 1
  focus (intro wx hSw; (try dsimp only at hSw); go_simp; try (with_reducible rfl))
  try simp only [Act.put, List.setIfInBounds_toArray, List.set_cons_zero, List.set_cons_succ]
  refine tk7 (v := ?_) (by kernel_rfl) (by kernel_rfl) (by kernel_rfl) (by first | exact fun _ _ _ h => h | exact fun _ _ _ h => absurd h.1 (by simp)) (Or.inl ⟨by rfl, ?_⟩) (by assumption) ?_
  rotate_left 1
  focus (intro wx hSw; (try dsimp only at hSw); go_simp; try (with_reducible rfl))
  try simp only [Act.put, List.setIfInBounds_toArray, List.set_cons_zero, List.set_cons_succ]
  obtain ⟨r0_, r1_, rf0, rf1⟩ := BR6.out
  refine rd8 (by kernel_rfl) (fun K hK => ?_)
  go_simp
  have BRF := Lib.hid ((BR6.out.set0 (.int .i64 P)).set1 (.slice ua un uc))
  have BNF := Lib.hid ((BN6.out.far (q := ⟨w.heap.size, 0, none⟩) (by show w.heap.size ≠ w2.heap.size; omega) (.int .i64 P)).far (q := ⟨w.heap.size, 1, none⟩) (by show w.heap.size ≠ w2.heap.size; omega) (.slice ua un uc))
  have NRF := Lib.hid ((NR6.out.setLow (q := ⟨w.heap.size, 0, none⟩) (by show w.heap.size < _; omega) (.int .i64 P)).setLow (q := ⟨w.heap.size, 1, none⟩) (by show w.heap.size < _; omega) (.slice ua un uc))
  have BEF := Lib.hid (((grown_under bel1 HG6.out (Nat.le_succ _)).setCell (p := ⟨w.heap.size, 0, none⟩) (Nat.le_refl _) (.int .i64 P)).setCell (p := ⟨w.heap.size, 1, none⟩) (Nat.le_refl _) (.slice ua un uc))
  clear r0_ r1_ rf0 rf1 hq1 hq2 hq3
  generalize ((W6.setCell ⟨w.heap.size, 0, none⟩ (.int .i64 P)).setCell ⟨w.heap.size, 1, none⟩ (.slice ua un uc)) = WX at BRF BNF NRF BEF ⊢
  refine hK.out _ _ ⟨BNF.out.1, BNF.out.2.1⟩ (fun hHeld => ?_)
  clear hK K
  try simp only [Act.put, List.setIfInBounds_toArray, List.set_cons_zero, List.set_cons_succ]
  refine tk9 (v := ?_) (by kernel_rfl) (by kernel_rfl) (by kernel_rfl) (by first | exact fun _ _ _ h => h | exact fun _ _ _ h => absurd h.1 (by simp)) (Or.inl ⟨by rfl, ?_⟩) (by assumption) ?_
  rotate_left 1
  focus (intro wx hSw; (try dsimp only at hSw); go_simp; try (with_reducible rfl))
  try simp only [Act.put, List.setIfInBounds_toArray, List.set_cons_zero, List.set_cons_succ]
  refine tk10 (v := ?_) (by kernel_rfl) (by kernel_rfl) (by kernel_rfl) (by first | exact fun _ _ _ h => h | exact fun _ _ _ h => absurd h.1 (by simp)) (Or.inl ⟨by rfl, ?_⟩) (by assumption) ?_
  rotate_left 1
  focus (intro wx hSw; (try dsimp only at hSw); go_simp; try (with_reducible rfl))
  try simp only [Act.put, List.setIfInBounds_toArray, List.set_cons_zero, List.set_cons_succ]
  refine wpAnyH_done (by kernel_rfl) ?_ _
  obtain ⟨q0, q1, _, _⟩ := BRF.out
  go_wp2_with fail
  refine bodyPost_ret (v := .tuple #[.agg #[.int .i64 P, .slice ua un uc], .string s, .int .i64 (r5 - (r6 : Int) / 19)]) (by simp [results, Try.results32, go_sem, q0, q1]) rfl ?_
  exact ⟨_, _, _, _, rfl, p0, p1, NRF.out.low (by omega) (Nat.le_refl _), hs, by omega, by omega, BEF.out⟩

end Go.Proofs.Ytkkfglolameogaa
