/- WALK: ReverseNet of the program. -/
import Derived.Test.YtkkfglolameogaaVRev
import Derived.Deep.RegionHeld3
import Derived.Test.YtkkfglolameogaaVSteps
namespace Go.Proofs.Ytkkfglolameogaa
open Go.RowKit

/-- the reversed net -/
def revT (t : Tr) : Tr := (t.2, t.1)
def revTs (ts : List Tr) : List Tr := ts.map revT
def revB (n : NetD) : Bool := goodN n && goodN ⟨n.places, revTs n.ts⟩
def revR (n : NetD) : NetD := if revB n = true then ⟨n.places, revTs n.ts⟩ else ⟨0, []⟩
theorem revTs_length (ts : List Tr) : (revTs ts).length = ts.length := by simp [revTs]
theorem revTs_get {ts : List Tr} {i : Nat} (h : i < ts.length) : (revTs ts).getD i ([], []) = revT (ts.getD i ([], [])) := by simp [revTs, List.getD, h]
theorem revTs_small {ts : List Tr} (h : SmallTrs ts) : SmallTrs (revTs ts) :=
  ⟨by rw [revTs_length]; exact h.1, fun i hi => by rw [revTs_length] at hi; rw [revTs_get hi]; exact ⟨(h.2 i hi).2, (h.2 i hi).1⟩⟩

/-- a call returns a net whose lists lie apart in blocks of its own, and this bool -/
def RetSepN (w : World) (n : NetD) (b : Bool) (e : Ending) (w' : World) : Prop :=
  ∃ v, e = .returned (.tuple #[.agg #[.int .i64 n.places, v], .bool b]) ∧ (∃ c : Nat → Nat, w.heap.size ≤ c 0 ∧ c (2 * n.ts.length) ≤ w'.heap.size ∧ TrsSep c w' v n.ts) ∧ Below w.heap.size w w'

/-- behind the region that makes the new net: its row, its struct -/
def RevMid (w1 : World) (m : Nat) (p : Int) (mk : Nat → Nat → Act) (e : Exit) (a' : Act) (w' : World) : Prop :=
  e = .normal ∧ ∃ R G : Nat, a' = mk R G ∧ w1.heap.size ≤ R ∧ w1.heap.size ≤ G ∧ R ≠ G ∧ R < w'.heap.size ∧ G < w'.heap.size ∧ (∃ f, w'.rowIs R 64 (m * 2) f) ∧ w'.cell? ⟨G, 0, none⟩ = some (.int .i64 p) ∧ w'.cell? ⟨G, 1, none⟩ = some (.slice (some ⟨R, 0, none⟩) m m) ∧ Below w1.heap.size w1 w'

set_option maxRecDepth 100000 in
set_option maxHeartbeats 2000000 in
theorem ReverseNet_any (v : Value) (n : NetD) (w : World) (lo : Nat) (hv : NetAt lo w v n) (hs : SmallTrs n.ts) :
    Calls Try.prog 43 #[v] w (RetSepN w (revR n) (revB n)) := by
  generalize hFL : revR n = RN
  generalize hFB : revB n = B
  have HFL := Lib.hid hFL; clear hFL
  have HFB := Lib.hid hFB; clear hFB
  have hv' := hv
  obtain ⟨hp0, hp1, q, rfl, ht⟩ := hv'
  obtain ⟨ao, cap, rfl, hc, hz⟩ := ht
  obtain ⟨p, hp⟩ : ∃ p, p = n.places := ⟨_, rfl⟩
  obtain ⟨ts, hts⟩ : ∃ ts, ts = n.ts := ⟨_, rfl⟩
  have hs0 := hs
  rw [← hp, ← hts] at hv ⊢
  rw [← hts] at hs hz hc
  rw [← hp] at hp0 hp1
  have HPl := Lib.hid hp; clear hp
  have HT := Lib.hid hts; clear hts
  have HV := Lib.hid hv; clear hv
  have HS := Lib.hid hs
  have hmm := hs.1
  have HS0 := Lib.hid hs0; clear hs0 hs
  have HF := Lib.hid hz; clear hz
  have hmk := run_make_trs ts.length hmm
  go_enter Try.func43, Try.ntmps43
  go_wp2_with fail
  refine (IsValidNet_any _ n _ lo (HV.out.keep ?_) HS0.out).mono ?_
  · (repeat' (first | (with_reducible exact Carries.refl _ _) | (with_reducible assumption) | (with_reducible refine Carries.alloc ?_ _) | (with_reducible refine Carries.drew ?_) | (with_reducible refine Carries.drewN ?_ _) | (with_reducible refine Carries.set ?_ ?_ _) | go_size))
  rintro e w1 ⟨rfl, hb⟩
  have hw1 : Below w.heap.size w w1 := by
    refine Below.trans ?_ (hb.mono ?_)
    · (repeat' (first | (with_reducible exact Below.refl _ _) | (with_reducible assumption) | (with_reducible refine Below.alloc ?_ ?_ _) | (with_reducible refine Below.drew ?_) | (with_reducible refine below_drewN ?_ _) | (with_reducible refine Below.setCell ?_ ?_ _) | go_size))
    · simp; omega
  have a0 : w1.cell? ⟨w.heap.size, 0, none⟩ = some (.int .i64 p) := cell_carry (by simp) (Carries.of 0 hb)
  have a1 : w1.cell? ⟨w.heap.size, 1, none⟩ = some (.slice ao ts.length cap) := cell_carry (by simp) (Carries.of 0 hb)
  have z1 : w.heap.size < w1.heap.size := by have := hb.size; simp at this; omega
  have r0 : w1.cell? ⟨w.heap.size + 1, 0, none⟩ = some (.int .i64 0) := cell_carry (by simp) (Carries.of 0 hb)
  have r1 : w1.cell? ⟨w.heap.size + 1, 1, none⟩ = some (.slice none 0 0) := cell_carry (by simp) (Carries.of 0 hb)
  have rf0 : w1.frozen? ⟨w.heap.size + 1, 0, none⟩ = false := (hb.frozen (by simp)).trans (by simp)
  have rf1 : w1.frozen? ⟨w.heap.size + 1, 1, none⟩ = false := (hb.frozen (by simp)).trans (by simp)
  have z2 : w.heap.size + 1 < w1.heap.size := by have := hb.size; simp at this; omega
  clear hb
  cases hg : goodN n with
  | false =>
    have hcf : revB n = false := by unfold revB; rw [hg]; rfl
    have k1 : revR n = ⟨0, []⟩ := by unfold revR; rw [hcf]; rfl
    rw [HFL.out] at k1
    rw [HFB.out] at hcf
    subst k1; subst hcf
    clear hg
    go_wp2_with fail
    refine bodyPost_ret (v := .tuple #[.agg #[.int .i64 0, .slice none 0 0], .bool false]) (by simp [results, Try.results43, go_sem, r0, r1]) rfl ?_
    refine ⟨_, rfl, ⟨fun _ => w.heap.size, Nat.le_refl _, by simp; omega, fun _ => Nat.le_refl _, none, 0, rfl, Nat.le_refl _, Or.inl rfl⟩, ?_⟩
    (repeat' (first | (with_reducible exact Below.refl _ _) | (with_reducible assumption) | (with_reducible refine Below.alloc ?_ ?_ _) | (with_reducible refine Below.drew ?_) | (with_reducible refine below_drewN ?_ _) | (with_reducible refine Below.setCell ?_ ?_ _) | go_size))
  | true =>
  have HG := Lib.hid hg; clear hg
  go_wp2_with fail
  refine Code.wp_mono (Q := RevMid w1 ts.length p (fun R G => { tmps := #[.agg #[.int .i64 p, .slice ao ts.length cap], .pointer (some ⟨w.heap.size, 0, none⟩), .pointer (some ⟨w.heap.size + 1, 0, none⟩), .bool false, .pointer (some ⟨G, 0, none⟩), undef, undef, .agg #[.int .i64 p, .slice ao ts.length cap], .bool true, .bool false, undef, .pointer (some ⟨w.heap.size, 0, none⟩), .int .i64 p, .pointer (some ⟨w.heap.size, 1, none⟩), .slice ao ts.length cap, .int .i64 ts.length, .slice (some ⟨R, 0, none⟩) ts.length ts.length, .agg #[.int .i64 p, .slice (some ⟨R, 0, none⟩) ts.length ts.length], undef, undef, undef, undef, undef, undef, undef, undef, undef, undef, undef, undef, undef, undef, undef, undef, undef, undef, undef, undef, undef, undef, undef, undef, undef], defers := [] })) ?_ ?_
  rotate_left 1
  · refine wp_region_held_drew (S := fun w' => w'.cell? ⟨w.heap.size, 0, none⟩ = some (.int .i64 p) ∧ w'.cell? ⟨w.heap.size, 1, none⟩ = some (.slice ao ts.length cap)) (by kernel_rfl) ⟨a0, a1⟩ (fun hHeld => ?_)
    have bel0 : Below w1.heap.size w1 w1.drew := (Below.refl _ _).drew
    have k0 : w1.drew.cell? ⟨w.heap.size, 0, none⟩ = some (.int .i64 p) := a0
    have k1 : w1.drew.cell? ⟨w.heap.size, 1, none⟩ = some (.slice ao ts.length cap) := a1
    generalize w1.drew = W0 at bel0 k0 k1 hHeld ⊢
    have zz := bel0.size
    obtain ⟨fr, hfr⟩ := rowIs_size (w := W0) (t := 64) (size_madeCells #[.slice none 0 0, .slice none 0 0] (ts.length * 2))
    refine tk0 (v := ?_) (by kernel_rfl) (by kernel_rfl) (by kernel_rfl) (by first | exact fun _ _ _ h => h | exact fun _ _ _ h => absurd h.1 (by simp)) (Or.inl ⟨by rfl, ?_⟩) (by assumption) ?_
    rotate_left 1
    focus (intro wx hSw; (try dsimp only at hSw); go_simp; try (with_reducible rfl))
    try simp only [Act.put, List.setIfInBounds_toArray, List.set_cons_zero, List.set_cons_succ]
    refine tk1 (v := ?_) (by kernel_rfl) (by kernel_rfl) (by kernel_rfl) (by first | exact fun _ _ _ h => h | exact fun _ _ _ h => absurd h.1 (by simp)) (Or.inl ⟨by rfl, ?_⟩) (by assumption) ?_
    rotate_left 1
    focus (intro wx hSw; (try dsimp only at hSw); go_simp; try (with_reducible rfl))
    try simp only [Act.put, List.setIfInBounds_toArray, List.set_cons_zero, List.set_cons_succ]
    refine tk2 (v := ?_) (by kernel_rfl) (by kernel_rfl) (by kernel_rfl) (by first | exact fun _ _ _ h => h | exact fun _ _ _ h => absurd h.1 (by simp)) (Or.inl ⟨by rfl, ?_⟩) (by assumption) ?_
    rotate_left 1
    focus (intro wx hSw; (try dsimp only at hSw); go_simp; try (with_reducible rfl))
    try simp only [Act.put, List.setIfInBounds_toArray, List.set_cons_zero, List.set_cons_succ]
    refine tk3 (v := ?_) (by kernel_rfl) (by kernel_rfl) (by kernel_rfl) (by first | exact fun _ _ _ h => h | exact fun _ _ _ h => absurd h.1 (by simp)) (Or.inl ⟨by rfl, ?_⟩) (by assumption) ?_
    rotate_left 1
    focus (intro wx hSw; (try dsimp only at hSw); go_simp; try (with_reducible rfl))
    try simp only [Act.put, List.setIfInBounds_toArray, List.set_cons_zero, List.set_cons_succ]
    refine tk4 (v := ?_) (by kernel_rfl) (by kernel_rfl) (by kernel_rfl) (by first | exact fun _ _ _ h => h | exact fun _ _ _ h => absurd h.1 (by simp)) (Or.inl ⟨by rfl, ?_⟩) (by assumption) ?_
    rotate_left 1
    focus (intro wx hSw; (try dsimp only at hSw); go_simp; try (with_reducible rfl))
    try simp only [Act.put, List.setIfInBounds_toArray, List.set_cons_zero, List.set_cons_succ]
    refine wpAnyH_ready (rs := [5, 7]) (by kernel_rfl) (by simp) ?_
    refine ar5 (fun K hK => ?_) ?_
    · go_simp
      have hb1 : Below W0.heap.size W0 (W0.alloc (.cells (madeCells #[.slice none 0 0, .slice none 0 0] (ts.length * 2)) 64)) := (Below.refl _ _).alloc (Nat.le_refl _) _
      have hz1 : (W0.alloc (.cells (madeCells #[.slice none 0 0, .slice none 0 0] (ts.length * 2)) 64)).heap.size = W0.heap.size + 1 := by simp
      generalize W0.alloc (.cells (madeCells #[.slice none 0 0, .slice none 0 0] (ts.length * 2)) 64) = W1 at hfr hb1 hz1 ⊢
      have bel1 := bel0.trans (hb1.mono zz)
      refine hK.out _ _ ⟨cell_carry k0 (Carries.of 0 hb1), cell_carry k1 (Carries.of 0 hb1)⟩ (fun hHeld => ?_)
      clear hK K
      try simp only [Act.put, List.setIfInBounds_toArray, List.set_cons_zero, List.set_cons_succ]
      refine tk6 (v := ?_) (by kernel_rfl) (by kernel_rfl) (by kernel_rfl) (by first | exact fun _ _ _ h => h | exact fun _ _ _ h => absurd h.1 (by simp)) (Or.inl ⟨by rfl, ?_⟩) (by assumption) ?_
      rotate_left 1
      focus (intro wx hSw; (try dsimp only at hSw); go_simp; try (with_reducible rfl))
      try simp only [Act.put, List.setIfInBounds_toArray, List.set_cons_zero, List.set_cons_succ]
      refine rd7 (by kernel_rfl) (fun K hK => ?_)
      go_simp
      have hb2 : Below W1.heap.size W1 (W1.alloc (.cells #[.int .i64 0, .slice none 0 0] 32)) := (Below.refl _ _).alloc (Nat.le_refl _) _
      have hz2 : (W1.alloc (.cells #[.int .i64 0, .slice none 0 0] 32)).heap.size = W1.heap.size + 1 := by simp
      have g0 : (W1.alloc (.cells #[.int .i64 0, .slice none 0 0] 32)).cell? ⟨W1.heap.size, 0, none⟩ = some (.int .i64 0) := by simp
      have g1 : (W1.alloc (.cells #[.int .i64 0, .slice none 0 0] 32)).cell? ⟨W1.heap.size, 1, none⟩ = some (.slice none 0 0) := by simp
      have gf0 : (W1.alloc (.cells #[.int .i64 0, .slice none 0 0] 32)).frozen? ⟨W1.heap.size, 0, none⟩ = false := by simp
      have gf1 : (W1.alloc (.cells #[.int .i64 0, .slice none 0 0] 32)).frozen? ⟨W1.heap.size, 1, none⟩ = false := by simp
      rw [hz1] at g0 g1 gf0 gf1
      generalize W1.alloc (.cells #[.int .i64 0, .slice none 0 0] 32) = W2 at hb2 hz2 g0 g1 gf0 gf1 ⊢
      have bel2 := bel1.trans (hb2.mono bel1.size)
      have hfr2 := hfr.of_block (hb2.block _ (by omega))
      refine hK.out _ _ ⟨cell_keep a0 bel2 (Nat.le_refl _), cell_keep a1 bel2 (Nat.le_refl _)⟩ (fun hHeld => ?_)
      clear hK K
      try simp only [Act.put, List.setIfInBounds_toArray, List.set_cons_zero, List.set_cons_succ]
      refine rd8 (by kernel_rfl) (fun K hK => ?_)
      go_simp
      have hs : Below w1.heap.size w1 ((W2.setCell ⟨(W0.heap.size + 1), 0, none⟩ (.int .i64 p)).setCell ⟨(W0.heap.size + 1), 1, none⟩ (.slice (some ⟨W0.heap.size, 0, none⟩) ts.length ts.length)) := (bel2.setCell (by simp; omega) _).setCell (by simp; omega) _
      have q0 : ((W2.setCell ⟨(W0.heap.size + 1), 0, none⟩ (.int .i64 p)).setCell ⟨(W0.heap.size + 1), 1, none⟩ (.slice (some ⟨W0.heap.size, 0, none⟩) ts.length ts.length)).cell? ⟨(W0.heap.size + 1), 0, none⟩ = some (.int .i64 p) := by
        refine (World.cell?_setCell_other _ _ _ _ (by simp)).trans ?_
        exact World.cell?_setCell_same _ _ _ g0
      have q1 : ((W2.setCell ⟨(W0.heap.size + 1), 0, none⟩ (.int .i64 p)).setCell ⟨(W0.heap.size + 1), 1, none⟩ (.slice (some ⟨W0.heap.size, 0, none⟩) ts.length ts.length)).cell? ⟨(W0.heap.size + 1), 1, none⟩ = some (.slice (some ⟨W0.heap.size, 0, none⟩) ts.length ts.length) :=
        World.cell?_setCell_same _ _ _ ((World.cell?_setCell_other W2 ⟨W0.heap.size + 1, 0, none⟩ ⟨W0.heap.size + 1, 1, none⟩ _ (by simp)).trans g1)
      have q2 : ((W2.setCell ⟨(W0.heap.size + 1), 0, none⟩ (.int .i64 p)).setCell ⟨(W0.heap.size + 1), 1, none⟩ (.slice (some ⟨W0.heap.size, 0, none⟩) ts.length ts.length)).rowIs W0.heap.size 64 (ts.length * 2) fr := (hfr2.setOther (by simp <;> omega) _).setOther (by simp <;> omega) _
      have q3 : ((W2.setCell ⟨(W0.heap.size + 1), 0, none⟩ (.int .i64 p)).setCell ⟨(W0.heap.size + 1), 1, none⟩ (.slice (some ⟨W0.heap.size, 0, none⟩) ts.length ts.length)).heap.size = W2.heap.size := by simp
      have q4 := cell_keep a0 hs (Nat.le_refl _)
      have q5 := cell_keep a1 hs (Nat.le_refl _)
      generalize (W2.setCell ⟨(W0.heap.size + 1), 0, none⟩ (.int .i64 p)).setCell ⟨(W0.heap.size + 1), 1, none⟩ (.slice (some ⟨W0.heap.size, 0, none⟩) ts.length ts.length) = W3 at hs q0 q1 q2 q3 q4 q5 ⊢
      refine hK.out _ _ ⟨q4, q5⟩ (fun hHeld => ?_)
      clear hK K
      try simp only [Act.put, List.setIfInBounds_toArray, List.set_cons_zero, List.set_cons_succ]
      refine wpAnyH_done (by kernel_rfl) ?_ _
      exact ⟨rfl, W0.heap.size, (W0.heap.size + 1), rfl, by omega, by omega, by omega, by omega, by omega, ⟨_, q2⟩, q0, q1, hs⟩
    refine ar7 (fun K hK => ?_) ?_
    · go_simp
      have hb1 : Below W0.heap.size W0 (W0.alloc (.cells #[.int .i64 0, .slice none 0 0] 32)) := (Below.refl _ _).alloc (Nat.le_refl _) _
      have hz1 : (W0.alloc (.cells #[.int .i64 0, .slice none 0 0] 32)).heap.size = W0.heap.size + 1 := by simp
      have g0 : (W0.alloc (.cells #[.int .i64 0, .slice none 0 0] 32)).cell? ⟨W0.heap.size, 0, none⟩ = some (.int .i64 0) := by simp
      have g1 : (W0.alloc (.cells #[.int .i64 0, .slice none 0 0] 32)).cell? ⟨W0.heap.size, 1, none⟩ = some (.slice none 0 0) := by simp
      have gf0 : (W0.alloc (.cells #[.int .i64 0, .slice none 0 0] 32)).frozen? ⟨W0.heap.size, 0, none⟩ = false := by simp
      have gf1 : (W0.alloc (.cells #[.int .i64 0, .slice none 0 0] 32)).frozen? ⟨W0.heap.size, 1, none⟩ = false := by simp
      generalize W0.alloc (.cells #[.int .i64 0, .slice none 0 0] 32) = W1 at hb1 hz1 g0 g1 gf0 gf1 ⊢
      have bel1 := bel0.trans (hb1.mono zz)
      refine hK.out _ _ ⟨cell_carry k0 (Carries.of 0 hb1), cell_carry k1 (Carries.of 0 hb1)⟩ (fun hHeld => ?_)
      clear hK K
      try simp only [Act.put, List.setIfInBounds_toArray, List.set_cons_zero, List.set_cons_succ]
      clear hfr fr
      obtain ⟨fr, hfr⟩ := rowIs_size (w := W1) (t := 64) (size_madeCells #[.slice none 0 0, .slice none 0 0] (ts.length * 2))
      rw [hz1] at hfr
      refine rd5 (by kernel_rfl) (fun K hK => ?_)
      go_simp
      have hb2 : Below W1.heap.size W1 (W1.alloc (.cells (madeCells #[.slice none 0 0, .slice none 0 0] (ts.length * 2)) 64)) := (Below.refl _ _).alloc (Nat.le_refl _) _
      have hz2 : (W1.alloc (.cells (madeCells #[.slice none 0 0, .slice none 0 0] (ts.length * 2)) 64)).heap.size = W1.heap.size + 1 := by simp
      generalize W1.alloc (.cells (madeCells #[.slice none 0 0, .slice none 0 0] (ts.length * 2)) 64) = W2 at hfr hb2 hz2 ⊢
      have bel2 := bel1.trans (hb2.mono bel1.size)
      have hfr2 := hfr
      have c0 := cell_carry g0 (Carries.of 0 hb2)
      have c1 := cell_carry g1 (Carries.of 0 hb2)
      have cf0 := (hb2.frozen (p := ⟨W0.heap.size, 0, none⟩) (by simp; omega)).trans gf0
      have cf1 := (hb2.frozen (p := ⟨W0.heap.size, 1, none⟩) (by simp; omega)).trans gf1
      clear g0 g1 gf0 gf1
      have g0 := c0
      have g1 := c1
      refine hK.out _ _ ⟨cell_keep a0 bel2 (Nat.le_refl _), cell_keep a1 bel2 (Nat.le_refl _)⟩ (fun hHeld => ?_)
      clear hK K
      try simp only [Act.put, List.setIfInBounds_toArray, List.set_cons_zero, List.set_cons_succ]
      refine tk6 (v := ?_) (by kernel_rfl) (by kernel_rfl) (by kernel_rfl) (by first | exact fun _ _ _ h => h | exact fun _ _ _ h => absurd h.1 (by simp)) (Or.inl ⟨by rfl, ?_⟩) (by assumption) ?_
      rotate_left 1
      focus (intro wx hSw; (try dsimp only at hSw); go_simp; try (with_reducible rfl))
      try simp only [Act.put, List.setIfInBounds_toArray, List.set_cons_zero, List.set_cons_succ]
      refine rd8 (by kernel_rfl) (fun K hK => ?_)
      go_simp
      have hs : Below w1.heap.size w1 ((W2.setCell ⟨W0.heap.size, 0, none⟩ (.int .i64 p)).setCell ⟨W0.heap.size, 1, none⟩ (.slice (some ⟨(W0.heap.size + 1), 0, none⟩) ts.length ts.length)) := (bel2.setCell (by simp; omega) _).setCell (by simp; omega) _
      have q0 : ((W2.setCell ⟨W0.heap.size, 0, none⟩ (.int .i64 p)).setCell ⟨W0.heap.size, 1, none⟩ (.slice (some ⟨(W0.heap.size + 1), 0, none⟩) ts.length ts.length)).cell? ⟨W0.heap.size, 0, none⟩ = some (.int .i64 p) := by
        refine (World.cell?_setCell_other _ _ _ _ (by simp)).trans ?_
        exact World.cell?_setCell_same _ _ _ g0
      have q1 : ((W2.setCell ⟨W0.heap.size, 0, none⟩ (.int .i64 p)).setCell ⟨W0.heap.size, 1, none⟩ (.slice (some ⟨(W0.heap.size + 1), 0, none⟩) ts.length ts.length)).cell? ⟨W0.heap.size, 1, none⟩ = some (.slice (some ⟨(W0.heap.size + 1), 0, none⟩) ts.length ts.length) :=
        World.cell?_setCell_same _ _ _ ((World.cell?_setCell_other W2 ⟨W0.heap.size, 0, none⟩ ⟨W0.heap.size, 1, none⟩ _ (by simp)).trans g1)
      have q2 : ((W2.setCell ⟨W0.heap.size, 0, none⟩ (.int .i64 p)).setCell ⟨W0.heap.size, 1, none⟩ (.slice (some ⟨(W0.heap.size + 1), 0, none⟩) ts.length ts.length)).rowIs (W0.heap.size + 1) 64 (ts.length * 2) fr := (hfr2.setOther (by simp <;> omega) _).setOther (by simp <;> omega) _
      have q3 : ((W2.setCell ⟨W0.heap.size, 0, none⟩ (.int .i64 p)).setCell ⟨W0.heap.size, 1, none⟩ (.slice (some ⟨(W0.heap.size + 1), 0, none⟩) ts.length ts.length)).heap.size = W2.heap.size := by simp
      have q4 := cell_keep a0 hs (Nat.le_refl _)
      have q5 := cell_keep a1 hs (Nat.le_refl _)
      generalize (W2.setCell ⟨W0.heap.size, 0, none⟩ (.int .i64 p)).setCell ⟨W0.heap.size, 1, none⟩ (.slice (some ⟨(W0.heap.size + 1), 0, none⟩) ts.length ts.length) = W3 at hs q0 q1 q2 q3 q4 q5 ⊢
      refine hK.out _ _ ⟨q4, q5⟩ (fun hHeld => ?_)
      clear hK K
      try simp only [Act.put, List.setIfInBounds_toArray, List.set_cons_zero, List.set_cons_succ]
      refine wpAnyH_done (by kernel_rfl) ?_ _
      exact ⟨rfl, (W0.heap.size + 1), W0.heap.size, rfl, by omega, by omega, by omega, by omega, by omega, ⟨_, q2⟩, q0, q1, hs⟩
    exact AllReadyH.nil
  rintro e a' wz ⟨rfl, R, G, rfl, hR, hG, hRG, hRz, hGz, ⟨fr, hfr⟩, g0, g1, hbz⟩
  have hwz : Below w.heap.size w wz := hw1.trans (hbz.mono hw1.size)
  have d0 := cell_keep a0 hbz (Nat.le_refl _)
  have d1 := cell_keep a1 hbz (Nat.le_refl _)
  clear a0 a1
  have zwz := hbz.size
  have HVZ := Lib.hid (HV.out.keep (Carries.of lo hwz))
  have HR0 : Hid (SepRow (fun _ => wz.heap.size) R wz ts.length 0 (revTs ts)) := ⟨fun _ => Nat.le_refl _, fr, hfr, fun i hi => absurd hi (Nat.not_lt_zero _)⟩
  clear hfr fr
  go_wp2_with fail
  go_loopw [21] (fun i wr => ∃ (k : Nat) (c : Nat → Nat), k ≤ ts.length ∧ i = .int .i64 k ∧ c 0 = wz.heap.size ∧ (∀ i, c i ≤ wr.heap.size) ∧ Hid (SepRow c R wr ts.length k (revTs ts)) ∧ Below w1.heap.size w1 wr ∧ wr.cell? ⟨G, 0, none⟩ = some (.int .i64 p) ∧ wr.cell? ⟨G, 1, none⟩ = some (.slice (some ⟨R, 0, none⟩) ts.length ts.length)) (fun i _ => ts.length - (intOf i).toNat)
  case atStart => exact ⟨0, _, Nat.zero_le _, rfl, rfl, fun _ => Nat.le_refl _, HR0.out, hbz, g0, g1⟩
  case round =>
    obtain ⟨k, c, hk, rfl, hc0, hcs, hrow, hb1, e0, e1⟩ := hrel
    have hwr : Below w.heap.size w wr := hw1.trans (hb1.mono hw1.size)
    have zr : wz.heap.size ≤ wr.heap.size := by rw [← hc0]; exact hcs 0
    by_cases hlt : k < ts.length
    · rcases HF.out with rfl | ⟨b, off, rfl, hlo, hcell⟩
      · simp at hlt
      obtain ⟨x0, x1, q0, q1, hx⟩ := hcell k hlt
      obtain ⟨X, hX⟩ : ∃ X, X = ts.getD k ([], []) := ⟨_, rfl⟩
      have sx := HS.out.2 k hlt
      rw [← hX] at hx sx
      obtain ⟨s1, s2⟩ := sx
      have HXT := Lib.hid hX
      obtain ⟨⟨xa0, xk0, rfl, _, _⟩, ⟨xa1, xk1, rfl, _, _⟩⟩ := id hx
      have q2 := Carries.of lo hwr _ _ hlo q0
      have q3 := Carries.of lo hwr _ _ hlo q1
      have HX := Lib.hid (hx.keep (Carries.of lo hwr)); clear hx q0 q1 hX hcell
      have hal : Below wr.heap.size wr (wr.alloc (.cells #[.slice xa0 X.1.length xk0, .slice xa1 X.2.length xk1] 64)) := (Below.refl _ _).alloc (Nat.le_refl _) _
      go_wp2_with fail
      have t0 : (wr.alloc (.cells #[.slice xa0 X.1.length xk0, .slice xa1 X.2.length xk1] 64)).cell? ⟨wr.heap.size, 0, none⟩ = some (.slice xa0 X.1.length xk0) := by simp
      have t1 : (wr.alloc (.cells #[.slice xa0 X.1.length xk0, .slice xa1 X.2.length xk1] 64)).cell? ⟨wr.heap.size, 1, none⟩ = some (.slice xa1 X.2.length xk1) := by simp
      generalize wr.alloc (.cells #[.slice xa0 X.1.length xk0, .slice xa1 X.2.length xk1] 64) = W at t0 t1 hal ⊢
      have za := hal.size
      have f0 := cell_carry e0 (Carries.of 0 hal)
      have f1 := cell_carry e1 (Carries.of 0 hal)
      have bW := hb1.trans (hal.mono hb1.size)
      have HXW := Lib.hid (HX.out.keep (Carries.of lo hal)); clear HX
      have HRW := Lib.hid (hrow.out.keep hal); clear hrow
      refine wp_region_held_drew (S := fun w' => w'.cell? ⟨G, 1, none⟩ = some (.slice (some ⟨R, 0, none⟩) ts.length ts.length) ∧ w'.cell? ⟨wr.heap.size, 0, none⟩ = some (.slice xa0 X.1.length xk0) ∧ w'.cell? ⟨wr.heap.size, 1, none⟩ = some (.slice xa1 X.2.length xk1)) (by kernel_rfl) ⟨f1, t0, t1⟩ (fun hHeld => ?_)
      have hd : Below W.heap.size W W.drew := (Below.refl _ _).drew
      generalize W.drew = W0 at hd hHeld ⊢
      have bel0 := bW.trans (hd.mono bW.size)
      have zd := hd.size
      have f0 := cell_carry f0 (Carries.of 0 hd)
      have f1 := cell_carry f1 (Carries.of 0 hd)
      have t0 := cell_carry t0 (Carries.of 0 hd)
      have t1 := cell_carry t1 (Carries.of 0 hd)
      have HXW0 := Lib.hid (HXW.out.keep (Carries.of lo hd)); clear HXW
      have HRW0 := Lib.hid (HRW.out.keep hd); clear HRW
      clear hd
      refine tk0 (v := ?_) (by kernel_rfl) (by kernel_rfl) (by kernel_rfl) (by first | exact fun _ _ _ h => h | exact fun _ _ _ h => absurd h.1 (by simp)) (Or.inl ⟨by rfl, ?_⟩) (by assumption) ?_
      rotate_left 1
      focus (intro wx hSw; (try dsimp only at hSw); go_simp; try (with_reducible rfl))
      try simp only [Act.put, List.setIfInBounds_toArray, List.set_cons_zero, List.set_cons_succ]
      refine tk1 (v := ?_) (by kernel_rfl) (by kernel_rfl) (by kernel_rfl) (by first | exact fun _ _ _ h => h | exact fun _ _ _ h => absurd h.1 (by simp)) (Or.inl ⟨by rfl, ?_⟩) (by assumption) ?_
      rotate_left 1
      focus (intro wx hSw; (try dsimp only at hSw); go_simp; try (with_reducible rfl))
      try simp only [Act.put, List.setIfInBounds_toArray, List.set_cons_zero, List.set_cons_succ]
      refine tk2 (v := ?_) (by kernel_rfl) (by kernel_rfl) (by kernel_rfl) (by first | exact fun _ _ _ h => h | exact fun _ _ _ h => absurd h.1 (by simp)) (Or.inl ⟨by rfl, ?_⟩) (by assumption) ?_
      rotate_left 1
      focus (intro wx hSw; (try dsimp only at hSw); go_simp; try (with_reducible rfl))
      try simp only [Act.put, List.setIfInBounds_toArray, List.set_cons_zero, List.set_cons_succ]
      refine tk3 (v := ?_) (by kernel_rfl) (by kernel_rfl) (by kernel_rfl) (by first | exact fun _ _ _ h => h | exact fun _ _ _ h => absurd h.1 (by simp)) (Or.inl ⟨by rfl, ?_⟩) (by assumption) ?_
      rotate_left 1
      focus (intro wx hSw; (try dsimp only at hSw); go_simp; try (with_reducible rfl))
      try simp only [Act.put, List.setIfInBounds_toArray, List.set_cons_zero, List.set_cons_succ]
      refine tk4 (v := ?_) (by kernel_rfl) (by kernel_rfl) (by kernel_rfl) (by first | exact fun _ _ _ h => h | exact fun _ _ _ h => absurd h.1 (by simp)) (Or.inl ⟨by rfl, ?_⟩) (by assumption) ?_
      rotate_left 1
      focus (intro wx hSw; (try dsimp only at hSw); go_simp; try (with_reducible rfl))
      try simp only [Act.put, List.setIfInBounds_toArray, List.set_cons_zero, List.set_cons_succ]
      refine tk6 (v := ?_) (by kernel_rfl) (by kernel_rfl) (by kernel_rfl) (by first | exact fun _ _ _ h => h | exact fun _ _ _ h => absurd h.1 (by simp)) (Or.inl ⟨by rfl, ?_⟩) (by assumption) ?_
      rotate_left 1
      focus (intro wx hSw; (try dsimp only at hSw); go_simp; try (with_reducible rfl))
      try simp only [Act.put, List.setIfInBounds_toArray, List.set_cons_zero, List.set_cons_succ]
      refine tk7 (v := ?_) (by kernel_rfl) (by kernel_rfl) (by kernel_rfl) (by first | exact fun _ _ _ h => h | exact fun _ _ _ h => absurd h.1 (by simp)) (Or.inl ⟨by rfl, ?_⟩) (by assumption) ?_
      rotate_left 1
      focus (intro wx hSw; (try dsimp only at hSw); go_simp; try (with_reducible rfl))
      try simp only [Act.put, List.setIfInBounds_toArray, List.set_cons_zero, List.set_cons_succ]
      refine rd5 (by kernel_rfl) (fun K hK => ?_)
      go_simp
      refine (copyInts_any _ X.2 W0 lo HXW0.out.2 s2).mono ?_
      rintro e W1 ⟨y0, rfl, hi0, hbb⟩
      obtain ⟨ya, yk, rfl, _, _⟩ := id hi0
      have bel1 := bel0.trans (hbb.mono bel0.size)
      have zd1 := hbb.size
      have f0 := cell_carry f0 (Carries.of 0 hbb)
      have f1 := cell_carry f1 (Carries.of 0 hbb)
      have t0 := cell_carry t0 (Carries.of 0 hbb)
      have t1 := cell_carry t1 (Carries.of 0 hbb)
      have HXW1 := Lib.hid (HXW0.out.keep (Carries.of lo hbb)); clear HXW0
      have HRW1 := Lib.hid (HRW0.out.keep hbb); clear HRW0
      have BD0 := Lib.hid hi0.at.bound
      have HI0 := Lib.hid hi0; clear hi0 hbb
      refine hK.out _ _ ⟨f1, t0, t1⟩ (fun hHeld => ?_)
      clear hK K
      try simp only [Act.put, List.setIfInBounds_toArray, List.set_cons_zero, List.set_cons_succ]
      refine rd8 (by kernel_rfl) (fun K hK => ?_)
      go_simp
      refine (copyInts_any _ X.1 W1 lo HXW1.out.1 s1).mono ?_
      rintro e W2 ⟨y1, rfl, hi1, hbb⟩
      obtain ⟨za', zk, rfl, _, _⟩ := id hi1
      have bel2 := bel1.trans (hbb.mono bel1.size)
      have zd2 := hbb.size
      have f0 := cell_carry f0 (Carries.of 0 hbb)
      have f1 := cell_carry f1 (Carries.of 0 hbb)
      have t0 := cell_carry t0 (Carries.of 0 hbb)
      have t1 := cell_carry t1 (Carries.of 0 hbb)
      have HRW2 := Lib.hid (HRW1.out.keep hbb); clear HRW1
      have HI0' := Lib.hid (HI0.out.keep (Same.of _ hbb)); clear HI0
      have BD1 := Lib.hid hi1.at.bound
      have HI1 := Lib.hid hi1; clear hi1 hbb
      refine hK.out _ _ ⟨f1, t0, t1⟩ (fun hHeld => ?_)
      clear hK K
      try simp only [Act.put, List.setIfInBounds_toArray, List.set_cons_zero, List.set_cons_succ]
      refine tk9 (v := ?_) (by kernel_rfl) (by kernel_rfl) (by kernel_rfl) (by first | exact fun _ _ _ h => h | exact fun _ _ _ h => absurd h.1 (by simp)) (Or.inl ⟨by rfl, ?_⟩) (by assumption) ?_
      rotate_left 1
      focus (intro wx hSw; (try dsimp only at hSw); go_simp; try (with_reducible rfl))
      try simp only [Act.put, List.setIfInBounds_toArray, List.set_cons_zero, List.set_cons_succ]
      refine tk10 (v := ?_) (by kernel_rfl) (by kernel_rfl) (by kernel_rfl) (by first | exact fun _ _ _ h => h | exact fun _ _ _ h => absurd h.1 (by simp)) (Or.inl ⟨by rfl, ?_⟩) (by assumption) ?_
      rotate_left 1
      focus (intro wx hSw; (try dsimp only at hSw); go_simp; try (with_reducible rfl))
      try simp only [Act.put, List.setIfInBounds_toArray, List.set_cons_zero, List.set_cons_succ]
      obtain ⟨o0, o1, oc0, oc1, of0, of1⟩ := HRW2.out.cells hlt
      have hRr : R < wr.heap.size := by omega
      have hrt : (revTs ts).getD k ([], []) = (X.2, X.1) := by rw [revTs_get hlt, ← HXT.out]; rfl
      have hput := HRW2.out.put (s0 := W0.heap.size) (s1 := W1.heap.size) (s2 := W2.heap.size) (v0 := .slice ya X.2.length yk) (v1 := .slice za' X.1.length zk) hlt (by omega) (fun i => by have := hcs i; omega) zd1 zd2 (by rw [hrt]; exact HI0'.out) BD0.out (by rw [hrt]; exact HI1.out) BD1.out
      obtain ⟨c2, hc20, hc2s, hsep⟩ := hput
      have HSEP := Lib.hid hsep; clear hsep
      refine rd11 (by kernel_rfl) (fun K hK => ?_)
      go_simp
      have hs2 : Below w1.heap.size w1 ((W2.setCell ⟨R, k * 2, none⟩ (.slice ya X.2.length yk)).setCell ⟨R, k * 2 + 1, none⟩ (.slice za' X.1.length zk)) := (bel2.setCell hR _).setCell hR _
      have p0 : ((W2.setCell ⟨R, k * 2, none⟩ (.slice ya X.2.length yk)).setCell ⟨R, k * 2 + 1, none⟩ (.slice za' X.1.length zk)).cell? ⟨G, 0, none⟩ = some (.int .i64 p) := (World.cell?_setCell_far _ _ _ _ hRG).trans ((World.cell?_setCell_far _ _ _ _ hRG).trans f0)
      have p1 : ((W2.setCell ⟨R, k * 2, none⟩ (.slice ya X.2.length yk)).setCell ⟨R, k * 2 + 1, none⟩ (.slice za' X.1.length zk)).cell? ⟨G, 1, none⟩ = some (.slice (some ⟨R, 0, none⟩) ts.length ts.length) := (World.cell?_setCell_far _ _ _ _ hRG).trans ((World.cell?_setCell_far _ _ _ _ hRG).trans f1)
      have p2 : ((W2.setCell ⟨R, k * 2, none⟩ (.slice ya X.2.length yk)).setCell ⟨R, k * 2 + 1, none⟩ (.slice za' X.1.length zk)).cell? ⟨wr.heap.size, 0, none⟩ = some (.slice xa0 X.1.length xk0) := (World.cell?_setCell_far _ _ _ _ (Nat.ne_of_lt hRr)).trans ((World.cell?_setCell_far _ _ _ _ (Nat.ne_of_lt hRr)).trans t0)
      have p3 : ((W2.setCell ⟨R, k * 2, none⟩ (.slice ya X.2.length yk)).setCell ⟨R, k * 2 + 1, none⟩ (.slice za' X.1.length zk)).cell? ⟨wr.heap.size, 1, none⟩ = some (.slice xa1 X.2.length xk1) := (World.cell?_setCell_far _ _ _ _ (Nat.ne_of_lt hRr)).trans ((World.cell?_setCell_far _ _ _ _ (Nat.ne_of_lt hRr)).trans t1)
      have p4 : ((W2.setCell ⟨R, k * 2, none⟩ (.slice ya X.2.length yk)).setCell ⟨R, k * 2 + 1, none⟩ (.slice za' X.1.length zk)).heap.size = W2.heap.size := by simp
      generalize (W2.setCell ⟨R, k * 2, none⟩ (.slice ya X.2.length yk)).setCell ⟨R, k * 2 + 1, none⟩ (.slice za' X.1.length zk) = W3 at hs2 p0 p1 p2 p3 p4 HSEP ⊢
      refine hK.out _ _ ⟨p1, p2, p3⟩ (fun hHeld => ?_)
      clear hK K
      try simp only [Act.put, List.setIfInBounds_toArray, List.set_cons_zero, List.set_cons_succ]
      refine wpAnyH_done (by kernel_rfl) ?_ _
      clear f0 f1 t0 t1 p2 p3 oc0 oc1 of0 of1 q2 q3
      go_wp2_with fail
      go_roundw
      case rel => exact ⟨k + 1, c2, by omega, by go_num, by omega, fun i => by rw [p4]; exact hc2s i, HSEP.out, hs2, p0, p1⟩
      case measure => simp [intOf]; omega
    · have hkk : k = ts.length := by omega
      subst hkk
      have SR := Lib.hid hrow.out; clear hrow
      have SR2 : SepRow c R wr (revTs ts).length (revTs ts).length (revTs ts) := by rw [revTs_length]; exact SR.out
      have hna : NetAt 0 wr (.agg #[.int .i64 p, .slice (some ⟨R, 0, none⟩) ts.length ts.length]) ⟨p, revTs ts⟩ := ⟨hp0, hp1, _, rfl, by have := SR2.read.at; rw [revTs_length] at this; exact this⟩
      have HNA := Lib.hid hna; clear hna SR2
      have hq : revB n = goodN ⟨p, revTs ts⟩ := by unfold revB; rw [HG.out, ← HPl.out, ← HT.out]; rfl
      go_wp2_with fail
      refine (IsValidNet_any _ ⟨p, revTs ts⟩ wr 0 HNA.out (revTs_small HS.out)).mono ?_
      rintro e w9 ⟨rfl, hb⟩
      have b9 := hb1.trans (hb.mono hb1.size)
      have f0 := cell_carry e0 (Carries.of 0 hb)
      have f1 := cell_carry e1 (Carries.of 0 hb)
      have m0 := cell_keep r0 b9 (Nat.le_refl _)
      have m1 := cell_keep r1 b9 (Nat.le_refl _)
      have mf0 := (b9.frozen (p := ⟨w.heap.size + 1, 0, none⟩) z2).trans rf0
      have mf1 := (b9.frozen (p := ⟨w.heap.size + 1, 1, none⟩) z2).trans rf1
      have zz9 := hb.size
      have zz8 := hcs 0
      have SR9 := Lib.hid (SR.out.keep hb)
      have hw9 : Below w.heap.size w w9 := hw1.trans (b9.mono hw1.size)
      clear hb e0 e1
      cases hg2 : goodN ⟨p, revTs ts⟩ with
      | false =>
        rw [hg2] at hq
        have k1 : revR n = ⟨0, []⟩ := by unfold revR; rw [hq]; rfl
        rw [HFL.out] at k1
        rw [HFB.out] at hq
        subst k1; subst hq
        clear hg2
        go_wp2_with fail
        refine bodyPost_ret (v := .tuple #[.agg #[.int .i64 0, .slice none 0 0], .bool false]) (by simp [results, Try.results43, go_sem, m0, m1]) rfl ?_
        refine ⟨_, rfl, ⟨fun _ => w.heap.size, Nat.le_refl _, by simp; omega, fun _ => Nat.le_refl _, none, 0, rfl, Nat.le_refl _, Or.inl rfl⟩, ?_⟩
        exact (hw9.setCell (by simp) _).setCell (by simp) _
      | true =>
        rw [hg2] at hq
        have k1 : revR n = ⟨p, revTs ts⟩ := by unfold revR; rw [hq, HPl.out, HT.out]; rfl
        rw [HFL.out] at k1
        rw [HFB.out] at hq
        subst k1; subst hq
        clear hg2
        go_wp2_with fail
        refine bodyPost_ret (v := .tuple #[.agg #[.int .i64 p, .slice (some ⟨R, 0, none⟩) ts.length ts.length], .bool true]) (by simp [results, Try.results43, go_sem, m0, m1]) rfl ?_
        have SRF := (SR9.out.far (p := ⟨w.heap.size + 1, 0, none⟩) (by simp; omega) (by simp; omega) (.int .i64 p)).far (p := ⟨w.heap.size + 1, 1, none⟩) (by simp; omega) (by simp; omega) (.slice (some ⟨R, 0, none⟩) ts.length ts.length)
        refine ⟨_, rfl, ⟨c, by omega, by have := hcs (2 * (revTs ts).length); simp; omega, ?_⟩, ?_⟩
        · have SRG : SepRow c R ((w9.setCell ⟨w.heap.size + 1, 0, none⟩ (.int .i64 p)).setCell ⟨w.heap.size + 1, 1, none⟩ (.slice (some ⟨R, 0, none⟩) ts.length ts.length)) (revTs ts).length (revTs ts).length (revTs ts) := by rw [revTs_length]; exact SRF
          have := SRG.read
          rw [revTs_length] at this
          exact this
        · exact (hw9.setCell (by simp) _).setCell (by simp) _

end Go.Proofs.Ytkkfglolameogaa
