/-
  WALK: ReverseNet of the model.
-/
import Derived.Test.YtlakcjcmbhkcdaaRevb
import Derived.Test.YtlakcjcmbhkcdaaOwnt
namespace Go.Proofs.Ytlakcjcmbhkcdaa
open Go.RowKit

theorem grownBy_set (w : World) (p : Addr) (u : Value) : w.grownBy (w.setCell p u) (some p.block) :=
  ⟨rfl, rfl, rfl, by simp, fun k _ hne => Below.heap_setCell _ _ _ _ (fun e => hne (by rw [e]))⟩
theorem owns_set {B : Nat} {w : World} {e : TypeId} {size n : Nat} {v : Value} {xs : List Value} (h : w.ownsRow B e size v n xs) {p : Addr} (hp : p.block < B) (u : Value) : (w.setCell p u).ownsRow B e size v n xs := by
  refine h.kept (grownBy_set w p u) ?_
  cases hb : v.ownBlock with
  | none => exact Or.inl rfl
  | some g =>
    have := (h.lt g hb).1
    exact Or.inr (by simp; omega)
theorem owns_form {B : Nat} {w : World} {e : TypeId} {size n : Nat} {v : Value} {xs : List Value} (h : w.ownsRow B e size v n xs) : ∃ a c, v = .slice a n c := by
  rcases h.2 with ⟨rfl, rfl⟩ | ⟨g, cap, cur, rfl, _⟩
  · exact ⟨_, _, rfl⟩
  · exact ⟨_, _, rfl⟩
theorem OwnTrs.set {B : Nat} {w : World} {xs : List Value} {k : Nat} {ts : List Tr} (h : OwnTrs B w xs k ts) {p : Addr} (hp : p.block < B) (u : Value) : OwnTrs B (w.setCell p u) xs k ts := by
  refine ⟨h.1, fun i hi => ?_⟩
  obtain ⟨v0, v1, e0, e1, h0, h1⟩ := h.2 i hi
  exact ⟨v0, v1, e0, e1, owns_set h0 hp u, owns_set h1 hp u⟩

/-- a call returns a net that reads so, and this bool -/
def RetNB (w : World) (n : NetD) (b : Bool) (e : Ending) (w' : World) : Prop :=
  ∃ u, e = .returned (.tuple #[.agg #[.int .i64 n.places, u], .bool b]) ∧ TrsAt w.heap.size w' u n.ts ∧ Below w.heap.size w w'

set_option maxRecDepth 100000 in
set_option maxHeartbeats 4000000 in
theorem specReverseNet_any (v : Value) (n : NetD) (w : World) (lo : Nat) (hv : NetAt lo w v n) (hs : SmallTrs n.ts) :
    Calls Try.prog 30 #[v] w (RetNB w (revR n) (revB n)) := by
  generalize hFL : revR n = RN
  generalize hFB : revB n = BB
  have HFL := Lib.hid hFL; clear hFL
  have HFB := Lib.hid hFB; clear hFB
  have hv' := hv
  obtain ⟨hp0, hp1, q, rfl, ht⟩ := hv'
  obtain ⟨ao, cap, rfl, hc, hz⟩ := ht
  obtain ⟨p, hp⟩ : ∃ p, p = n.places := ⟨_, rfl⟩
  obtain ⟨ts, hts⟩ : ∃ ts, ts = n.ts := ⟨_, rfl⟩
  have hs0 := hs
  rw [← hp, ← hts] at hv ⊢
  rw [← hts] at hs hz hc
  rw [← hp] at hp0 hp1
  have HPl := Lib.hid hp; clear hp
  have HT0 := Lib.hid hts; clear hts
  have HV := Lib.hid hv; clear hv
  have HS := Lib.hid hs
  have hmm := hs.1
  have HS0 := Lib.hid hs0; clear hs0 hs
  have HF := Lib.hid hz; clear hz
  go_enter Try.func30, Try.ntmps30
  go_wp2_with fail
  refine (l1Good_any _ n _ lo (HV.out.keep ?_) HS0.out).mono ?_
  · (repeat' (first | (with_reducible exact Carries.refl _ _) | (with_reducible assumption) | (with_reducible refine Carries.alloc ?_ _) | (with_reducible refine Carries.drew ?_) | (with_reducible refine Carries.drewN ?_ _) | (with_reducible refine Carries.set ?_ ?_ _) | go_size))
  rintro e w1 ⟨rfl, hb⟩
  have hw1 : Below w.heap.size w w1 := by
    refine Below.trans ?_ (hb.mono ?_)
    · (repeat' (first | (with_reducible exact Below.refl _ _) | (with_reducible assumption) | (with_reducible refine Below.alloc ?_ ?_ _) | (with_reducible refine Below.drew ?_) | (with_reducible refine below_drewN ?_ _) | (with_reducible refine Below.setCell ?_ ?_ _) | go_size))
    · simp; omega
  have a0 : w1.cell? ⟨w.heap.size, 0, none⟩ = some (.int .i64 p) := cell_carry (by simp) (Carries.of 0 hb)
  have a1 : w1.cell? ⟨w.heap.size, 1, none⟩ = some (.slice ao ts.length cap) := cell_carry (by simp) (Carries.of 0 hb)
  have r0 : w1.cell? ⟨w.heap.size + 1, 0, none⟩ = some (.int .i64 0) := cell_carry (by simp) (Carries.of 0 hb)
  have r1 : w1.cell? ⟨w.heap.size + 1, 1, none⟩ = some (.slice none 0 0) := cell_carry (by simp) (Carries.of 0 hb)
  have rf0 : w1.frozen? ⟨w.heap.size + 1, 0, none⟩ = false := (hb.frozen (by simp)).trans (by simp)
  have rf1 : w1.frozen? ⟨w.heap.size + 1, 1, none⟩ = false := (hb.frozen (by simp)).trans (by simp)
  have z2 : w.heap.size + 1 < w1.heap.size := by have := hb.size; simp at this; omega
  clear hb
  cases hg : goodN n with
  | false =>
    have hcf : revB n = false := by unfold revB; rw [hg]; rfl
    have k1 : revR n = ⟨0, []⟩ := by unfold revR; rw [hcf]; rfl
    rw [HFL.out] at k1
    rw [HFB.out] at hcf
    subst k1; subst hcf
    clear hg
    go_wp2_with fail
    refine bodyPost_ret (v := .tuple #[.agg #[.int .i64 0, .slice none 0 0], .bool false]) (by simp [results, Try.results30, go_sem, r0, r1]) rfl ?_
    refine ⟨_, rfl, ⟨none, 0, rfl, Nat.le_refl _, Or.inl rfl⟩, ?_⟩
    (repeat' (first | (with_reducible exact Below.refl _ _) | (with_reducible assumption) | (with_reducible refine Below.alloc ?_ ?_ _) | (with_reducible refine Below.drew ?_) | (with_reducible refine below_drewN ?_ _) | (with_reducible refine Below.setCell ?_ ?_ _) | go_size))
  | true =>
  have HG := Lib.hid hg; clear hg
  have R0 := Lib.hid r0; clear r0
  have R1 := Lib.hid r1; clear r1
  have RF0 := Lib.hid rf0; clear rf0
  have RF1 := Lib.hid rf1; clear rf1
  have a2 := cell_carry a1 (Carries.alloc (Carries.refl 0 w1) (.cells #[.int .i64 p, .slice none 0 0] 29))
  go_wp2_with fail
  have g0 : (w1.alloc (.cells #[.int .i64 p, .slice none 0 0] 29)).cell? ⟨w1.heap.size, 0, none⟩ = some (.int .i64 p) := by simp
  have g1 : (w1.alloc (.cells #[.int .i64 p, .slice none 0 0] 29)).cell? ⟨w1.heap.size, 1, none⟩ = some (.slice none 0 0) := by simp
  have gf : (w1.alloc (.cells #[.int .i64 p, .slice none 0 0] 29)).frozen? ⟨w1.heap.size, 1, none⟩ = false := by simp
  have hbz : Below w1.heap.size w1 (w1.alloc (.cells #[.int .i64 p, .slice none 0 0] 29)) := (Below.refl _ _).alloc (Nat.le_refl _) _
  have zz : w1.heap.size + 1 ≤ (w1.alloc (.cells #[.int .i64 p, .slice none 0 0] 29)).heap.size := by simp
  clear a2
  generalize w1.alloc (.cells #[.int .i64 p, .slice none 0 0] 29) = wz at g0 g1 gf hbz zz ⊢
  go_loopw [17] (fun i wr => ∃ (k : Nat) (v : Value) (xs : List Value), k ≤ ts.length ∧ i = .int .i64 k ∧ wr.cell? ⟨w1.heap.size, 0, none⟩ = some (.int .i64 p) ∧ wr.cell? ⟨w1.heap.size, 1, none⟩ = some v ∧ wr.frozen? ⟨w1.heap.size, 1, none⟩ = false ∧ Hid (wr.ownsRow (w1.heap.size + 1) 82 2 v k xs) ∧ Hid (OwnTrs (w1.heap.size + 1) wr xs k (revTs ts)) ∧ Below w1.heap.size w1 wr ∧ w1.heap.size + 1 ≤ wr.heap.size) (fun i _ => ts.length - (intOf i).toNat)
  case atStart => exact ⟨0, _, [], Nat.zero_le _, rfl, g0, g1, gf, World.ownsRow_nil _ _ _ _, OwnTrs.zero _ _ _, hbz, zz⟩
  case round =>
    obtain ⟨k, v, xs, hk, rfl, f0, f1, ff, hown, hot, hb1, zB⟩ := hrel
    clear g0 g1 gf hbz zz
    have hwr : Below w.heap.size w wr := hw1.trans (hb1.mono hw1.size)
    by_cases hlt : k < ts.length
    · rcases HF.out with rfl | ⟨b, off, rfl, hlo, hcell⟩
      · simp at hlt
      obtain ⟨x0, x1, q0, q1, hx⟩ := hcell k hlt
      obtain ⟨X, hX⟩ : ∃ X, X = ts.getD k ([], []) := ⟨_, rfl⟩
      have sx := HS.out.2 k hlt
      rw [← hX] at hx sx
      obtain ⟨s1, s2⟩ := sx
      have hrt : Hid ((revTs ts).getD k ([], []) = (X.2, X.1)) := by
        have e := revTs_get hlt
        rw [← hX] at e
        exact e
      obtain ⟨⟨xa0, xk0, rfl, _, _⟩, ⟨xa1, xk1, rfl, _, _⟩⟩ := id hx
      have q2 := Carries.of lo hwr _ _ hlo q0
      have q3 := Carries.of lo hwr _ _ hlo q1
      have HXr := Lib.hid (hx.keep (Carries.of lo hwr)); clear hx q0 q1 hX hcell
      have hTne : some wr.heap.size ≠ v.ownBlock := fun h => by have := (hown.out.lt _ h.symm).2; omega
      have hGne : some w1.heap.size ≠ v.ownBlock := fun h => by have := (hown.out.lt _ h.symm).1; omega
      have hal : Below wr.heap.size wr (wr.alloc (.cells #[.slice xa0 X.1.length xk0, .slice xa1 X.2.length xk1] 82)) := (Below.refl _ _).alloc (Nat.le_refl _) _
      go_wp2_with fail
      have t0 : (wr.alloc (.cells #[.slice xa0 X.1.length xk0, .slice xa1 X.2.length xk1] 82)).cell? ⟨wr.heap.size, 0, none⟩ = some (.slice xa0 X.1.length xk0) := by simp
      have t1 : (wr.alloc (.cells #[.slice xa0 X.1.length xk0, .slice xa1 X.2.length xk1] 82)).cell? ⟨wr.heap.size, 1, none⟩ = some (.slice xa1 X.2.length xk1) := by simp
      have za : wr.heap.size < (wr.alloc (.cells #[.slice xa0 X.1.length xk0, .slice xa1 X.2.length xk1] 82)).heap.size := by simp
      generalize wr.alloc (.cells #[.slice xa0 X.1.length xk0, .slice xa1 X.2.length xk1] 82) = W at t0 t1 hal za ⊢
      refine wp_region_held_drew (S := fun w' => w'.cell? ⟨wr.heap.size, 0, none⟩ = some (.slice xa0 X.1.length xk0) ∧ w'.cell? ⟨wr.heap.size, 1, none⟩ = some (.slice xa1 X.2.length xk1)) (by kernel_rfl) ⟨t0, t1⟩ (fun hHeld => ?_)
      have hd : Below W.heap.size W W.drew := (Below.refl _ _).drew
      generalize W.drew = W0 at hd hHeld ⊢
      have hbb : Below wr.heap.size wr W0 := hal.trans (hd.mono hal.size)
      have belW0 := hb1.trans (hbb.mono hb1.size)
      have zdW0 := hd.size
      have zTW0 : wr.heap.size < W0.heap.size := by omega
      have f0W0 := cell_carry f0 (Carries.of 0 hbb)
      have f1W0 := cell_carry f1 (Carries.of 0 hbb)
      have ffW0 := (hbb.frozen (p := ⟨w1.heap.size, 1, none⟩) (by simp; omega)).trans ff
      have t0W0 := cell_carry t0 (Carries.of 0 hd)
      have t1W0 := cell_carry t1 (Carries.of 0 hd)
      have HXW0 := Lib.hid (HXr.out.keep (Carries.of lo hbb)); clear HXr
      have HOW0 := Lib.hid (owns_after hown.out hbb); clear hown
      have HTW0 := Lib.hid (hot.out.after hbb); clear hot
      clear hd hbb t0 t1 f0 f1 ff q2 q3 hal
      refine tk0 (v := ?_) (by kernel_rfl) (by kernel_rfl) (by kernel_rfl) (by first | exact fun _ _ _ h => h | exact fun _ _ _ h => absurd h.1 (by simp)) (Or.inl ⟨by rfl, ?_⟩) (by assumption) ?_
      rotate_left 1
      focus (intro wx hSw; (try dsimp only at hSw); go_simp; try (with_reducible rfl))
      try simp only [Act.put, List.setIfInBounds_toArray, List.set_cons_zero, List.set_cons_succ]
      refine tk2 (v := ?_) (by kernel_rfl) (by kernel_rfl) (by kernel_rfl) (by first | exact fun _ _ _ h => h | exact fun _ _ _ h => absurd h.1 (by simp)) (Or.inl ⟨by rfl, ?_⟩) (by assumption) ?_
      rotate_left 1
      focus (intro wx hSw; (try dsimp only at hSw); go_simp; try (with_reducible rfl))
      try simp only [Act.put, List.setIfInBounds_toArray, List.set_cons_zero, List.set_cons_succ]
      refine tk3 (v := ?_) (by kernel_rfl) (by kernel_rfl) (by kernel_rfl) (by first | exact fun _ _ _ h => h | exact fun _ _ _ h => absurd h.1 (by simp)) (Or.inl ⟨by rfl, ?_⟩) (by assumption) ?_
      rotate_left 1
      focus (intro wx hSw; (try dsimp only at hSw); go_simp; try (with_reducible rfl))
      try simp only [Act.put, List.setIfInBounds_toArray, List.set_cons_zero, List.set_cons_succ]
      refine tk5 (v := ?_) (by kernel_rfl) (by kernel_rfl) (by kernel_rfl) (by first | exact fun _ _ _ h => h | exact fun _ _ _ h => absurd h.1 (by simp)) (Or.inl ⟨by rfl, ?_⟩) (by assumption) ?_
      rotate_left 1
      focus (intro wx hSw; (try dsimp only at hSw); go_simp; try (with_reducible rfl))
      try simp only [Act.put, List.setIfInBounds_toArray, List.set_cons_zero, List.set_cons_succ]
      refine tk6 (v := ?_) (by kernel_rfl) (by kernel_rfl) (by kernel_rfl) (by first | exact fun _ _ _ h => h | exact fun _ _ _ h => absurd h.1 (by simp)) (Or.inl ⟨by rfl, ?_⟩) (by assumption) ?_
      rotate_left 1
      focus (intro wx hSw; (try dsimp only at hSw); go_simp; try (with_reducible rfl))
      try simp only [Act.put, List.setIfInBounds_toArray, List.set_cons_zero, List.set_cons_succ]
      refine wpAnyH_ready (rs := [1, 4]) (by kernel_rfl) (by simp) ?_
      refine ar1 (fun K hK => ?_) ?_
      · go_simp
        refine hK.out _ _ ⟨t0W0, t1W0⟩ (fun hHeld => ?_)
        clear hK K
        try simp only [Act.put, List.setIfInBounds_toArray, List.set_cons_zero, List.set_cons_succ]
        refine rd4 (by kernel_rfl) (fun K hK => ?_)
        go_simp
        refine (l1Own_any _ X.2 W0 lo HXW0.out.2 (by omega)).mono ?_
        rintro e W1 ⟨y0_, rfl, hi0, hbb⟩
        have belW1 := belW0.trans (hbb.mono belW0.size)
        have zdW1 := hbb.size
        have zTW1 : wr.heap.size < W1.heap.size := by omega
        have f0W1 := cell_carry f0W0 (Carries.of 0 hbb)
        have f1W1 := cell_carry f1W0 (Carries.of 0 hbb)
        have ffW1 := (hbb.frozen (p := ⟨w1.heap.size, 1, none⟩) (by simp; omega)).trans ffW0
        have t0W1 := cell_carry t0W0 (Carries.of 0 hbb)
        have t1W1 := cell_carry t1W0 (Carries.of 0 hbb)
        have HXW1 := Lib.hid (HXW0.out.keep (Carries.of lo hbb))
        have HOW1 := Lib.hid (owns_after HOW0.out hbb)
        have HTW1 := Lib.hid (HTW0.out.after hbb)
        have HYW1 := Lib.hid (IRow.low (B' := w1.heap.size + 1) hi0 (by omega))
        obtain ⟨ya, yk, rfl⟩ := IRow.form hi0
        clear hi0 hbb
        refine hK.out _ _ ⟨t0W1, t1W1⟩ (fun hHeld => ?_)
        clear hK K
        try simp only [Act.put, List.setIfInBounds_toArray, List.set_cons_zero, List.set_cons_succ]
        refine rd7 (by kernel_rfl) (fun K hK => ?_)
        go_simp
        refine (l1Own_any _ X.1 W1 lo HXW1.out.1 (by omega)).mono ?_
        rintro e W2 ⟨z0_, rfl, hi0, hbb⟩
        have belW2 := belW1.trans (hbb.mono belW1.size)
        have zdW2 := hbb.size
        have zTW2 : wr.heap.size < W2.heap.size := by omega
        have f0W2 := cell_carry f0W1 (Carries.of 0 hbb)
        have f1W2 := cell_carry f1W1 (Carries.of 0 hbb)
        have ffW2 := (hbb.frozen (p := ⟨w1.heap.size, 1, none⟩) (by simp; omega)).trans ffW1
        have t0W2 := cell_carry t0W1 (Carries.of 0 hbb)
        have t1W2 := cell_carry t1W1 (Carries.of 0 hbb)
        have HXW2 := Lib.hid (HXW1.out.keep (Carries.of lo hbb))
        have HOW2 := Lib.hid (owns_after HOW1.out hbb)
        have HTW2 := Lib.hid (HTW1.out.after hbb)
        have HYW2 := Lib.hid (owns_after HYW1.out hbb)
        have HZW2 := Lib.hid (IRow.low (B' := w1.heap.size + 1) hi0 (by omega))
        obtain ⟨za, zk, rfl⟩ := IRow.form hi0
        clear hi0 hbb
        refine hK.out _ _ ⟨t0W2, t1W2⟩ (fun hHeld => ?_)
        clear hK K
        try simp only [Act.put, List.setIfInBounds_toArray, List.set_cons_zero, List.set_cons_succ]
        refine tk8 (v := ?_) (by kernel_rfl) (by kernel_rfl) (by kernel_rfl) (by first | exact fun _ _ _ h => h | exact fun _ _ _ h => absurd h.1 (by simp)) (Or.inl ⟨by rfl, ?_⟩) (by assumption) ?_
        rotate_left 1
        focus (intro wx hSw; (try dsimp only at hSw); go_simp; try (with_reducible rfl))
        try simp only [Act.put, List.setIfInBounds_toArray, List.set_cons_zero, List.set_cons_succ]
        refine rd9 (by kernel_rfl) (fun K hK => ?_)
        go_simp
        have hbb : Below W2.heap.size W2 (W2.alloc (.cells #[.slice ya X.2.length yk, .slice za X.1.length zk] 82)) := (Below.refl _ _).alloc (Nat.le_refl _) _
        have c0 : (W2.alloc (.cells #[.slice ya X.2.length yk, .slice za X.1.length zk] 82)).cell? ⟨W2.heap.size, 0, none⟩ = some (.slice ya X.2.length yk) := by simp
        have c1 : (W2.alloc (.cells #[.slice ya X.2.length yk, .slice za X.1.length zk] 82)).cell? ⟨W2.heap.size, 1, none⟩ = some (.slice za X.1.length zk) := by simp
        generalize W2.alloc (.cells #[.slice ya X.2.length yk, .slice za X.1.length zk] 82) = W3 at hbb c0 c1 ⊢
        have belW3 := belW2.trans (hbb.mono belW2.size)
        have zdW3 := hbb.size
        have zTW3 : wr.heap.size < W3.heap.size := by omega
        have f0W3 := cell_carry f0W2 (Carries.of 0 hbb)
        have f1W3 := cell_carry f1W2 (Carries.of 0 hbb)
        have ffW3 := (hbb.frozen (p := ⟨w1.heap.size, 1, none⟩) (by simp; omega)).trans ffW2
        have t0W3 := cell_carry t0W2 (Carries.of 0 hbb)
        have t1W3 := cell_carry t1W2 (Carries.of 0 hbb)
        have HXW3 := Lib.hid (HXW2.out.keep (Carries.of lo hbb))
        have HOW3 := Lib.hid (owns_after HOW2.out hbb)
        have HTW3 := Lib.hid (HTW2.out.after hbb)
        have HYW3 := Lib.hid (owns_after HYW2.out hbb)
        have HZW3 := Lib.hid (owns_after HZW2.out hbb)
        refine hK.out _ _ ⟨t0W3, t1W3⟩ (fun hHeld => ?_)
        clear hK K
        try simp only [Act.put, List.setIfInBounds_toArray, List.set_cons_zero, List.set_cons_succ]
        refine rd10 (by kernel_rfl) (fun K hK => ?_)
        rw [if_pos (by rfl)]
        refine wp_append_pair (.tmp 22) (.tmp 30) rfl (w1.heap.size + 1) v k xs rfl HOW3.out _ _ _ rfl c0 c1 rfl rfl (by omega) (by omega) ?_
        intro v' W4 hown' hgrow
        obtain ⟨av, cv, rfl⟩ := owns_form hown'
        have f0W4 := hgrow.cell f0W3 hGne
        have f1W4 := hgrow.cell f1W3 hGne
        have ffW4 := (World.frozen?_of_block (a := ⟨w1.heap.size, 1, none⟩) (hgrow.block w1.heap.size (by omega) hGne)).trans ffW3
        have t0W4 := hgrow.cell t0W3 hTne
        have t1W4 := hgrow.cell t1W3 hTne
        have belW4 := belW3.grown hgrow belW3.size (fun g hg => by have := (HOW3.out.lt g hg).1; omega)
        have zgW4 := hgrow.size
        have HTW4 := Lib.hid ((HTW3.out.grown HOW3.out hgrow).put (u0 := .slice ya X.2.length yk) (u1 := .slice za X.1.length zk) (by rw [hrt.out]; exact HYW3.out.kept hgrow (rows_apart HYW3.out HOW3.out)) (by rw [hrt.out]; exact HZW3.out.kept hgrow (rows_apart HZW3.out HOW3.out)))
        have HOW4 := Lib.hid hown'
        clear hown' hgrow
        refine hK.out _ _ ⟨t0W4, t1W4⟩ (fun hHeld => ?_)
        clear hK K
        try simp only [Act.put, List.setIfInBounds_toArray, List.set_cons_zero, List.set_cons_succ]
        refine tk11 (v := ?_) (by kernel_rfl) (by kernel_rfl) (by kernel_rfl) (by first | exact fun _ _ _ h => h | exact fun _ _ _ h => absurd h.1 (by simp)) (Or.inl ⟨by rfl, ?_⟩) (by assumption) ?_
        rotate_left 1
        focus (intro wx hSw; (try dsimp only at hSw); go_simp; try (with_reducible rfl))
        try simp only [Act.put, List.setIfInBounds_toArray, List.set_cons_zero, List.set_cons_succ]
        refine rd12 (by kernel_rfl) (fun K hK => ?_)
        go_simp
        have hset : Below w1.heap.size w1 (W4.setCell ⟨w1.heap.size, 1, none⟩ (.slice av (k + 1) cv)) := belW4.setCell (by simp) _
        have e0 : (W4.setCell ⟨w1.heap.size, 1, none⟩ (.slice av (k + 1) cv)).cell? ⟨w1.heap.size, 0, none⟩ = some (.int .i64 p) := (World.cell?_setCell_other _ _ _ _ (by simp)).trans f0W4
        have e1 : (W4.setCell ⟨w1.heap.size, 1, none⟩ (.slice av (k + 1) cv)).cell? ⟨w1.heap.size, 1, none⟩ = some (.slice av (k + 1) cv) := World.cell?_setCell_same _ _ _ f1W4
        have ef : (W4.setCell ⟨w1.heap.size, 1, none⟩ (.slice av (k + 1) cv)).frozen? ⟨w1.heap.size, 1, none⟩ = false := by simpa using ffW4
        have e2 : (W4.setCell ⟨w1.heap.size, 1, none⟩ (.slice av (k + 1) cv)).cell? ⟨wr.heap.size, 0, none⟩ = some (.slice xa0 X.1.length xk0) := (World.cell?_setCell_far _ _ _ _ (Nat.ne_of_lt (Nat.lt_of_lt_of_le (Nat.lt_succ_self _) zB))).trans t0W4
        have e3 : (W4.setCell ⟨w1.heap.size, 1, none⟩ (.slice av (k + 1) cv)).cell? ⟨wr.heap.size, 1, none⟩ = some (.slice xa1 X.2.length xk1) := (World.cell?_setCell_far _ _ _ _ (Nat.ne_of_lt (Nat.lt_of_lt_of_le (Nat.lt_succ_self _) zB))).trans t1W4
        have HO5 := Lib.hid (owns_set HOW4.out (p := ⟨w1.heap.size, 1, none⟩) (by simp) (.slice av (k + 1) cv))
        have HT5 := Lib.hid (HTW4.out.set (p := ⟨w1.heap.size, 1, none⟩) (by simp) (.slice av (k + 1) cv))
        have ez : w1.heap.size + 1 ≤ (W4.setCell ⟨w1.heap.size, 1, none⟩ (.slice av (k + 1) cv)).heap.size := by simp; omega
        generalize W4.setCell ⟨w1.heap.size, 1, none⟩ (.slice av (k + 1) cv) = W5 at hset e0 e1 ef e2 e3 HO5 HT5 ez ⊢
        refine hK.out _ _ ⟨e2, e3⟩ (fun hHeld => ?_)
        clear hK K
        try simp only [Act.put, List.setIfInBounds_toArray, List.set_cons_zero, List.set_cons_succ]
        refine wpAnyH_done (by kernel_rfl) ?_ _
        go_wp2_with fail
        go_roundw
        case rel => exact ⟨k + 1, _, _, by omega, by go_num, e0, e1, ef, HO5.out, HT5.out, hset, ez⟩
        case measure => simp [intOf]; omega
      refine ar4 (fun K hK => ?_) AllReadyH.nil
      go_simp
      refine (l1Own_any _ X.2 W0 lo HXW0.out.2 (by omega)).mono ?_
      rintro e W6 ⟨y0_, rfl, hi0, hbb⟩
      have belW6 := belW0.trans (hbb.mono belW0.size)
      have zdW6 := hbb.size
      have zTW6 : wr.heap.size < W6.heap.size := by omega
      have f0W6 := cell_carry f0W0 (Carries.of 0 hbb)
      have f1W6 := cell_carry f1W0 (Carries.of 0 hbb)
      have ffW6 := (hbb.frozen (p := ⟨w1.heap.size, 1, none⟩) (by simp; omega)).trans ffW0
      have t0W6 := cell_carry t0W0 (Carries.of 0 hbb)
      have t1W6 := cell_carry t1W0 (Carries.of 0 hbb)
      have HXW6 := Lib.hid (HXW0.out.keep (Carries.of lo hbb))
      have HOW6 := Lib.hid (owns_after HOW0.out hbb)
      have HTW6 := Lib.hid (HTW0.out.after hbb)
      have HYW6 := Lib.hid (IRow.low (B' := w1.heap.size + 1) hi0 (by omega))
      obtain ⟨ya, yk, rfl⟩ := IRow.form hi0
      clear hi0 hbb
      refine hK.out _ _ ⟨t0W6, t1W6⟩ (fun hHeld => ?_)
      clear hK K
      try simp only [Act.put, List.setIfInBounds_toArray, List.set_cons_zero, List.set_cons_succ]
      refine wpAnyH_ready (rs := [1, 7]) (by kernel_rfl) (by simp) ?_
      refine ar1 (fun K hK => ?_) ?_
      · go_simp
        refine hK.out _ _ ⟨t0W6, t1W6⟩ (fun hHeld => ?_)
        clear hK K
        try simp only [Act.put, List.setIfInBounds_toArray, List.set_cons_zero, List.set_cons_succ]
        refine rd7 (by kernel_rfl) (fun K hK => ?_)
        go_simp
        refine (l1Own_any _ X.1 W6 lo HXW6.out.1 (by omega)).mono ?_
        rintro e W7 ⟨z0_, rfl, hi0, hbb⟩
        have belW7 := belW6.trans (hbb.mono belW6.size)
        have zdW7 := hbb.size
        have zTW7 : wr.heap.size < W7.heap.size := by omega
        have f0W7 := cell_carry f0W6 (Carries.of 0 hbb)
        have f1W7 := cell_carry f1W6 (Carries.of 0 hbb)
        have ffW7 := (hbb.frozen (p := ⟨w1.heap.size, 1, none⟩) (by simp; omega)).trans ffW6
        have t0W7 := cell_carry t0W6 (Carries.of 0 hbb)
        have t1W7 := cell_carry t1W6 (Carries.of 0 hbb)
        have HXW7 := Lib.hid (HXW6.out.keep (Carries.of lo hbb))
        have HOW7 := Lib.hid (owns_after HOW6.out hbb)
        have HTW7 := Lib.hid (HTW6.out.after hbb)
        have HYW7 := Lib.hid (owns_after HYW6.out hbb)
        have HZW7 := Lib.hid (IRow.low (B' := w1.heap.size + 1) hi0 (by omega))
        obtain ⟨za, zk, rfl⟩ := IRow.form hi0
        clear hi0 hbb
        refine hK.out _ _ ⟨t0W7, t1W7⟩ (fun hHeld => ?_)
        clear hK K
        try simp only [Act.put, List.setIfInBounds_toArray, List.set_cons_zero, List.set_cons_succ]
        refine tk8 (v := ?_) (by kernel_rfl) (by kernel_rfl) (by kernel_rfl) (by first | exact fun _ _ _ h => h | exact fun _ _ _ h => absurd h.1 (by simp)) (Or.inl ⟨by rfl, ?_⟩) (by assumption) ?_
        rotate_left 1
        focus (intro wx hSw; (try dsimp only at hSw); go_simp; try (with_reducible rfl))
        try simp only [Act.put, List.setIfInBounds_toArray, List.set_cons_zero, List.set_cons_succ]
        refine rd9 (by kernel_rfl) (fun K hK => ?_)
        go_simp
        have hbb : Below W7.heap.size W7 (W7.alloc (.cells #[.slice ya X.2.length yk, .slice za X.1.length zk] 82)) := (Below.refl _ _).alloc (Nat.le_refl _) _
        have c0 : (W7.alloc (.cells #[.slice ya X.2.length yk, .slice za X.1.length zk] 82)).cell? ⟨W7.heap.size, 0, none⟩ = some (.slice ya X.2.length yk) := by simp
        have c1 : (W7.alloc (.cells #[.slice ya X.2.length yk, .slice za X.1.length zk] 82)).cell? ⟨W7.heap.size, 1, none⟩ = some (.slice za X.1.length zk) := by simp
        generalize W7.alloc (.cells #[.slice ya X.2.length yk, .slice za X.1.length zk] 82) = W8 at hbb c0 c1 ⊢
        have belW8 := belW7.trans (hbb.mono belW7.size)
        have zdW8 := hbb.size
        have zTW8 : wr.heap.size < W8.heap.size := by omega
        have f0W8 := cell_carry f0W7 (Carries.of 0 hbb)
        have f1W8 := cell_carry f1W7 (Carries.of 0 hbb)
        have ffW8 := (hbb.frozen (p := ⟨w1.heap.size, 1, none⟩) (by simp; omega)).trans ffW7
        have t0W8 := cell_carry t0W7 (Carries.of 0 hbb)
        have t1W8 := cell_carry t1W7 (Carries.of 0 hbb)
        have HXW8 := Lib.hid (HXW7.out.keep (Carries.of lo hbb))
        have HOW8 := Lib.hid (owns_after HOW7.out hbb)
        have HTW8 := Lib.hid (HTW7.out.after hbb)
        have HYW8 := Lib.hid (owns_after HYW7.out hbb)
        have HZW8 := Lib.hid (owns_after HZW7.out hbb)
        refine hK.out _ _ ⟨t0W8, t1W8⟩ (fun hHeld => ?_)
        clear hK K
        try simp only [Act.put, List.setIfInBounds_toArray, List.set_cons_zero, List.set_cons_succ]
        refine rd10 (by kernel_rfl) (fun K hK => ?_)
        rw [if_pos (by rfl)]
        refine wp_append_pair (.tmp 22) (.tmp 30) rfl (w1.heap.size + 1) v k xs rfl HOW8.out _ _ _ rfl c0 c1 rfl rfl (by omega) (by omega) ?_
        intro v' W9 hown' hgrow
        obtain ⟨av, cv, rfl⟩ := owns_form hown'
        have f0W9 := hgrow.cell f0W8 hGne
        have f1W9 := hgrow.cell f1W8 hGne
        have ffW9 := (World.frozen?_of_block (a := ⟨w1.heap.size, 1, none⟩) (hgrow.block w1.heap.size (by omega) hGne)).trans ffW8
        have t0W9 := hgrow.cell t0W8 hTne
        have t1W9 := hgrow.cell t1W8 hTne
        have belW9 := belW8.grown hgrow belW8.size (fun g hg => by have := (HOW8.out.lt g hg).1; omega)
        have zgW9 := hgrow.size
        have HTW9 := Lib.hid ((HTW8.out.grown HOW8.out hgrow).put (u0 := .slice ya X.2.length yk) (u1 := .slice za X.1.length zk) (by rw [hrt.out]; exact HYW8.out.kept hgrow (rows_apart HYW8.out HOW8.out)) (by rw [hrt.out]; exact HZW8.out.kept hgrow (rows_apart HZW8.out HOW8.out)))
        have HOW9 := Lib.hid hown'
        clear hown' hgrow
        refine hK.out _ _ ⟨t0W9, t1W9⟩ (fun hHeld => ?_)
        clear hK K
        try simp only [Act.put, List.setIfInBounds_toArray, List.set_cons_zero, List.set_cons_succ]
        refine tk11 (v := ?_) (by kernel_rfl) (by kernel_rfl) (by kernel_rfl) (by first | exact fun _ _ _ h => h | exact fun _ _ _ h => absurd h.1 (by simp)) (Or.inl ⟨by rfl, ?_⟩) (by assumption) ?_
        rotate_left 1
        focus (intro wx hSw; (try dsimp only at hSw); go_simp; try (with_reducible rfl))
        try simp only [Act.put, List.setIfInBounds_toArray, List.set_cons_zero, List.set_cons_succ]
        refine rd12 (by kernel_rfl) (fun K hK => ?_)
        go_simp
        have hset : Below w1.heap.size w1 (W9.setCell ⟨w1.heap.size, 1, none⟩ (.slice av (k + 1) cv)) := belW9.setCell (by simp) _
        have e0 : (W9.setCell ⟨w1.heap.size, 1, none⟩ (.slice av (k + 1) cv)).cell? ⟨w1.heap.size, 0, none⟩ = some (.int .i64 p) := (World.cell?_setCell_other _ _ _ _ (by simp)).trans f0W9
        have e1 : (W9.setCell ⟨w1.heap.size, 1, none⟩ (.slice av (k + 1) cv)).cell? ⟨w1.heap.size, 1, none⟩ = some (.slice av (k + 1) cv) := World.cell?_setCell_same _ _ _ f1W9
        have ef : (W9.setCell ⟨w1.heap.size, 1, none⟩ (.slice av (k + 1) cv)).frozen? ⟨w1.heap.size, 1, none⟩ = false := by simpa using ffW9
        have e2 : (W9.setCell ⟨w1.heap.size, 1, none⟩ (.slice av (k + 1) cv)).cell? ⟨wr.heap.size, 0, none⟩ = some (.slice xa0 X.1.length xk0) := (World.cell?_setCell_far _ _ _ _ (Nat.ne_of_lt (Nat.lt_of_lt_of_le (Nat.lt_succ_self _) zB))).trans t0W9
        have e3 : (W9.setCell ⟨w1.heap.size, 1, none⟩ (.slice av (k + 1) cv)).cell? ⟨wr.heap.size, 1, none⟩ = some (.slice xa1 X.2.length xk1) := (World.cell?_setCell_far _ _ _ _ (Nat.ne_of_lt (Nat.lt_of_lt_of_le (Nat.lt_succ_self _) zB))).trans t1W9
        have HO5 := Lib.hid (owns_set HOW9.out (p := ⟨w1.heap.size, 1, none⟩) (by simp) (.slice av (k + 1) cv))
        have HT5 := Lib.hid (HTW9.out.set (p := ⟨w1.heap.size, 1, none⟩) (by simp) (.slice av (k + 1) cv))
        have ez : w1.heap.size + 1 ≤ (W9.setCell ⟨w1.heap.size, 1, none⟩ (.slice av (k + 1) cv)).heap.size := by simp; omega
        generalize W9.setCell ⟨w1.heap.size, 1, none⟩ (.slice av (k + 1) cv) = W10 at hset e0 e1 ef e2 e3 HO5 HT5 ez ⊢
        refine hK.out _ _ ⟨e2, e3⟩ (fun hHeld => ?_)
        clear hK K
        try simp only [Act.put, List.setIfInBounds_toArray, List.set_cons_zero, List.set_cons_succ]
        refine wpAnyH_done (by kernel_rfl) ?_ _
        go_wp2_with fail
        go_roundw
        case rel => exact ⟨k + 1, _, _, by omega, by go_num, e0, e1, ef, HO5.out, HT5.out, hset, ez⟩
        case measure => simp [intOf]; omega
      refine ar7 (fun K hK => ?_) AllReadyH.nil
      go_simp
      refine (l1Own_any _ X.1 W6 lo HXW6.out.1 (by omega)).mono ?_
      rintro e W11 ⟨z0_, rfl, hi0, hbb⟩
      have belW11 := belW6.trans (hbb.mono belW6.size)
      have zdW11 := hbb.size
      have zTW11 : wr.heap.size < W11.heap.size := by omega
      have f0W11 := cell_carry f0W6 (Carries.of 0 hbb)
      have f1W11 := cell_carry f1W6 (Carries.of 0 hbb)
      have ffW11 := (hbb.frozen (p := ⟨w1.heap.size, 1, none⟩) (by simp; omega)).trans ffW6
      have t0W11 := cell_carry t0W6 (Carries.of 0 hbb)
      have t1W11 := cell_carry t1W6 (Carries.of 0 hbb)
      have HXW11 := Lib.hid (HXW6.out.keep (Carries.of lo hbb))
      have HOW11 := Lib.hid (owns_after HOW6.out hbb)
      have HTW11 := Lib.hid (HTW6.out.after hbb)
      have HYW11 := Lib.hid (owns_after HYW6.out hbb)
      have HZW11 := Lib.hid (IRow.low (B' := w1.heap.size + 1) hi0 (by omega))
      obtain ⟨za, zk, rfl⟩ := IRow.form hi0
      clear hi0 hbb
      refine hK.out _ _ ⟨t0W11, t1W11⟩ (fun hHeld => ?_)
      clear hK K
      try simp only [Act.put, List.setIfInBounds_toArray, List.set_cons_zero, List.set_cons_succ]
      refine tk8 (v := ?_) (by kernel_rfl) (by kernel_rfl) (by kernel_rfl) (by first | exact fun _ _ _ h => h | exact fun _ _ _ h => absurd h.1 (by simp)) (Or.inl ⟨by rfl, ?_⟩) (by assumption) ?_
      rotate_left 1
      focus (intro wx hSw; (try dsimp only at hSw); go_simp; try (with_reducible rfl))
      try simp only [Act.put, List.setIfInBounds_toArray, List.set_cons_zero, List.set_cons_succ]
      refine wpAnyH_ready (rs := [1, 9]) (by kernel_rfl) (by simp) ?_
      refine ar1 (fun K hK => ?_) ?_
      · go_simp
        refine hK.out _ _ ⟨t0W11, t1W11⟩ (fun hHeld => ?_)
        clear hK K
        try simp only [Act.put, List.setIfInBounds_toArray, List.set_cons_zero, List.set_cons_succ]
        refine rd9 (by kernel_rfl) (fun K hK => ?_)
        go_simp
        have hbb : Below W11.heap.size W11 (W11.alloc (.cells #[.slice ya X.2.length yk, .slice za X.1.length zk] 82)) := (Below.refl _ _).alloc (Nat.le_refl _) _
        have c0 : (W11.alloc (.cells #[.slice ya X.2.length yk, .slice za X.1.length zk] 82)).cell? ⟨W11.heap.size, 0, none⟩ = some (.slice ya X.2.length yk) := by simp
        have c1 : (W11.alloc (.cells #[.slice ya X.2.length yk, .slice za X.1.length zk] 82)).cell? ⟨W11.heap.size, 1, none⟩ = some (.slice za X.1.length zk) := by simp
        generalize W11.alloc (.cells #[.slice ya X.2.length yk, .slice za X.1.length zk] 82) = W12 at hbb c0 c1 ⊢
        have belW12 := belW11.trans (hbb.mono belW11.size)
        have zdW12 := hbb.size
        have zTW12 : wr.heap.size < W12.heap.size := by omega
        have f0W12 := cell_carry f0W11 (Carries.of 0 hbb)
        have f1W12 := cell_carry f1W11 (Carries.of 0 hbb)
        have ffW12 := (hbb.frozen (p := ⟨w1.heap.size, 1, none⟩) (by simp; omega)).trans ffW11
        have t0W12 := cell_carry t0W11 (Carries.of 0 hbb)
        have t1W12 := cell_carry t1W11 (Carries.of 0 hbb)
        have HXW12 := Lib.hid (HXW11.out.keep (Carries.of lo hbb))
        have HOW12 := Lib.hid (owns_after HOW11.out hbb)
        have HTW12 := Lib.hid (HTW11.out.after hbb)
        have HYW12 := Lib.hid (owns_after HYW11.out hbb)
        have HZW12 := Lib.hid (owns_after HZW11.out hbb)
        refine hK.out _ _ ⟨t0W12, t1W12⟩ (fun hHeld => ?_)
        clear hK K
        try simp only [Act.put, List.setIfInBounds_toArray, List.set_cons_zero, List.set_cons_succ]
        refine rd10 (by kernel_rfl) (fun K hK => ?_)
        rw [if_pos (by rfl)]
        refine wp_append_pair (.tmp 22) (.tmp 30) rfl (w1.heap.size + 1) v k xs rfl HOW12.out _ _ _ rfl c0 c1 rfl rfl (by omega) (by omega) ?_
        intro v' W13 hown' hgrow
        obtain ⟨av, cv, rfl⟩ := owns_form hown'
        have f0W13 := hgrow.cell f0W12 hGne
        have f1W13 := hgrow.cell f1W12 hGne
        have ffW13 := (World.frozen?_of_block (a := ⟨w1.heap.size, 1, none⟩) (hgrow.block w1.heap.size (by omega) hGne)).trans ffW12
        have t0W13 := hgrow.cell t0W12 hTne
        have t1W13 := hgrow.cell t1W12 hTne
        have belW13 := belW12.grown hgrow belW12.size (fun g hg => by have := (HOW12.out.lt g hg).1; omega)
        have zgW13 := hgrow.size
        have HTW13 := Lib.hid ((HTW12.out.grown HOW12.out hgrow).put (u0 := .slice ya X.2.length yk) (u1 := .slice za X.1.length zk) (by rw [hrt.out]; exact HYW12.out.kept hgrow (rows_apart HYW12.out HOW12.out)) (by rw [hrt.out]; exact HZW12.out.kept hgrow (rows_apart HZW12.out HOW12.out)))
        have HOW13 := Lib.hid hown'
        clear hown' hgrow
        refine hK.out _ _ ⟨t0W13, t1W13⟩ (fun hHeld => ?_)
        clear hK K
        try simp only [Act.put, List.setIfInBounds_toArray, List.set_cons_zero, List.set_cons_succ]
        refine tk11 (v := ?_) (by kernel_rfl) (by kernel_rfl) (by kernel_rfl) (by first | exact fun _ _ _ h => h | exact fun _ _ _ h => absurd h.1 (by simp)) (Or.inl ⟨by rfl, ?_⟩) (by assumption) ?_
        rotate_left 1
        focus (intro wx hSw; (try dsimp only at hSw); go_simp; try (with_reducible rfl))
        try simp only [Act.put, List.setIfInBounds_toArray, List.set_cons_zero, List.set_cons_succ]
        refine rd12 (by kernel_rfl) (fun K hK => ?_)
        go_simp
        have hset : Below w1.heap.size w1 (W13.setCell ⟨w1.heap.size, 1, none⟩ (.slice av (k + 1) cv)) := belW13.setCell (by simp) _
        have e0 : (W13.setCell ⟨w1.heap.size, 1, none⟩ (.slice av (k + 1) cv)).cell? ⟨w1.heap.size, 0, none⟩ = some (.int .i64 p) := (World.cell?_setCell_other _ _ _ _ (by simp)).trans f0W13
        have e1 : (W13.setCell ⟨w1.heap.size, 1, none⟩ (.slice av (k + 1) cv)).cell? ⟨w1.heap.size, 1, none⟩ = some (.slice av (k + 1) cv) := World.cell?_setCell_same _ _ _ f1W13
        have ef : (W13.setCell ⟨w1.heap.size, 1, none⟩ (.slice av (k + 1) cv)).frozen? ⟨w1.heap.size, 1, none⟩ = false := by simpa using ffW13
        have e2 : (W13.setCell ⟨w1.heap.size, 1, none⟩ (.slice av (k + 1) cv)).cell? ⟨wr.heap.size, 0, none⟩ = some (.slice xa0 X.1.length xk0) := (World.cell?_setCell_far _ _ _ _ (Nat.ne_of_lt (Nat.lt_of_lt_of_le (Nat.lt_succ_self _) zB))).trans t0W13
        have e3 : (W13.setCell ⟨w1.heap.size, 1, none⟩ (.slice av (k + 1) cv)).cell? ⟨wr.heap.size, 1, none⟩ = some (.slice xa1 X.2.length xk1) := (World.cell?_setCell_far _ _ _ _ (Nat.ne_of_lt (Nat.lt_of_lt_of_le (Nat.lt_succ_self _) zB))).trans t1W13
        have HO5 := Lib.hid (owns_set HOW13.out (p := ⟨w1.heap.size, 1, none⟩) (by simp) (.slice av (k + 1) cv))
        have HT5 := Lib.hid (HTW13.out.set (p := ⟨w1.heap.size, 1, none⟩) (by simp) (.slice av (k + 1) cv))
        have ez : w1.heap.size + 1 ≤ (W13.setCell ⟨w1.heap.size, 1, none⟩ (.slice av (k + 1) cv)).heap.size := by simp; omega
        generalize W13.setCell ⟨w1.heap.size, 1, none⟩ (.slice av (k + 1) cv) = W14 at hset e0 e1 ef e2 e3 HO5 HT5 ez ⊢
        refine hK.out _ _ ⟨e2, e3⟩ (fun hHeld => ?_)
        clear hK K
        try simp only [Act.put, List.setIfInBounds_toArray, List.set_cons_zero, List.set_cons_succ]
        refine wpAnyH_done (by kernel_rfl) ?_ _
        go_wp2_with fail
        go_roundw
        case rel => exact ⟨k + 1, _, _, by omega, by go_num, e0, e1, ef, HO5.out, HT5.out, hset, ez⟩
        case measure => simp [intOf]; omega
      refine ar9 (fun K hK => ?_) AllReadyH.nil
      go_simp
      have hbb : Below W11.heap.size W11 (W11.alloc (.cells #[.slice ya X.2.length yk, .slice za X.1.length zk] 82)) := (Below.refl _ _).alloc (Nat.le_refl _) _
      have c0 : (W11.alloc (.cells #[.slice ya X.2.length yk, .slice za X.1.length zk] 82)).cell? ⟨W11.heap.size, 0, none⟩ = some (.slice ya X.2.length yk) := by simp
      have c1 : (W11.alloc (.cells #[.slice ya X.2.length yk, .slice za X.1.length zk] 82)).cell? ⟨W11.heap.size, 1, none⟩ = some (.slice za X.1.length zk) := by simp
      generalize W11.alloc (.cells #[.slice ya X.2.length yk, .slice za X.1.length zk] 82) = W15 at hbb c0 c1 ⊢
      have belW15 := belW11.trans (hbb.mono belW11.size)
      have zdW15 := hbb.size
      have zTW15 : wr.heap.size < W15.heap.size := by omega
      have f0W15 := cell_carry f0W11 (Carries.of 0 hbb)
      have f1W15 := cell_carry f1W11 (Carries.of 0 hbb)
      have ffW15 := (hbb.frozen (p := ⟨w1.heap.size, 1, none⟩) (by simp; omega)).trans ffW11
      have t0W15 := cell_carry t0W11 (Carries.of 0 hbb)
      have t1W15 := cell_carry t1W11 (Carries.of 0 hbb)
      have HXW15 := Lib.hid (HXW11.out.keep (Carries.of lo hbb))
      have HOW15 := Lib.hid (owns_after HOW11.out hbb)
      have HTW15 := Lib.hid (HTW11.out.after hbb)
      have HYW15 := Lib.hid (owns_after HYW11.out hbb)
      have HZW15 := Lib.hid (owns_after HZW11.out hbb)
      refine hK.out _ _ ⟨t0W15, t1W15⟩ (fun hHeld => ?_)
      clear hK K
      try simp only [Act.put, List.setIfInBounds_toArray, List.set_cons_zero, List.set_cons_succ]
      refine rd1 (by kernel_rfl) (fun K hK => ?_)
      go_simp
      refine hK.out _ _ ⟨t0W15, t1W15⟩ (fun hHeld => ?_)
      clear hK K
      try simp only [Act.put, List.setIfInBounds_toArray, List.set_cons_zero, List.set_cons_succ]
      refine rd10 (by kernel_rfl) (fun K hK => ?_)
      rw [if_pos (by rfl)]
      refine wp_append_pair (.tmp 22) (.tmp 30) rfl (w1.heap.size + 1) v k xs rfl HOW15.out _ _ _ rfl c0 c1 rfl rfl (by omega) (by omega) ?_
      intro v' W16 hown' hgrow
      obtain ⟨av, cv, rfl⟩ := owns_form hown'
      have f0W16 := hgrow.cell f0W15 hGne
      have f1W16 := hgrow.cell f1W15 hGne
      have ffW16 := (World.frozen?_of_block (a := ⟨w1.heap.size, 1, none⟩) (hgrow.block w1.heap.size (by omega) hGne)).trans ffW15
      have t0W16 := hgrow.cell t0W15 hTne
      have t1W16 := hgrow.cell t1W15 hTne
      have belW16 := belW15.grown hgrow belW15.size (fun g hg => by have := (HOW15.out.lt g hg).1; omega)
      have zgW16 := hgrow.size
      have HTW16 := Lib.hid ((HTW15.out.grown HOW15.out hgrow).put (u0 := .slice ya X.2.length yk) (u1 := .slice za X.1.length zk) (by rw [hrt.out]; exact HYW15.out.kept hgrow (rows_apart HYW15.out HOW15.out)) (by rw [hrt.out]; exact HZW15.out.kept hgrow (rows_apart HZW15.out HOW15.out)))
      have HOW16 := Lib.hid hown'
      clear hown' hgrow
      refine hK.out _ _ ⟨t0W16, t1W16⟩ (fun hHeld => ?_)
      clear hK K
      try simp only [Act.put, List.setIfInBounds_toArray, List.set_cons_zero, List.set_cons_succ]
      refine tk11 (v := ?_) (by kernel_rfl) (by kernel_rfl) (by kernel_rfl) (by first | exact fun _ _ _ h => h | exact fun _ _ _ h => absurd h.1 (by simp)) (Or.inl ⟨by rfl, ?_⟩) (by assumption) ?_
      rotate_left 1
      focus (intro wx hSw; (try dsimp only at hSw); go_simp; try (with_reducible rfl))
      try simp only [Act.put, List.setIfInBounds_toArray, List.set_cons_zero, List.set_cons_succ]
      refine rd12 (by kernel_rfl) (fun K hK => ?_)
      go_simp
      have hset : Below w1.heap.size w1 (W16.setCell ⟨w1.heap.size, 1, none⟩ (.slice av (k + 1) cv)) := belW16.setCell (by simp) _
      have e0 : (W16.setCell ⟨w1.heap.size, 1, none⟩ (.slice av (k + 1) cv)).cell? ⟨w1.heap.size, 0, none⟩ = some (.int .i64 p) := (World.cell?_setCell_other _ _ _ _ (by simp)).trans f0W16
      have e1 : (W16.setCell ⟨w1.heap.size, 1, none⟩ (.slice av (k + 1) cv)).cell? ⟨w1.heap.size, 1, none⟩ = some (.slice av (k + 1) cv) := World.cell?_setCell_same _ _ _ f1W16
      have ef : (W16.setCell ⟨w1.heap.size, 1, none⟩ (.slice av (k + 1) cv)).frozen? ⟨w1.heap.size, 1, none⟩ = false := by simpa using ffW16
      have e2 : (W16.setCell ⟨w1.heap.size, 1, none⟩ (.slice av (k + 1) cv)).cell? ⟨wr.heap.size, 0, none⟩ = some (.slice xa0 X.1.length xk0) := (World.cell?_setCell_far _ _ _ _ (Nat.ne_of_lt (Nat.lt_of_lt_of_le (Nat.lt_succ_self _) zB))).trans t0W16
      have e3 : (W16.setCell ⟨w1.heap.size, 1, none⟩ (.slice av (k + 1) cv)).cell? ⟨wr.heap.size, 1, none⟩ = some (.slice xa1 X.2.length xk1) := (World.cell?_setCell_far _ _ _ _ (Nat.ne_of_lt (Nat.lt_of_lt_of_le (Nat.lt_succ_self _) zB))).trans t1W16
      have HO5 := Lib.hid (owns_set HOW16.out (p := ⟨w1.heap.size, 1, none⟩) (by simp) (.slice av (k + 1) cv))
      have HT5 := Lib.hid (HTW16.out.set (p := ⟨w1.heap.size, 1, none⟩) (by simp) (.slice av (k + 1) cv))
      have ez : w1.heap.size + 1 ≤ (W16.setCell ⟨w1.heap.size, 1, none⟩ (.slice av (k + 1) cv)).heap.size := by simp; omega
      generalize W16.setCell ⟨w1.heap.size, 1, none⟩ (.slice av (k + 1) cv) = W17 at hset e0 e1 ef e2 e3 HO5 HT5 ez ⊢
      refine hK.out _ _ ⟨e2, e3⟩ (fun hHeld => ?_)
      clear hK K
      try simp only [Act.put, List.setIfInBounds_toArray, List.set_cons_zero, List.set_cons_succ]
      refine wpAnyH_done (by kernel_rfl) ?_ _
      go_wp2_with fail
      go_roundw
      case rel => exact ⟨k + 1, _, _, by omega, by go_num, e0, e1, ef, HO5.out, HT5.out, hset, ez⟩
      case measure => simp [intOf]; omega
    · have hkk : k = ts.length := by omega
      subst hkk
      have hna0 : TrsAt (w1.heap.size + 1) wr v (revTs ts) := OwnTrs.read (by rw [revTs_length]; exact hot.out) (by rw [revTs_length]; exact hown.out)
      clear hown hot
      obtain ⟨av, cv, e, _, _⟩ := id hna0
      rw [revTs_length] at e
      subst e
      have HNA := Lib.hid (show NetAt (w1.heap.size + 1) wr (.agg #[.int .i64 p, .slice av ts.length cv]) ⟨p, revTs ts⟩ from ⟨hp0, hp1, _, rfl, hna0⟩)
      have HTA := Lib.hid hna0; clear hna0
      have hq : revB n = goodN ⟨p, revTs ts⟩ := by unfold revB; rw [HG.out, ← HPl.out, ← HT0.out]; rfl
      go_wp2_with fail
      refine (l1Good_any _ ⟨p, revTs ts⟩ wr _ HNA.out (revTs_small HS.out)).mono ?_
      rintro e w9 ⟨rfl, hb⟩
      have b9 := hb1.trans (hb.mono hb1.size)
      have f0 := cell_carry f0 (Carries.of 0 hb)
      have f1 := cell_carry f1 (Carries.of 0 hb)
      have m0 := cell_keep R0.out b9 (Nat.le_refl _)
      have m1 := cell_keep R1.out b9 (Nat.le_refl _)
      have mf0 := (b9.frozen (p := ⟨w.heap.size + 1, 0, none⟩) z2).trans RF0.out
      have mf1 := (b9.frozen (p := ⟨w.heap.size + 1, 1, none⟩) z2).trans RF1.out
      have zz9 := hb.size
      have HTA9 := Lib.hid (HTA.out.keep (Carries.of _ hb))
      have hw9 : Below w.heap.size w w9 := hw1.trans (b9.mono hw1.size)
      clear hb HTA HNA
      cases hg2 : goodN ⟨p, revTs ts⟩ with
      | false =>
        rw [hg2] at hq
        have k1 : revR n = ⟨0, []⟩ := by unfold revR; rw [hq]; rfl
        rw [HFL.out] at k1
        rw [HFB.out] at hq
        subst k1; subst hq
        clear hg2
        go_wp2_with fail
        refine bodyPost_ret (v := .tuple #[.agg #[.int .i64 0, .slice none 0 0], .bool false]) (by simp [results, Try.results30, go_sem, m0, m1]) rfl ?_
        refine ⟨_, rfl, ⟨none, 0, rfl, Nat.le_refl _, Or.inl rfl⟩, ?_⟩
        exact (hw9.setCell (by simp) _).setCell (by simp) _
      | true =>
        rw [hg2] at hq
        have k1 : revR n = ⟨p, revTs ts⟩ := by unfold revR; rw [hq, HPl.out, HT0.out]; rfl
        rw [HFL.out] at k1
        rw [HFB.out] at hq
        subst k1; subst hq
        clear hg2
        go_wp2_with fail
        refine bodyPost_ret (v := .tuple #[.agg #[.int .i64 p, .slice av ts.length cv], .bool true]) (by simp [results, Try.results30, go_sem, m0, m1]) rfl ?_
        refine ⟨_, rfl, (HTA9.out.keep ?_).low (by omega), ?_⟩
        · exact ((Carries.refl _ _).set (by simp; omega) _).set (by simp; omega) _
        · exact (hw9.setCell (by simp) _).setCell (by simp) _

end Go.Proofs.Ytlakcjcmbhkcdaa
