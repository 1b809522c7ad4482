/- ARRAYS OF EIGHT BOOLS: two are equal where all places are. WALKS: the closure of conflicts. -/
import Derived.Laws.StructEq
import Derived.BigQuiet
import Derived.Deep.RegionHeld3
import Derived.Test.YtgmnknlnlmcmfaaVExd
import Derived.Test.YtgmnknlnlmcmfaaVEcp
import Derived.Test.YtgmnknlnlmcmfaaVSteps
namespace Go.Proofs.Ytgmnknlnlmcmfaa
open Go.RowKit

def b8 (x : Nat → Bool) : Array Value := #[.bool (x 0), .bool (x 1), .bool (x 2), .bool (x 3), .bool (x 4), .bool (x 5), .bool (x 6), .bool (x 7)]
theorem b8_get (x : Nat → Bool) {i : Nat} (h : i < 8) : (b8 x)[i]? = some (.bool (x i)) := by
  match i, h with
  | 0, _ => rfl
  | 1, _ => rfl
  | 2, _ => rfl
  | 3, _ => rfl
  | 4, _ => rfl
  | 5, _ => rfl
  | 6, _ => rfl
  | 7, _ => rfl
def all8 (x y : Nat → Bool) : Bool := (List.range 8).all fun i => x i == y i
theorem eql8 (x y : Nat → Bool) (w : World) :
    (Op.equalIn 10000 168 (.agg (b8 x)) (.agg (b8 y))).run Try.prog w = .ok (all8 x y) w := by
  have hsz : ∀ w, (sizeOf 4).run Try.prog w = .ok 1 w := fun _ => by kernel_rfl
  unfold all8
  rw [List.range_eq_range', show (10000 : Nat) = 9998 + 2 from rfl, Op.equalIn]
  simp only [Sem.run_bind, run_underlying Try.underlying168, Result.andThen_ok, hsz, Std.Legacy.Range.forIn_eq_forIn_range', Std.Legacy.Range.size, Nat.sub_zero, Nat.add_sub_cancel, Nat.div_one]
  have hl : ∀ i ∈ List.range' 0 8 1, i < 8 := fun i hi => by simpa using (List.mem_range'_1.1 hi).2
  generalize List.range' 0 8 1 = l at hl ⊢
  induction l with
  | nil => simp
  | cons i l ih =>
    have hi : i < 8 := hl i (by simp)
    have px : (part 4 (b8 x) (i * 1)).run Try.prog w = .ok (.bool (x i)) w := by
      simp [part, isAgg, run_underlying Try.underlying4, b8_get x hi]
    have py : (part 4 (b8 y) (i * 1)).run Try.prog w = .ok (.bool (y i)) w := by
      simp [part, isAgg, run_underlying Try.underlying4, b8_get y hi]
    have pe : (Op.equalIn (9998 + 1) 4 (.bool (x i)) (.bool (y i))).run Try.prog w = .ok (x i == y i) w := run_equalIn_bool' w 9998 4 _ _ Try.underlying4
    simp only [List.forIn_cons, Sem.run_bind, px, py, pe, Result.andThen_ok, List.all_cons]
    cases hb : (x i == y i)
    · simp
    · simp only [Bool.not_true, Bool.false_eq_true, if_false, Sem.run_pure, Result.andThen_ok, Bool.true_and]
      exact ih fun j hj => hl j (by simp [hj])

/-- what the captured row of a graph's excitations holds -/
def exB (r : SgD) (cnt : Int → Bool) (k s : Nat) : Bool := exTo r cnt r.arcs.length k s
theorem exV_at (r : SgD) (cnt : Int → Bool) (k s : Nat) (h : s < 8) : exV r cnt r.arcs.length (k * 8 + s) = .bool (exB r cnt k s) := by
  unfold exV exB
  rw [show (k * 8 + s) / 8 = k by omega, show (k * 8 + s) % 8 = s by omega]
/-- two states with one code that are not excited alike -/
def csC (r : SgD) (i k : Nat) : Bool := eqC r i k && !all8 (exB r (niB r) i) (exB r (niB r) k)

set_option maxRecDepth 100000 in
set_option maxHeartbeats 4000000 in
theorem conflictsClo_any (r : SgD) (i k : Nat) (Bc Be b : Nat) (a0 a1 a2 : Option Addr) (k0 k1 k2 : Nat) (w : World) (lo : Nat) (hs : SmallSg r)
    (hv : SgAt lo w (.agg #[.slice a0 r.sigs.length k0, .slice a1 r.codes.length k1, .slice a2 r.arcs.length k2]) r) (hi : i < r.codes.length) (hk : k < r.codes.length)
    (c0 : w.cell? ⟨Bc, 0, none⟩ = some (.slice a0 r.sigs.length k0)) (c1 : w.cell? ⟨Bc, 1, none⟩ = some (.slice a1 r.codes.length k1)) (c2 : w.cell? ⟨Bc, 2, none⟩ = some (.slice a2 r.arcs.length k2))
    (ce : w.cell? ⟨Be, 0, none⟩ = some (.slice (some ⟨b, 0, none⟩) r.codes.length r.codes.length)) (hrow : w.rowIs b 168 (r.codes.length * 8) (exV r (niB r) r.arcs.length)) :
    Calls Try.prog 129 #[.int .i64 (i : Int), .int .i64 (k : Int), .pointer (some ⟨Bc, 0, none⟩), .pointer (some ⟨Be, 0, none⟩)] w (RetB w (csC r i k)) := by
  have KC := hs.2.1.1
  have HV := Lib.hid hv; clear hv
  have HS := Lib.hid hs; clear hs
  obtain ⟨q, hq⟩ : ∃ q, q = csC r i k := ⟨_, rfl⟩
  rw [← hq]
  unfold csC at hq
  obtain ⟨X, hX⟩ : ∃ X, X = exB r (niB r) i := ⟨_, rfl⟩
  obtain ⟨Y, hY⟩ : ∃ Y, Y = exB r (niB r) k := ⟨_, rfl⟩
  rw [← hX, ← hY] at hq
  have hXC : ∀ j, j < 8 → w.cell? ⟨b, i * 8 + j, none⟩ = some (.bool (X j)) := fun j hj => by
    have h := hrow.cell (i := i * 8 + j) (by omega)
    rw [exV_at _ _ _ _ hj, ← hX] at h; exact h
  have hYC : ∀ j, j < 8 → w.cell? ⟨b, k * 8 + j, none⟩ = some (.bool (Y j)) := fun j hj => by
    have h := hrow.cell (i := k * 8 + j) (by omega)
    rw [exV_at _ _ _ _ hj, ← hY] at h; exact h
  have q1 := fun w => eql8 X Y w
  simp only [b8] at q1
  clear hX hY hrow
  have xi0 := hXC 0 (by decide)
  have xk0 := hYC 0 (by decide)
  have xi1 := hXC 1 (by decide)
  have xk1 := hYC 1 (by decide)
  have xi2 := hXC 2 (by decide)
  have xk2 := hYC 2 (by decide)
  have xi3 := hXC 3 (by decide)
  have xk3 := hYC 3 (by decide)
  have xi4 := hXC 4 (by decide)
  have xk4 := hYC 4 (by decide)
  have xi5 := hXC 5 (by decide)
  have xk5 := hYC 5 (by decide)
  have xi6 := hXC 6 (by decide)
  have xk6 := hYC 6 (by decide)
  have xi7 := hXC 7 (by decide)
  have xk7 := hYC 7 (by decide)
  rw [Nat.add_zero] at xi0 xk0
  clear hXC hYC
  obtain ⟨ng, hng⟩ : ∃ n, n = r.sigs.length := ⟨_, rfl⟩
  obtain ⟨nc, hnc⟩ : ∃ n, n = r.codes.length := ⟨_, rfl⟩
  obtain ⟨na, hna⟩ : ∃ n, n = r.arcs.length := ⟨_, rfl⟩
  rw [← hng] at c0
  rw [← hnc] at c1 ce KC
  rw [← hna] at c2
  rw [← hng, ← hnc, ← hna] at HV
  have HI := Lib.hid (show i < r.codes.length from hi)
  have HK := Lib.hid (show k < r.codes.length from hk)
  rw [← hnc] at hi hk
  clear hng hnc hna
  obtain ⟨e1, he1⟩ : ∃ y, y = eqC r i k := ⟨_, rfl⟩
  obtain ⟨e2, he2⟩ : ∃ y, y = all8 X Y := ⟨_, rfl⟩
  rw [← he1, ← he2] at hq
  have HE1 := Lib.hid he1; clear he1
  have q2 : ∀ w, (Op.equalIn 10000 168 (.agg #[.bool (X 0), .bool (X 1), .bool (X 2), .bool (X 3), .bool (X 4), .bool (X 5), .bool (X 6), .bool (X 7)]) (.agg #[.bool (Y 0), .bool (Y 1), .bool (Y 2), .bool (Y 3), .bool (Y 4), .bool (Y 5), .bool (Y 6), .bool (Y 7)])).run Try.prog w = .ok e2 w := fun w => by rw [he2]; exact q1 w
  clear q1 he2
  go_enter Try.func129, Try.ntmps129
  go_wp2_with fail
  cases e1 with
  | true =>
    go_region_held3 (fun w' => w'.cell? ⟨Bc, 0, none⟩ = some (.slice a0 ng k0) ∧ w'.cell? ⟨Bc, 1, none⟩ = some (.slice a1 nc k1) ∧ w'.cell? ⟨Bc, 2, none⟩ = some (.slice a2 na k2) ∧ w'.cell? ⟨Be, 0, none⟩ = some (.slice (some ⟨b, 0, none⟩) nc nc) ∧ w'.cell? ⟨b, i * 8, none⟩ = some (.bool (X 0)) ∧ w'.cell? ⟨b, i * 8 + 1, none⟩ = some (.bool (X 1)) ∧ w'.cell? ⟨b, i * 8 + 2, none⟩ = some (.bool (X 2)) ∧ w'.cell? ⟨b, i * 8 + 3, none⟩ = some (.bool (X 3)) ∧ w'.cell? ⟨b, i * 8 + 4, none⟩ = some (.bool (X 4)) ∧ w'.cell? ⟨b, i * 8 + 5, none⟩ = some (.bool (X 5)) ∧ w'.cell? ⟨b, i * 8 + 6, none⟩ = some (.bool (X 6)) ∧ w'.cell? ⟨b, i * 8 + 7, none⟩ = some (.bool (X 7)) ∧ w'.cell? ⟨b, k * 8, none⟩ = some (.bool (Y 0)) ∧ w'.cell? ⟨b, k * 8 + 1, none⟩ = some (.bool (Y 1)) ∧ w'.cell? ⟨b, k * 8 + 2, none⟩ = some (.bool (Y 2)) ∧ w'.cell? ⟨b, k * 8 + 3, none⟩ = some (.bool (Y 3)) ∧ w'.cell? ⟨b, k * 8 + 4, none⟩ = some (.bool (Y 4)) ∧ w'.cell? ⟨b, k * 8 + 5, none⟩ = some (.bool (Y 5)) ∧ w'.cell? ⟨b, k * 8 + 6, none⟩ = some (.bool (Y 6)) ∧ w'.cell? ⟨b, k * 8 + 7, none⟩ = some (.bool (Y 7)))
      (first
        | exact ⟨c0, c1, c2, ce, xi0, xi1, xi2, xi3, xi4, xi5, xi6, xi7, xk0, xk1, xk2, xk3, xk4, xk5, xk6, xk7⟩
        | exact ⟨cell_carry (w := w.drew) c0 (Carries.of 0 hb7), cell_carry (w := w.drew) c1 (Carries.of 0 hb7), cell_carry (w := w.drew) c2 (Carries.of 0 hb7), cell_carry (w := w.drew) ce (Carries.of 0 hb7), cell_carry (w := w.drew) xi0 (Carries.of 0 hb7), cell_carry (w := w.drew) xi1 (Carries.of 0 hb7), cell_carry (w := w.drew) xi2 (Carries.of 0 hb7), cell_carry (w := w.drew) xi3 (Carries.of 0 hb7), cell_carry (w := w.drew) xi4 (Carries.of 0 hb7), cell_carry (w := w.drew) xi5 (Carries.of 0 hb7), cell_carry (w := w.drew) xi6 (Carries.of 0 hb7), cell_carry (w := w.drew) xi7 (Carries.of 0 hb7), cell_carry (w := w.drew) xk0 (Carries.of 0 hb7), cell_carry (w := w.drew) xk1 (Carries.of 0 hb7), cell_carry (w := w.drew) xk2 (Carries.of 0 hb7), cell_carry (w := w.drew) xk3 (Carries.of 0 hb7), cell_carry (w := w.drew) xk4 (Carries.of 0 hb7), cell_carry (w := w.drew) xk5 (Carries.of 0 hb7), cell_carry (w := w.drew) xk6 (Carries.of 0 hb7), cell_carry (w := w.drew) xk7 (Carries.of 0 hb7)⟩)
      (first
        | (go_at_call 70; refine (haveEqualCodes_any _ r i k w.drew lo (HV.out.keep (Carries.of lo (Below.refl _ _).drew)) HS.out HI.out HK.out).mono ?_; rintro e w7 ⟨rfl, hb7⟩; rw [← HE1.out]))
    have hw7 : Below w.heap.size w w7 := Below.trans (b := w.drew) (Below.refl _ _).drew (hb7.mono (by first | exact Nat.le_refl _ | simp))
    rw [Bool.true_and] at hq
    subst hq
    clear q2 HV HS hb7
    go_wp2_with fail
    go_ret
    exact ⟨rfl, hw7⟩
  | false =>
    refine wp_region_held_drew (S := fun w' => w'.cell? ⟨Bc, 0, none⟩ = some (.slice a0 ng k0) ∧ w'.cell? ⟨Bc, 1, none⟩ = some (.slice a1 nc k1) ∧ w'.cell? ⟨Bc, 2, none⟩ = some (.slice a2 na k2)) (by kernel_rfl) ⟨c0, c1, c2⟩ (fun hHeld => ?_)
    have bel0 : Below w.heap.size w w.drew := (Below.refl _ _).drew
    refine tk0 (v := ?_) (by kernel_rfl) (by kernel_rfl) (by kernel_rfl) (by first | exact fun _ _ _ h => h | exact fun _ _ _ h => absurd h.1 (by simp)) (Or.inl ⟨by rfl, ?_⟩) (by assumption) ?_
    rotate_left 1
    focus (intro wx hSw; (try dsimp only at hSw); go_simp; try (with_reducible rfl))
    try simp only [Act.put, List.setIfInBounds_toArray, List.set_cons_zero, List.set_cons_succ]
    refine tk1 (v := ?_) (by kernel_rfl) (by kernel_rfl) (by kernel_rfl) (by first | exact fun _ _ _ h => h | exact fun _ _ _ h => absurd h.1 (by simp)) (Or.inl ⟨by rfl, ?_⟩) (by assumption) ?_
    rotate_left 1
    focus (intro wx hSw; (try dsimp only at hSw); go_simp; try (with_reducible rfl))
    try simp only [Act.put, List.setIfInBounds_toArray, List.set_cons_zero, List.set_cons_succ]
    refine tk2 (v := ?_) (by kernel_rfl) (by kernel_rfl) (by kernel_rfl) (by first | exact fun _ _ _ h => h | exact fun _ _ _ h => absurd h.1 (by simp)) (Or.inl ⟨by rfl, ?_⟩) (by assumption) ?_
    rotate_left 1
    focus (intro wx hSw; (try dsimp only at hSw); go_simp; try (with_reducible rfl))
    try simp only [Act.put, List.setIfInBounds_toArray, List.set_cons_zero, List.set_cons_succ]
    refine rd3 (by kernel_rfl) (fun K hK => ?_)
    go_simp
    refine (haveEqualCodes_any _ r i k w.drew lo (HV.out.keep (Carries.of lo bel0)) HS.out HI.out HK.out).mono ?_
    rintro e w7 ⟨rfl, hb7⟩
    rw [← HE1.out]
    have hw7 : Below w.heap.size w w7 := Below.trans (b := w.drew) bel0 (hb7.mono (by first | exact Nat.le_refl _ | simp))
    refine hK.out _ _ ⟨cell_carry c0 (Carries.of 0 hw7), cell_carry c1 (Carries.of 0 hw7), cell_carry c2 (Carries.of 0 hw7)⟩ (fun hHeld => ?_)
    clear hK K
    try simp only [Act.put, List.setIfInBounds_toArray, List.set_cons_zero, List.set_cons_succ]
    refine tk4 (v := ?_) (by kernel_rfl) (by kernel_rfl) (by kernel_rfl) (by first | exact fun _ _ _ h => h | exact fun _ _ _ h => absurd h.1 (by simp)) (Or.inl ⟨by rfl, ?_⟩) (by assumption) ?_
    rotate_left 1
    focus (intro wx hSw; (try dsimp only at hSw); go_simp; try (with_reducible rfl))
    try simp only [Act.put, List.setIfInBounds_toArray, List.set_cons_zero, List.set_cons_succ]
    refine tk5 (by kernel_rfl) (by kernel_rfl) (by kernel_rfl) (by first | exact fun _ _ _ h => h | exact fun _ _ _ h => absurd h.1 (by simp)) (Or.inr ⟨by rfl, rfl⟩) (by assumption) ?_
    try simp only [Act.put, List.setIfInBounds_toArray, List.set_cons_zero, List.set_cons_succ]
    refine tk6 (by kernel_rfl) (by kernel_rfl) (by kernel_rfl) (by first | exact fun _ _ _ h => h | exact fun _ _ _ h => absurd h.1 (by simp)) (Or.inr ⟨by rfl, rfl⟩) (by assumption) ?_
    try simp only [Act.put, List.setIfInBounds_toArray, List.set_cons_zero, List.set_cons_succ]
    refine tk7 (by kernel_rfl) (by kernel_rfl) (by kernel_rfl) (by first | exact fun _ _ _ h => h | exact fun _ _ _ h => absurd h.1 (by simp)) (Or.inr ⟨by rfl, rfl⟩) (by assumption) ?_
    try simp only [Act.put, List.setIfInBounds_toArray, List.set_cons_zero, List.set_cons_succ]
    refine tk8 (by kernel_rfl) (by kernel_rfl) (by kernel_rfl) (by first | exact fun _ _ _ h => h | exact fun _ _ _ h => absurd h.1 (by simp)) (Or.inr ⟨by rfl, rfl⟩) (by assumption) ?_
    try simp only [Act.put, List.setIfInBounds_toArray, List.set_cons_zero, List.set_cons_succ]
    refine tk9 (by kernel_rfl) (by kernel_rfl) (by kernel_rfl) (by first | exact fun _ _ _ h => h | exact fun _ _ _ h => absurd h.1 (by simp)) (Or.inr ⟨by rfl, rfl⟩) (by assumption) ?_
    try simp only [Act.put, List.setIfInBounds_toArray, List.set_cons_zero, List.set_cons_succ]
    refine tk10 (by kernel_rfl) (by kernel_rfl) (by kernel_rfl) (by first | exact fun _ _ _ h => h | exact fun _ _ _ h => absurd h.1 (by simp)) (Or.inr ⟨by rfl, rfl⟩) (by assumption) ?_
    try simp only [Act.put, List.setIfInBounds_toArray, List.set_cons_zero, List.set_cons_succ]
    refine tk11 (by kernel_rfl) (by kernel_rfl) (by kernel_rfl) (by first | exact fun _ _ _ h => h | exact fun _ _ _ h => absurd h.1 (by simp)) (Or.inr ⟨by rfl, rfl⟩) (by assumption) ?_
    try simp only [Act.put, List.setIfInBounds_toArray, List.set_cons_zero, List.set_cons_succ]
    refine tk12 (by kernel_rfl) (by kernel_rfl) (by kernel_rfl) (by first | exact fun _ _ _ h => h | exact fun _ _ _ h => absurd h.1 (by simp)) (Or.inr ⟨by rfl, rfl⟩) (by assumption) ?_
    try simp only [Act.put, List.setIfInBounds_toArray, List.set_cons_zero, List.set_cons_succ]
    refine tk13 (by kernel_rfl) (by kernel_rfl) (by kernel_rfl) (by first | exact fun _ _ _ h => h | exact fun _ _ _ h => absurd h.1 (by simp)) (Or.inr ⟨by rfl, rfl⟩) (by assumption) ?_
    try simp only [Act.put, List.setIfInBounds_toArray, List.set_cons_zero, List.set_cons_succ]
    refine tk14 (v := ?_) (by kernel_rfl) (by kernel_rfl) (by kernel_rfl) (by first | exact fun _ _ _ h => h | exact fun _ _ _ h => absurd h.1 (by simp)) (Or.inl ⟨by rfl, ?_⟩) (by assumption) ?_
    rotate_left 1
    focus (intro wx hSw; (try dsimp only at hSw); go_simp; try (with_reducible rfl))
    try simp only [Act.put, List.setIfInBounds_toArray, List.set_cons_zero, List.set_cons_succ]
    refine tk15 (v := ?_) (by kernel_rfl) (by kernel_rfl) (by kernel_rfl) (by first | exact fun _ _ _ h => h | exact fun _ _ _ h => absurd h.1 (by simp)) (Or.inl ⟨by rfl, ?_⟩) (by assumption) ?_
    rotate_left 1
    focus (intro wx hSw; (try dsimp only at hSw); go_simp; try (with_reducible rfl))
    try simp only [Act.put, List.setIfInBounds_toArray, List.set_cons_zero, List.set_cons_succ]
    refine wpAnyH_done (by kernel_rfl) ?_ _
    rw [Bool.false_and] at hq
    subst hq
    clear q2 HV HS hb7
    go_wp2_with fail
    go_ret
    exact ⟨rfl, hw7⟩

end Go.Proofs.Ytgmnknlnlmcmfaa
