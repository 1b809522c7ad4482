/-
  WALK: copySTG of the program: a graph of the call's own.
-/
import Derived.Test.YtkkfglolameogaaCln
import Derived.Test.YtkkfglolameogaaUnc
namespace Go.Proofs.Ytkkfglolameogaa
open Go.RowKit

abbrev sgX (ss : List Sig) : Nat → Value := fun i => .string (sgN ss i)
abbrev sgY (ss : List Sig) : Nat → Value := fun i => .int .i64 (sgK ss i)
abbrev lbX (ls : List Lab) : Nat → Value := fun i => .int .i64 (lbS ls i)
abbrev lbY (ls : List Lab) : Nat → Value := fun i => .bool (lbU ls i)

/-- a call returns a graph of its own, its transitions' lists apart -/
def RetCopyS (w : World) (s : StgD) (e : Ending) (w' : World) : Prop :=
  ∃ (R B : Nat) (c : Nat → Nat) (vs vl : Value), e = .returned (.agg #[.int .i64 s.net.places, .slice (some ⟨R, 0, none⟩) s.net.ts.length s.net.ts.length, vs, vl, .string s.start]) ∧
    w.heap.size ≤ R ∧ R < c 0 ∧ (∀ i, c i ≤ B) ∧ B ≤ w'.heap.size ∧ SepRow c R w' s.net.ts.length s.net.ts.length s.net.ts ∧
    w'.ownsRow B 86 2 vs s.sigs.length (pairCells (sgX s.sigs) (sgY s.sigs) s.sigs.length) ∧
    w'.ownsRow B 98 2 vl s.labs.length (pairCells (lbX s.labs) (lbY s.labs) s.labs.length) ∧ Below w.heap.size w w'

set_option maxRecDepth 100000 in
set_option maxHeartbeats 2000000 in
theorem copySTG_any (v : Value) (s : StgD) (w : World) (lo : Nat) (hv : StgAt lo w v s) (hs : SmallTrs s.net.ts) (hlow : LowTs s.net.ts) (hn1 : s.sigs.length ≤ 1048576) (hn2 : s.labs.length ≤ 1048576) :
    Calls Try.prog 63 #[v] w (RetCopyS w s) := by
  obtain ⟨⟨p, ts⟩, ss, ls, str⟩ := s
  obtain ⟨vt, vs, vl, rfl, hnet, hsg, hlb⟩ := hv
  simp only at hnet hsg hlb hs hlow hn1 hn2 ⊢
  obtain ⟨_, _, u, hu, ht⟩ := hnet
  simp only at ht
  simp only [Value.agg.injEq, Array.mk.injEq, List.cons.injEq, and_true, true_and] at hu
  subst hu
  obtain ⟨at_, kt, rfl, _, _⟩ := id ht
  obtain ⟨as_, ks, rfl, _, _⟩ := id hsg
  obtain ⟨al_, kl, rfl, _, _⟩ := id hlb
  have HT := Lib.hid ht; clear ht
  have HG := Lib.hid hsg; clear hsg
  have HL := Lib.hid hlb; clear hlb
  have HS := Lib.hid hs; clear hs
  have HLo := Lib.hid hlow; clear hlow
  go_enter Try.func63, Try.ntmps63
  go_wp2_with fail
  obtain ⟨W, hW⟩ : ∃ W, W = (w.alloc (.cells #[.int .i64 p, .slice at_ ts.length kt, .slice as_ ss.length ks, .slice al_ ls.length kl, .string str] 36)).alloc (.cells #[.int .i64 0, .slice none 0 0, .slice none 0 0, .slice none 0 0, .string ⟨#[]⟩] 36) := ⟨_, rfl⟩
  have hz : W.heap.size = w.heap.size + 2 := by rw [hW]; simp
  have hwW : Below w.heap.size w W := by rw [hW]; (repeat' (first | (with_reducible exact Below.refl _ _) | (with_reducible assumption) | (with_reducible refine Below.alloc ?_ ?_ _) | (with_reducible refine Below.drew ?_) | (with_reducible refine below_drewN ?_ _) | (with_reducible refine Below.setCell ?_ ?_ _) | go_size))
  have b0 : W.cell? ⟨w.heap.size, 0, none⟩ = some (.int .i64 p) := by rw [hW]; simp [go_sem]
  have b1 : W.cell? ⟨w.heap.size, 1, none⟩ = some (.slice at_ ts.length kt) := by rw [hW]; simp [go_sem]
  have b2 : W.cell? ⟨w.heap.size, 2, none⟩ = some (.slice as_ ss.length ks) := by rw [hW]; simp [go_sem]
  have b3 : W.cell? ⟨w.heap.size, 3, none⟩ = some (.slice al_ ls.length kl) := by rw [hW]; simp [go_sem]
  have b4 : W.cell? ⟨w.heap.size, 4, none⟩ = some (.string str) := by rw [hW]; simp [go_sem]
  have r0 : W.cell? ⟨w.heap.size + 1, 0, none⟩ = some (.int .i64 0) := by rw [hW]; simp [go_sem]
  have r1 : W.cell? ⟨w.heap.size + 1, 1, none⟩ = some (.slice none 0 0) := by rw [hW]; simp [go_sem]
  have r2 : W.cell? ⟨w.heap.size + 1, 2, none⟩ = some (.slice none 0 0) := by rw [hW]; simp [go_sem]
  have r3 : W.cell? ⟨w.heap.size + 1, 3, none⟩ = some (.slice none 0 0) := by rw [hW]; simp [go_sem]
  have r4 : W.cell? ⟨w.heap.size + 1, 4, none⟩ = some (.string ⟨#[]⟩) := by rw [hW]; simp [go_sem]
  have rf0 : W.frozen? ⟨w.heap.size + 1, 0, none⟩ = false := by rw [hW]; simp [go_sem]
  have rf1 : W.frozen? ⟨w.heap.size + 1, 1, none⟩ = false := by rw [hW]; simp [go_sem]
  have rf2 : W.frozen? ⟨w.heap.size + 1, 2, none⟩ = false := by rw [hW]; simp [go_sem]
  have rf3 : W.frozen? ⟨w.heap.size + 1, 3, none⟩ = false := by rw [hW]; simp [go_sem]
  have rf4 : W.frozen? ⟨w.heap.size + 1, 4, none⟩ = false := by rw [hW]; simp [go_sem]
  rw [← hW]
  clear hW
  refine wp_region_held_drew (S := fun w' => w'.cell? ⟨w.heap.size, 0, none⟩ = some (.int .i64 p) ∧ w'.cell? ⟨w.heap.size, 1, none⟩ = some (.slice at_ ts.length kt) ∧ w'.cell? ⟨w.heap.size, 2, none⟩ = some (.slice as_ ss.length ks) ∧ w'.cell? ⟨w.heap.size, 3, none⟩ = some (.slice al_ ls.length kl) ∧ w'.cell? ⟨w.heap.size, 4, none⟩ = some (.string str)) (by kernel_rfl) ⟨b0, b1, b2, b3, b4⟩ (fun hHeld => ?_)
  have hd : Below W.heap.size W W.drew := (Below.refl _ _).drew
  generalize W.drew = W0 at hd hHeld ⊢
  have b0 := cell_carry b0 (Carries.of 0 hd)
  have b1 := cell_carry b1 (Carries.of 0 hd)
  have b2 := cell_carry b2 (Carries.of 0 hd)
  have b3 := cell_carry b3 (Carries.of 0 hd)
  have b4 := cell_carry b4 (Carries.of 0 hd)
  have r0 := cell_carry r0 (Carries.of 0 hd)
  have r1 := cell_carry r1 (Carries.of 0 hd)
  have r2 := cell_carry r2 (Carries.of 0 hd)
  have r3 := cell_carry r3 (Carries.of 0 hd)
  have r4 := cell_carry r4 (Carries.of 0 hd)
  have rf0 := (hd.frozen (p := ⟨w.heap.size + 1, 0, none⟩) (by simp; omega)).trans rf0
  have rf1 := (hd.frozen (p := ⟨w.heap.size + 1, 1, none⟩) (by simp; omega)).trans rf1
  have rf2 := (hd.frozen (p := ⟨w.heap.size + 1, 2, none⟩) (by simp; omega)).trans rf2
  have rf3 := (hd.frozen (p := ⟨w.heap.size + 1, 3, none⟩) (by simp; omega)).trans rf3
  have rf4 := (hd.frozen (p := ⟨w.heap.size + 1, 4, none⟩) (by simp; omega)).trans rf4
  have zd0 := hd.size
  have bel := hwW.trans (hd.mono hwW.size)
  clear hd hwW
  refine tk0 (v := ?_) (by kernel_rfl) (by kernel_rfl) (by kernel_rfl) (by first | exact fun _ _ _ h => h | exact fun _ _ _ h => absurd h.1 (by simp)) (Or.inl ⟨by rfl, ?_⟩) (by assumption) ?_
  rotate_left 1
  focus (intro wx hSw; (try dsimp only at hSw); go_simp; try (with_reducible rfl))
  try simp only [Act.put, List.setIfInBounds_toArray, List.set_cons_zero, List.set_cons_succ]
  refine tk1 (v := ?_) (by kernel_rfl) (by kernel_rfl) (by kernel_rfl) (by first | exact fun _ _ _ h => h | exact fun _ _ _ h => absurd h.1 (by simp)) (Or.inl ⟨by rfl, ?_⟩) (by assumption) ?_
  rotate_left 1
  focus (intro wx hSw; (try dsimp only at hSw); go_simp; try (with_reducible rfl))
  try simp only [Act.put, List.setIfInBounds_toArray, List.set_cons_zero, List.set_cons_succ]
  refine tk2 (v := ?_) (by kernel_rfl) (by kernel_rfl) (by kernel_rfl) (by first | exact fun _ _ _ h => h | exact fun _ _ _ h => absurd h.1 (by simp)) (Or.inl ⟨by rfl, ?_⟩) (by assumption) ?_
  rotate_left 1
  focus (intro wx hSw; (try dsimp only at hSw); go_simp; try (with_reducible rfl))
  try simp only [Act.put, List.setIfInBounds_toArray, List.set_cons_zero, List.set_cons_succ]
  refine tk3 (v := ?_) (by kernel_rfl) (by kernel_rfl) (by kernel_rfl) (by first | exact fun _ _ _ h => h | exact fun _ _ _ h => absurd h.1 (by simp)) (Or.inl ⟨by rfl, ?_⟩) (by assumption) ?_
  rotate_left 1
  focus (intro wx hSw; (try dsimp only at hSw); go_simp; try (with_reducible rfl))
  try simp only [Act.put, List.setIfInBounds_toArray, List.set_cons_zero, List.set_cons_succ]
  refine tk4 (v := ?_) (by kernel_rfl) (by kernel_rfl) (by kernel_rfl) (by first | exact fun _ _ _ h => h | exact fun _ _ _ h => absurd h.1 (by simp)) (Or.inl ⟨by rfl, ?_⟩) (by assumption) ?_
  rotate_left 1
  focus (intro wx hSw; (try dsimp only at hSw); go_simp; try (with_reducible rfl))
  try simp only [Act.put, List.setIfInBounds_toArray, List.set_cons_zero, List.set_cons_succ]
  refine tk7 (v := ?_) (by kernel_rfl) (by kernel_rfl) (by kernel_rfl) (by first | exact fun _ _ _ h => h | exact fun _ _ _ h => absurd h.1 (by simp)) (Or.inl ⟨by rfl, ?_⟩) (by assumption) ?_
  rotate_left 1
  focus (intro wx hSw; (try dsimp only at hSw); go_simp; try (with_reducible rfl))
  try simp only [Act.put, List.setIfInBounds_toArray, List.set_cons_zero, List.set_cons_succ]
  refine tk8 (v := ?_) (by kernel_rfl) (by kernel_rfl) (by kernel_rfl) (by first | exact fun _ _ _ h => h | exact fun _ _ _ h => absurd h.1 (by simp)) (Or.inl ⟨by rfl, ?_⟩) (by assumption) ?_
  rotate_left 1
  focus (intro wx hSw; (try dsimp only at hSw); go_simp; try (with_reducible rfl))
  try simp only [Act.put, List.setIfInBounds_toArray, List.set_cons_zero, List.set_cons_succ]
  refine tk10 (v := ?_) (by kernel_rfl) (by kernel_rfl) (by kernel_rfl) (by first | exact fun _ _ _ h => h | exact fun _ _ _ h => absurd h.1 (by simp)) (Or.inl ⟨by rfl, ?_⟩) (by assumption) ?_
  rotate_left 1
  focus (intro wx hSw; (try dsimp only at hSw); go_simp; try (with_reducible rfl))
  try simp only [Act.put, List.setIfInBounds_toArray, List.set_cons_zero, List.set_cons_succ]
  refine tk11 (v := ?_) (by kernel_rfl) (by kernel_rfl) (by kernel_rfl) (by first | exact fun _ _ _ h => h | exact fun _ _ _ h => absurd h.1 (by simp)) (Or.inl ⟨by rfl, ?_⟩) (by assumption) ?_
  rotate_left 1
  focus (intro wx hSw; (try dsimp only at hSw); go_simp; try (with_reducible rfl))
  try simp only [Act.put, List.setIfInBounds_toArray, List.set_cons_zero, List.set_cons_succ]
  refine tk13 (v := ?_) (by kernel_rfl) (by kernel_rfl) (by kernel_rfl) (by first | exact fun _ _ _ h => h | exact fun _ _ _ h => absurd h.1 (by simp)) (Or.inl ⟨by rfl, ?_⟩) (by assumption) ?_
  rotate_left 1
  focus (intro wx hSw; (try dsimp only at hSw); go_simp; try (with_reducible rfl))
  try simp only [Act.put, List.setIfInBounds_toArray, List.set_cons_zero, List.set_cons_succ]
  refine tk14 (v := ?_) (by kernel_rfl) (by kernel_rfl) (by kernel_rfl) (by first | exact fun _ _ _ h => h | exact fun _ _ _ h => absurd h.1 (by simp)) (Or.inl ⟨by rfl, ?_⟩) (by assumption) ?_
  rotate_left 1
  focus (intro wx hSw; (try dsimp only at hSw); go_simp; try (with_reducible rfl))
  try simp only [Act.put, List.setIfInBounds_toArray, List.set_cons_zero, List.set_cons_succ]
  refine rd5 (by kernel_rfl) (fun K hK => ?_)
  go_simp
  refine (movedTransitions_any p _ ts 0 W0 lo (HT.out.keep (Carries.of lo bel)) HS.out HLo.out (by omega) (by omega)).mono ?_
  rintro e W1 ⟨R, c, rfl, hR, hRc, hcs, hrow, hbb⟩
  rw [movTs_zero] at hrow
  have b0 := cell_carry b0 (Carries.of 0 hbb)
  have b1 := cell_carry b1 (Carries.of 0 hbb)
  have b2 := cell_carry b2 (Carries.of 0 hbb)
  have b3 := cell_carry b3 (Carries.of 0 hbb)
  have b4 := cell_carry b4 (Carries.of 0 hbb)
  have r0 := cell_carry r0 (Carries.of 0 hbb)
  have r1 := cell_carry r1 (Carries.of 0 hbb)
  have r2 := cell_carry r2 (Carries.of 0 hbb)
  have r3 := cell_carry r3 (Carries.of 0 hbb)
  have r4 := cell_carry r4 (Carries.of 0 hbb)
  have rf0 := (hbb.frozen (p := ⟨w.heap.size + 1, 0, none⟩) (by simp; omega)).trans rf0
  have rf1 := (hbb.frozen (p := ⟨w.heap.size + 1, 1, none⟩) (by simp; omega)).trans rf1
  have rf2 := (hbb.frozen (p := ⟨w.heap.size + 1, 2, none⟩) (by simp; omega)).trans rf2
  have rf3 := (hbb.frozen (p := ⟨w.heap.size + 1, 3, none⟩) (by simp; omega)).trans rf3
  have rf4 := (hbb.frozen (p := ⟨w.heap.size + 1, 4, none⟩) (by simp; omega)).trans rf4
  have zd1 := hbb.size
  have bel := bel.trans (hbb.mono bel.size)
  have HR1 := Lib.hid hrow; clear hrow hbb
  refine hK.out _ _ ⟨b0, b1, b2, b3, b4⟩ (fun hHeld => ?_)
  clear hK K
  try simp only [Act.put, List.setIfInBounds_toArray, List.set_cons_zero, List.set_cons_succ]
  refine tk6 (v := ?_) (by kernel_rfl) (by kernel_rfl) (by kernel_rfl) (by first | exact fun _ _ _ h => h | exact fun _ _ _ h => absurd h.1 (by simp)) (Or.inl ⟨by rfl, ?_⟩) (by assumption) ?_
  rotate_left 1
  focus (intro wx hSw; (try dsimp only at hSw); go_simp; try (with_reducible rfl))
  try simp only [Act.put, List.setIfInBounds_toArray, List.set_cons_zero, List.set_cons_succ]
  refine rd9 (by kernel_rfl) (fun K hK => ?_)
  go_simp
  refine (clonesigs_any _ ss W1 lo (HG.out.keep (Carries.of lo bel)) (by omega)).mono ?_
  rintro e W2 ⟨vs, rfl, hos, hbb⟩
  have b0 := cell_carry b0 (Carries.of 0 hbb)
  have b1 := cell_carry b1 (Carries.of 0 hbb)
  have b2 := cell_carry b2 (Carries.of 0 hbb)
  have b3 := cell_carry b3 (Carries.of 0 hbb)
  have b4 := cell_carry b4 (Carries.of 0 hbb)
  have r0 := cell_carry r0 (Carries.of 0 hbb)
  have r1 := cell_carry r1 (Carries.of 0 hbb)
  have r2 := cell_carry r2 (Carries.of 0 hbb)
  have r3 := cell_carry r3 (Carries.of 0 hbb)
  have r4 := cell_carry r4 (Carries.of 0 hbb)
  have rf0 := (hbb.frozen (p := ⟨w.heap.size + 1, 0, none⟩) (by simp; omega)).trans rf0
  have rf1 := (hbb.frozen (p := ⟨w.heap.size + 1, 1, none⟩) (by simp; omega)).trans rf1
  have rf2 := (hbb.frozen (p := ⟨w.heap.size + 1, 2, none⟩) (by simp; omega)).trans rf2
  have rf3 := (hbb.frozen (p := ⟨w.heap.size + 1, 3, none⟩) (by simp; omega)).trans rf3
  have rf4 := (hbb.frozen (p := ⟨w.heap.size + 1, 4, none⟩) (by simp; omega)).trans rf4
  have zd2 := hbb.size
  have bel := bel.trans (hbb.mono bel.size)
  have HR2 := Lib.hid (HR1.out.keep hbb); clear HR1
  obtain ⟨a5, k5, rfl⟩ := owns_form hos
  have HO2 := Lib.hid hos; clear hos hbb
  refine hK.out _ _ ⟨b0, b1, b2, b3, b4⟩ (fun hHeld => ?_)
  clear hK K
  try simp only [Act.put, List.setIfInBounds_toArray, List.set_cons_zero, List.set_cons_succ]
  refine rd12 (by kernel_rfl) (fun K hK => ?_)
  go_simp
  refine (clonelabs_any _ ls W2 lo (HL.out.keep (Carries.of lo bel)) (by omega)).mono ?_
  rintro e W3 ⟨vl, rfl, hol, hbb⟩
  have b0 := cell_carry b0 (Carries.of 0 hbb)
  have b1 := cell_carry b1 (Carries.of 0 hbb)
  have b2 := cell_carry b2 (Carries.of 0 hbb)
  have b3 := cell_carry b3 (Carries.of 0 hbb)
  have b4 := cell_carry b4 (Carries.of 0 hbb)
  have r0 := cell_carry r0 (Carries.of 0 hbb)
  have r1 := cell_carry r1 (Carries.of 0 hbb)
  have r2 := cell_carry r2 (Carries.of 0 hbb)
  have r3 := cell_carry r3 (Carries.of 0 hbb)
  have r4 := cell_carry r4 (Carries.of 0 hbb)
  have rf0 := (hbb.frozen (p := ⟨w.heap.size + 1, 0, none⟩) (by simp; omega)).trans rf0
  have rf1 := (hbb.frozen (p := ⟨w.heap.size + 1, 1, none⟩) (by simp; omega)).trans rf1
  have rf2 := (hbb.frozen (p := ⟨w.heap.size + 1, 2, none⟩) (by simp; omega)).trans rf2
  have rf3 := (hbb.frozen (p := ⟨w.heap.size + 1, 3, none⟩) (by simp; omega)).trans rf3
  have rf4 := (hbb.frozen (p := ⟨w.heap.size + 1, 4, none⟩) (by simp; omega)).trans rf4
  have zd3 := hbb.size
  have bel := bel.trans (hbb.mono bel.size)
  have HR3 := Lib.hid (HR2.out.keep hbb); clear HR2
  have HO3 := Lib.hid (owns_after HO2.out hbb); clear HO2
  obtain ⟨a6, k6, rfl⟩ := owns_form hol
  have HP3 := Lib.hid hol; clear hol hbb
  refine hK.out _ _ ⟨b0, b1, b2, b3, b4⟩ (fun hHeld => ?_)
  clear hK K
  try simp only [Act.put, List.setIfInBounds_toArray, List.set_cons_zero, List.set_cons_succ]
  refine tk15 (v := ?_) (by kernel_rfl) (by kernel_rfl) (by kernel_rfl) (by first | exact fun _ _ _ h => h | exact fun _ _ _ h => absurd h.1 (by simp)) (Or.inl ⟨by rfl, ?_⟩) (by assumption) ?_
  rotate_left 1
  focus (intro wx hSw; (try dsimp only at hSw); go_simp; try (with_reducible rfl))
  try simp only [Act.put, List.setIfInBounds_toArray, List.set_cons_zero, List.set_cons_succ]
  refine rd16 (by kernel_rfl) (fun K hK => ?_)
  go_simp
  have q0 : (((((W3.setCell ⟨w.heap.size + 1, 0, none⟩ (.int .i64 p)).setCell ⟨w.heap.size + 1, 1, none⟩ (.slice (some ⟨R, 0, none⟩) ts.length ts.length)).setCell ⟨w.heap.size + 1, 2, none⟩ (.slice a5 ss.length k5)).setCell ⟨w.heap.size + 1, 3, none⟩ (.slice a6 ls.length k6)).setCell ⟨w.heap.size + 1, 4, none⟩ (.string str)).cell? ⟨w.heap.size + 1, 0, none⟩ = some (.int .i64 p) := ((World.cell?_setCell_other _ _ _ _ (by simp)).trans ((World.cell?_setCell_other _ _ _ _ (by simp)).trans ((World.cell?_setCell_other _ _ _ _ (by simp)).trans ((World.cell?_setCell_other _ _ _ _ (by simp)).trans (World.cell?_setCell_same _ _ _ r0)))))
  have q1 : (((((W3.setCell ⟨w.heap.size + 1, 0, none⟩ (.int .i64 p)).setCell ⟨w.heap.size + 1, 1, none⟩ (.slice (some ⟨R, 0, none⟩) ts.length ts.length)).setCell ⟨w.heap.size + 1, 2, none⟩ (.slice a5 ss.length k5)).setCell ⟨w.heap.size + 1, 3, none⟩ (.slice a6 ls.length k6)).setCell ⟨w.heap.size + 1, 4, none⟩ (.string str)).cell? ⟨w.heap.size + 1, 1, none⟩ = some (.slice (some ⟨R, 0, none⟩) ts.length ts.length) := ((World.cell?_setCell_other _ _ _ _ (by simp)).trans ((World.cell?_setCell_other _ _ _ _ (by simp)).trans ((World.cell?_setCell_other _ _ _ _ (by simp)).trans (World.cell?_setCell_same _ _ _ ((World.cell?_setCell_other _ _ _ _ (by simp)).trans r1)))))
  have q2 : (((((W3.setCell ⟨w.heap.size + 1, 0, none⟩ (.int .i64 p)).setCell ⟨w.heap.size + 1, 1, none⟩ (.slice (some ⟨R, 0, none⟩) ts.length ts.length)).setCell ⟨w.heap.size + 1, 2, none⟩ (.slice a5 ss.length k5)).setCell ⟨w.heap.size + 1, 3, none⟩ (.slice a6 ls.length k6)).setCell ⟨w.heap.size + 1, 4, none⟩ (.string str)).cell? ⟨w.heap.size + 1, 2, none⟩ = some (.slice a5 ss.length k5) := ((World.cell?_setCell_other _ _ _ _ (by simp)).trans ((World.cell?_setCell_other _ _ _ _ (by simp)).trans (World.cell?_setCell_same _ _ _ ((World.cell?_setCell_other _ _ _ _ (by simp)).trans ((World.cell?_setCell_other _ _ _ _ (by simp)).trans r2)))))
  have q3 : (((((W3.setCell ⟨w.heap.size + 1, 0, none⟩ (.int .i64 p)).setCell ⟨w.heap.size + 1, 1, none⟩ (.slice (some ⟨R, 0, none⟩) ts.length ts.length)).setCell ⟨w.heap.size + 1, 2, none⟩ (.slice a5 ss.length k5)).setCell ⟨w.heap.size + 1, 3, none⟩ (.slice a6 ls.length k6)).setCell ⟨w.heap.size + 1, 4, none⟩ (.string str)).cell? ⟨w.heap.size + 1, 3, none⟩ = some (.slice a6 ls.length k6) := ((World.cell?_setCell_other _ _ _ _ (by simp)).trans (World.cell?_setCell_same _ _ _ ((World.cell?_setCell_other _ _ _ _ (by simp)).trans ((World.cell?_setCell_other _ _ _ _ (by simp)).trans ((World.cell?_setCell_other _ _ _ _ (by simp)).trans r3)))))
  have q4 : (((((W3.setCell ⟨w.heap.size + 1, 0, none⟩ (.int .i64 p)).setCell ⟨w.heap.size + 1, 1, none⟩ (.slice (some ⟨R, 0, none⟩) ts.length ts.length)).setCell ⟨w.heap.size + 1, 2, none⟩ (.slice a5 ss.length k5)).setCell ⟨w.heap.size + 1, 3, none⟩ (.slice a6 ls.length k6)).setCell ⟨w.heap.size + 1, 4, none⟩ (.string str)).cell? ⟨w.heap.size + 1, 4, none⟩ = some (.string str) := (World.cell?_setCell_same _ _ _ ((World.cell?_setCell_other _ _ _ _ (by simp)).trans ((World.cell?_setCell_other _ _ _ _ (by simp)).trans ((World.cell?_setCell_other _ _ _ _ (by simp)).trans ((World.cell?_setCell_other _ _ _ _ (by simp)).trans r4)))))
  have y0 : (((((W3.setCell ⟨w.heap.size + 1, 0, none⟩ (.int .i64 p)).setCell ⟨w.heap.size + 1, 1, none⟩ (.slice (some ⟨R, 0, none⟩) ts.length ts.length)).setCell ⟨w.heap.size + 1, 2, none⟩ (.slice a5 ss.length k5)).setCell ⟨w.heap.size + 1, 3, none⟩ (.slice a6 ls.length k6)).setCell ⟨w.heap.size + 1, 4, none⟩ (.string str)).cell? ⟨w.heap.size, 0, none⟩ = some (.int .i64 p) := ((World.cell?_setCell_far _ _ _ _ (by simp)).trans ((World.cell?_setCell_far _ _ _ _ (by simp)).trans ((World.cell?_setCell_far _ _ _ _ (by simp)).trans ((World.cell?_setCell_far _ _ _ _ (by simp)).trans ((World.cell?_setCell_far _ _ _ _ (by simp)).trans b0)))))
  have y1 : (((((W3.setCell ⟨w.heap.size + 1, 0, none⟩ (.int .i64 p)).setCell ⟨w.heap.size + 1, 1, none⟩ (.slice (some ⟨R, 0, none⟩) ts.length ts.length)).setCell ⟨w.heap.size + 1, 2, none⟩ (.slice a5 ss.length k5)).setCell ⟨w.heap.size + 1, 3, none⟩ (.slice a6 ls.length k6)).setCell ⟨w.heap.size + 1, 4, none⟩ (.string str)).cell? ⟨w.heap.size, 1, none⟩ = some (.slice at_ ts.length kt) := ((World.cell?_setCell_far _ _ _ _ (by simp)).trans ((World.cell?_setCell_far _ _ _ _ (by simp)).trans ((World.cell?_setCell_far _ _ _ _ (by simp)).trans ((World.cell?_setCell_far _ _ _ _ (by simp)).trans ((World.cell?_setCell_far _ _ _ _ (by simp)).trans b1)))))
  have y2 : (((((W3.setCell ⟨w.heap.size + 1, 0, none⟩ (.int .i64 p)).setCell ⟨w.heap.size + 1, 1, none⟩ (.slice (some ⟨R, 0, none⟩) ts.length ts.length)).setCell ⟨w.heap.size + 1, 2, none⟩ (.slice a5 ss.length k5)).setCell ⟨w.heap.size + 1, 3, none⟩ (.slice a6 ls.length k6)).setCell ⟨w.heap.size + 1, 4, none⟩ (.string str)).cell? ⟨w.heap.size, 2, none⟩ = some (.slice as_ ss.length ks) := ((World.cell?_setCell_far _ _ _ _ (by simp)).trans ((World.cell?_setCell_far _ _ _ _ (by simp)).trans ((World.cell?_setCell_far _ _ _ _ (by simp)).trans ((World.cell?_setCell_far _ _ _ _ (by simp)).trans ((World.cell?_setCell_far _ _ _ _ (by simp)).trans b2)))))
  have y3 : (((((W3.setCell ⟨w.heap.size + 1, 0, none⟩ (.int .i64 p)).setCell ⟨w.heap.size + 1, 1, none⟩ (.slice (some ⟨R, 0, none⟩) ts.length ts.length)).setCell ⟨w.heap.size + 1, 2, none⟩ (.slice a5 ss.length k5)).setCell ⟨w.heap.size + 1, 3, none⟩ (.slice a6 ls.length k6)).setCell ⟨w.heap.size + 1, 4, none⟩ (.string str)).cell? ⟨w.heap.size, 3, none⟩ = some (.slice al_ ls.length kl) := ((World.cell?_setCell_far _ _ _ _ (by simp)).trans ((World.cell?_setCell_far _ _ _ _ (by simp)).trans ((World.cell?_setCell_far _ _ _ _ (by simp)).trans ((World.cell?_setCell_far _ _ _ _ (by simp)).trans ((World.cell?_setCell_far _ _ _ _ (by simp)).trans b3)))))
  have y4 : (((((W3.setCell ⟨w.heap.size + 1, 0, none⟩ (.int .i64 p)).setCell ⟨w.heap.size + 1, 1, none⟩ (.slice (some ⟨R, 0, none⟩) ts.length ts.length)).setCell ⟨w.heap.size + 1, 2, none⟩ (.slice a5 ss.length k5)).setCell ⟨w.heap.size + 1, 3, none⟩ (.slice a6 ls.length k6)).setCell ⟨w.heap.size + 1, 4, none⟩ (.string str)).cell? ⟨w.heap.size, 4, none⟩ = some (.string str) := ((World.cell?_setCell_far _ _ _ _ (by simp)).trans ((World.cell?_setCell_far _ _ _ _ (by simp)).trans ((World.cell?_setCell_far _ _ _ _ (by simp)).trans ((World.cell?_setCell_far _ _ _ _ (by simp)).trans ((World.cell?_setCell_far _ _ _ _ (by simp)).trans b4)))))
  have belX : Below w.heap.size w (((((W3.setCell ⟨w.heap.size + 1, 0, none⟩ (.int .i64 p)).setCell ⟨w.heap.size + 1, 1, none⟩ (.slice (some ⟨R, 0, none⟩) ts.length ts.length)).setCell ⟨w.heap.size + 1, 2, none⟩ (.slice a5 ss.length k5)).setCell ⟨w.heap.size + 1, 3, none⟩ (.slice a6 ls.length k6)).setCell ⟨w.heap.size + 1, 4, none⟩ (.string str)) := (((((bel.setCell (by show w.heap.size ≤ w.heap.size + 1; omega) _).setCell (by show w.heap.size ≤ w.heap.size + 1; omega) _).setCell (by show w.heap.size ≤ w.heap.size + 1; omega) _).setCell (by show w.heap.size ≤ w.heap.size + 1; omega) _).setCell (by show w.heap.size ≤ w.heap.size + 1; omega) _)
  have HRX := Lib.hid (((((HR3.out.far (p := ⟨w.heap.size + 1, 0, none⟩) (by simp; omega) (by simp; omega) (.int .i64 p)).far (p := ⟨w.heap.size + 1, 1, none⟩) (by simp; omega) (by simp; omega) (.slice (some ⟨R, 0, none⟩) ts.length ts.length)).far (p := ⟨w.heap.size + 1, 2, none⟩) (by simp; omega) (by simp; omega) (.slice a5 ss.length k5)).far (p := ⟨w.heap.size + 1, 3, none⟩) (by simp; omega) (by simp; omega) (.slice a6 ls.length k6)).far (p := ⟨w.heap.size + 1, 4, none⟩) (by simp; omega) (by simp; omega) (.string str))
  have HOX := Lib.hid (owns_set (owns_set (owns_set (owns_set (owns_set HO3.out (p := ⟨w.heap.size + 1, 0, none⟩) (by simp; omega) (.int .i64 p)) (p := ⟨w.heap.size + 1, 1, none⟩) (by simp; omega) (.slice (some ⟨R, 0, none⟩) ts.length ts.length)) (p := ⟨w.heap.size + 1, 2, none⟩) (by simp; omega) (.slice a5 ss.length k5)) (p := ⟨w.heap.size + 1, 3, none⟩) (by simp; omega) (.slice a6 ls.length k6)) (p := ⟨w.heap.size + 1, 4, none⟩) (by simp; omega) (.string str))
  have HPX := Lib.hid (owns_set (owns_set (owns_set (owns_set (owns_set HP3.out (p := ⟨w.heap.size + 1, 0, none⟩) (by simp; omega) (.int .i64 p)) (p := ⟨w.heap.size + 1, 1, none⟩) (by simp; omega) (.slice (some ⟨R, 0, none⟩) ts.length ts.length)) (p := ⟨w.heap.size + 1, 2, none⟩) (by simp; omega) (.slice a5 ss.length k5)) (p := ⟨w.heap.size + 1, 3, none⟩) (by simp; omega) (.slice a6 ls.length k6)) (p := ⟨w.heap.size + 1, 4, none⟩) (by simp; omega) (.string str))
  have hzX : (((((W3.setCell ⟨w.heap.size + 1, 0, none⟩ (.int .i64 p)).setCell ⟨w.heap.size + 1, 1, none⟩ (.slice (some ⟨R, 0, none⟩) ts.length ts.length)).setCell ⟨w.heap.size + 1, 2, none⟩ (.slice a5 ss.length k5)).setCell ⟨w.heap.size + 1, 3, none⟩ (.slice a6 ls.length k6)).setCell ⟨w.heap.size + 1, 4, none⟩ (.string str)).heap.size = W3.heap.size := by simp
  clear r0 r1 r2 r3 r4 rf0 rf1 rf2 rf3 rf4
  generalize ((((W3.setCell ⟨w.heap.size + 1, 0, none⟩ (.int .i64 p)).setCell ⟨w.heap.size + 1, 1, none⟩ (.slice (some ⟨R, 0, none⟩) ts.length ts.length)).setCell ⟨w.heap.size + 1, 2, none⟩ (.slice a5 ss.length k5)).setCell ⟨w.heap.size + 1, 3, none⟩ (.slice a6 ls.length k6)).setCell ⟨w.heap.size + 1, 4, none⟩ (.string str) = W4 at q0 q1 q2 q3 q4 y0 y1 y2 y3 y4 belX HRX HOX HPX hzX ⊢
  refine hK.out _ _ ⟨y0, y1, y2, y3, y4⟩ (fun hHeld => ?_)
  clear hK K
  try simp only [Act.put, List.setIfInBounds_toArray, List.set_cons_zero, List.set_cons_succ]
  refine wpAnyH_done (by kernel_rfl) ?_ _
  clear b0 b1 b2 b3 b4 y0 y1 y2 y3 y4
  go_wp2_with fail
  refine bodyPost_ret (v := .agg #[.int .i64 p, .slice (some ⟨R, 0, none⟩) ts.length ts.length, .slice a5 ss.length k5, .slice a6 ls.length k6, .string str]) (by simp [results, Try.results63, go_sem, q0, q1, q2, q3, q4]) rfl ?_
  exact ⟨R, W1.heap.size, c, _, _, rfl, by omega, hRc, hcs, by omega, HRX.out, HOX.out, Go.Joins.ownsRow_le HPX.out (by omega), belX⟩

end Go.Proofs.Ytkkfglolameogaa
