/- WALKS: onlyPlaces, isEnabled, isTransition. -/
import Derived.Test.YtigkgfdnnfmmmaaVArr
import Derived.Test.YtigkgfdnnfmmmaaVBlk
import Derived.Test.YtigkgfdnnfmmmaaVTrn
import Derived.Test.YtigkgfdnnfmmmaaVSteps
namespace Go.Proofs.Ytigkgfdnnfmmmaa
open Go.RowKit


set_option maxRecDepth 100000 in
set_option maxHeartbeats 1000000 in
theorem isEnabled_any (xs : List UInt8) (hx : xs.length = 30) (v0 v1 : Value) (t : Tr) (w : World) (lo : Nat) (hv : TrAt lo w v0 v1 t) (hn : t.1.length ≤ 1048576) (hin : InArr t.1) :
    Calls Try.prog 81 #[.agg (arr xs).toArray, .agg #[v0, v1]] w (RetB w (putAll 49 xs t.1 == xs)) := by
  have hv' := hv
  obtain ⟨⟨a0, k0, rfl, _, _⟩, ⟨a1, k1, rfl, _, _⟩⟩ := hv'
  have HV := Lib.hid hv; clear hv
  have HI := Lib.hid hin; clear hin
  have HX := Lib.hid hx
  have hl : (putAll 49 xs t.1).length = 30 := by rw [putAll_length]; exact hx
  have heq := fun w => eqlArr (putAll 49 xs t.1) xs hl hx w
  generalize hR : (putAll 49 xs t.1 == xs) = r at heq ⊢
  have HR := Lib.hid hR; clear hR
  have HL := Lib.hid hl; clear hl
  have g1 := Try.underlying111
  have g2 : (Try.prog.info? 111).map (·.size) = some (arr xs).length := by rw [arr_length, hx]; exact Try.infoArr
  have g3 : (arr xs).length = 30 := by rw [arr_length, hx]
  have g4 := arr_one xs
  clear hx
  go_enter Try.func81, Try.ntmps81
  go_wp2_with fail
  have A0 : ((w.alloc (.cells (arr xs).toArray 111)).alloc (.cells #[.slice a0 t.1.length k0, .slice a1 t.2.length k1] 116)).rangeAt w.heap.size 0 (arr xs) := ((ArrAt.new w HX.out).after ((Below.refl _ _).alloc (Nat.le_refl _) _)).range
  have A1 : ((w.alloc (.cells (arr xs).toArray 111)).alloc (.cells #[.slice a0 t.1.length k0, .slice a1 t.2.length k1] 116)).cell? ⟨w.heap.size + 1, 0, none⟩ = some (.slice a0 t.1.length k0) := by simp
  have hW : Below w.heap.size w ((w.alloc (.cells (arr xs).toArray 111)).alloc (.cells #[.slice a0 t.1.length k0, .slice a1 t.2.length k1] 116)) := by (repeat' (first | (with_reducible exact Below.refl _ _) | (with_reducible assumption) | (with_reducible refine Below.alloc ?_ ?_ _) | (with_reducible refine Below.drew ?_) | (with_reducible refine below_drewN ?_ _) | (with_reducible refine Below.setCell ?_ ?_ _) | go_size))
  generalize (w.alloc (.cells (arr xs).toArray 111)).alloc (.cells #[.slice a0 t.1.length k0, .slice a1 t.2.length k1] 116) = w1 at A0 A1 hW ⊢
  refine wp_region_held_drew (S := fun w' => w'.rangeAt w.heap.size 0 (arr xs) ∧ w'.cell? ⟨w.heap.size + 1, 0, none⟩ = some (.slice a0 t.1.length k0)) (by kernel_rfl) ⟨A0, A1⟩ (fun hHeld => ?_)
  refine tk0 (by kernel_rfl) (by kernel_rfl) (by kernel_rfl) (by first | exact fun _ _ _ h => h | exact fun _ _ _ h => absurd h.1 (by simp)) (yieldsIf_load_mid (by rfl) _ _ rfl _ _ rfl _ _ (fun w hS => hS.1) g1 rfl g2) (by assumption) ?_
  try simp only [Act.put, List.setIfInBounds_toArray, List.set_cons_zero, List.set_cons_succ]
  refine tk1 (v := ?_) (by kernel_rfl) (by kernel_rfl) (by kernel_rfl) (by first | exact fun _ _ _ h => h | exact fun _ _ _ h => absurd h.1 (by simp)) (Or.inl ⟨by rfl, ?_⟩) (by assumption) ?_
  rotate_left 1
  focus (intro wx hSw; (try dsimp only at hSw); go_simp; try (with_reducible rfl))
  try simp only [Act.put, List.setIfInBounds_toArray, List.set_cons_zero, List.set_cons_succ]
  refine tk2 (v := ?_) (by kernel_rfl) (by kernel_rfl) (by kernel_rfl) (by first | exact fun _ _ _ h => h | exact fun _ _ _ h => absurd h.1 (by simp)) (Or.inl ⟨by rfl, ?_⟩) (by assumption) ?_
  rotate_left 1
  focus (intro wx hSw; (try dsimp only at hSw); go_simp; try (with_reducible rfl))
  try simp only [Act.put, List.setIfInBounds_toArray, List.set_cons_zero, List.set_cons_succ]
  refine tk4 (by kernel_rfl) (by kernel_rfl) (by kernel_rfl) (by first | exact fun _ _ _ h => h | exact fun _ _ _ h => absurd h.1 (by simp)) (yieldsIf_load_mid (by rfl) _ _ rfl _ _ rfl _ _ (fun w hS => hS.1) g1 rfl g2) (by assumption) ?_
  try simp only [Act.put, List.setIfInBounds_toArray, List.set_cons_zero, List.set_cons_succ]
  refine rd3 (by kernel_rfl) (fun K hK => ?_)
  go_simp
  refine (withPlaces_any xs HX.out _ t.1 _ lo (HV.out.1.keep ?_) hn HI.out).mono ?_
  · exact Carries.of lo hW.drew
  rintro e w6 ⟨rfl, hb6⟩
  refine hK.out _ _ ⟨fun j v h => cell_carry (w := w1.drew) (A0 j v h) (Carries.of 0 hb6), cell_carry (w := w1.drew) A1 (Carries.of 0 hb6)⟩ (fun hHeld => ?_)
  clear hK K
  try simp only [Act.put, List.setIfInBounds_toArray, List.set_cons_zero, List.set_cons_succ]
  refine tk5 (v := ?_) (by kernel_rfl) (by kernel_rfl) (by kernel_rfl) (by first | exact fun _ _ _ h => h | exact fun _ _ _ h => absurd h.1 (by simp)) (Or.inl ⟨by rfl, ?_⟩) (by assumption) ?_
  rotate_left 1
  focus (intro wx hSw; (try dsimp only at hSw); go_simp; try (with_reducible rfl))
  try simp only [Act.put, List.setIfInBounds_toArray, List.set_cons_zero, List.set_cons_succ]
  refine tk6 (v := ?_) (by kernel_rfl) (by kernel_rfl) (by kernel_rfl) (by first | exact fun _ _ _ h => h | exact fun _ _ _ h => absurd h.1 (by simp)) (Or.inl ⟨by rfl, ?_⟩) (by assumption) ?_
  rotate_left 1
  focus (intro wx hSw; (try dsimp only at hSw); go_simp; try (with_reducible rfl))
  try simp only [Act.put, List.setIfInBounds_toArray, List.set_cons_zero, List.set_cons_succ]
  refine wpAnyH_done (by kernel_rfl) ?_ _
  go_wp2_with fail
  go_ret
  exact ⟨rfl, hW.trans (Below.trans (b := w1.drew) (Below.refl _ _).drew (hb6.mono hW.size))⟩

end Go.Proofs.Ytigkgfdnnfmmmaa
