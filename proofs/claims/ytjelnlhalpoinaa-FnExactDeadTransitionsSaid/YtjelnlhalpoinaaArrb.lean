/-
  WALKS: onlyPlaces, isEnabled, isTransition.
-/
import Derived.Test.YtjelnlhalpoinaaArr
import Derived.Test.YtjelnlhalpoinaaSteps
namespace Go.Proofs.Ytjelnlhalpoinaa
open Go.RowKit

/-- the first k places are written, unmarked -/
def firsts (k : Nat) : List UInt8 := List.replicate k 48 ++ List.replicate (30 - k) 0
def blank : List UInt8 := List.replicate 30 48
theorem firsts_length {k : Nat} (h : k ≤ 30) : (firsts k).length = 30 := by simp [firsts]; omega
theorem firsts_zero : firsts 0 = zeros := rfl
theorem firsts_last : firsts 30 = blank := rfl
theorem blank_length : blank.length = 30 := rfl
theorem firsts_succ {k : Nat} (h : k < 30) : (firsts k).set k 48 = firsts (k + 1) := by
  apply List.ext_getElem?
  intro i
  simp only [firsts, List.getElem?_set, List.getElem?_append, List.length_append, List.length_replicate, List.getElem?_replicate]
  repeat' split
  all_goals first | rfl | omega

set_option maxRecDepth 100000 in
set_option maxHeartbeats 1000000 in
theorem onlyPlaces_any (v : Value) (ps : List Int) (w : World) (lo : Nat) (hv : IntsAt lo w v ps) (hn : ps.length ≤ 1048576) (hin : InArr ps) :
    Calls Try.prog 143 #[v] w (RetA w (putAll 49 blank ps)) := by
  have hv' := hv
  obtain ⟨ao, cap, rfl, hc, hz⟩ := hv'
  have HV := Lib.hid hv; clear hv hz
  have HI := Lib.hid hin; clear hin
  go_enter Try.func143, Try.ntmps143
  go_wp2_with fail
  go_loopw [5] (fun i wr => ∃ k : Nat, k ≤ 30 ∧ i = .int .i64 k ∧ ArrAt wr (w.heap.size + 1) (firsts k) ∧ ArrAt wr w.heap.size zeros ∧ Below w.heap.size w wr) (fun i _ => 30 - (intOf i).toNat)
  case atStart =>
    refine ⟨0, Nat.zero_le _, rfl, ?_, ?_, ?_⟩
    · have h := ArrAt.new (w.alloc (.cells (arr zeros).toArray 119)) zeros_length
      rw [World.size_alloc] at h
      rw [firsts_zero]
      exact h
    · exact (ArrAt.new w zeros_length).after ((Below.refl _ _).alloc (Nat.le_refl _) _)
    · (repeat' (first | (with_reducible exact Below.refl _ _) | (with_reducible assumption) | (with_reducible refine Below.alloc ?_ ?_ _) | (with_reducible refine Below.drew ?_) | (with_reducible refine below_drewN ?_ _) | (with_reducible refine Below.setCell ?_ ?_ _) | go_size))
  case round =>
    obtain ⟨k, hk, rfl, ha, hb, hb1⟩ := hrel
    have HA := Lib.hid ha; clear ha
    have HB := Lib.hid hb; clear hb
    by_cases hlt : k < 30
    · have c2 := HA.out.cell hlt
      have c3 := HA.out.frozen k
      have HN : Hid (ArrAt (wr.setCell ⟨w.heap.size + 1, k, none⟩ (.int .u8 48)) (w.heap.size + 1) (firsts (k + 1))) := by
        have h := HA.out.put k 48
        rw [firsts_succ hlt] at h
        exact h
      have HM := Lib.hid (HB.out.other ⟨w.heap.size + 1, k, none⟩ (.int .u8 48) (by simp))
      go_wp2_with fail
      go_roundw
      case rel => exact ⟨k + 1, by omega, by go_num, HN.out, HM.out, hb1.setCell (by simp) _⟩
      case measure => simp [intOf]; omega
    · have hkk : k = 30 := by omega
      subst hkk
      rw [firsts_last] at HA
      go_wp2_with (refine wpList_load_row rfl 119 _ rfl (w.heap.size + 1) rfl _ _ _ _ HA.out.1 Try.underlying119 rfl (infoArr blank_length) ?_)
      refine (withPlaces_any blank blank_length _ ps _ lo (HV.out.keep (Carries.of lo hb1)) hn HI.out).mono ?_
      rintro e w1 ⟨rfl, hb2⟩
      have hw1 : Below w.heap.size w w1 := hb1.trans (hb2.mono hb1.size)
      have hl : (putAll 49 blank ps).length = 30 := by rw [putAll_length]; exact blank_length
      have HC := Lib.hid (HB.out.after hb2)
      go_wp2_with (refine wpList_store_row rfl 119 _ _ rfl w.heap.size _ rfl rfl _ _ HC.out.1 (infoArr hl) (by simp [arr_length, hl, zeros_length]) (arr_all _) ?_)
      refine bodyPost_ret (v := .agg (arr (putAll 49 blank ps)).toArray) (results_cell_row rfl _ _ w.heap.size _ _ _ _ rfl (setRow_heap _ _ _ _ _ _ HC.out.1) Try.underlying119 rfl (infoArr hl)) rfl ⟨rfl, ?_⟩
      exact below_setRow hw1 (Nat.le_refl _) _

set_option maxHeartbeats 400000 in
theorem isTransition_any (v : Value) (n : NetD) (t : Int) (w : World) (lo : Nat) (hv : NetAt lo w v n) (hsm : SmallTrs n.ts) :
    Calls Try.prog 75 #[v, .int .i64 t] w (RetB w (decide (0 ≤ t ∧ t < n.ts.length))) := by
  obtain ⟨hp0, hp1, u, rfl, ht⟩ := hv
  obtain ⟨ao, cap, rfl, hc, hz⟩ := ht
  have hl := hsm.1
  clear hz hsm
  by_cases h1 : 0 ≤ t
  · by_cases h2 : t < n.ts.length
    · rw [decide_eq_true (⟨h1, h2⟩ : 0 ≤ t ∧ t < n.ts.length)]
      go_enter Try.func75, Try.ntmps75
      go_wp2_with fail
      go_ret
      exact ⟨rfl, by (repeat' (first | (with_reducible exact Below.refl _ _) | (with_reducible assumption) | (with_reducible refine Below.alloc ?_ ?_ _) | (with_reducible refine Below.drew ?_) | (with_reducible refine below_drewN ?_ _) | (with_reducible refine Below.setCell ?_ ?_ _) | go_size))⟩
    · rw [decide_eq_false (fun h => h2 h.2 : ¬ (0 ≤ t ∧ t < n.ts.length))]
      go_enter Try.func75, Try.ntmps75
      go_wp2_with fail
      go_ret
      exact ⟨rfl, by (repeat' (first | (with_reducible exact Below.refl _ _) | (with_reducible assumption) | (with_reducible refine Below.alloc ?_ ?_ _) | (with_reducible refine Below.drew ?_) | (with_reducible refine below_drewN ?_ _) | (with_reducible refine Below.setCell ?_ ?_ _) | go_size))⟩
  · rw [decide_eq_false (fun h => h1 h.1 : ¬ (0 ≤ t ∧ t < n.ts.length))]
    go_enter Try.func75, Try.ntmps75
    go_wp2_with fail
    go_ret
    exact ⟨rfl, by (repeat' (first | (with_reducible exact Below.refl _ _) | (with_reducible assumption) | (with_reducible refine Below.alloc ?_ ?_ _) | (with_reducible refine Below.drew ?_) | (with_reducible refine below_drewN ?_ _) | (with_reducible refine Below.setCell ?_ ?_ _) | go_size))⟩

set_option maxRecDepth 100000 in
set_option maxHeartbeats 1000000 in
theorem isEnabled_any (xs : List UInt8) (hx : xs.length = 30) (v0 v1 : Value) (t : Tr) (w : World) (lo : Nat) (hv : TrAt lo w v0 v1 t) (hn : t.1.length ≤ 1048576) (hin : InArr t.1) :
    Calls Try.prog 90 #[.agg (arr xs).toArray, .agg #[v0, v1]] w (RetB w (putAll 49 xs t.1 == xs)) := by
  have hv' := hv
  obtain ⟨⟨a0, k0, rfl, _, _⟩, ⟨a1, k1, rfl, _, _⟩⟩ := hv'
  have HV := Lib.hid hv; clear hv
  have HI := Lib.hid hin; clear hin
  have HX := Lib.hid hx
  have hl : (putAll 49 xs t.1).length = 30 := by rw [putAll_length]; exact hx
  have heq := fun w => eqlArr (putAll 49 xs t.1) xs hl hx w
  generalize hR : (putAll 49 xs t.1 == xs) = r at heq ⊢
  have HR := Lib.hid hR; clear hR
  have HL := Lib.hid hl; clear hl
  have g1 := Try.underlying119
  have g2 : (Try.prog.info? 119).map (·.size) = some (arr xs).length := by rw [arr_length, hx]; exact Try.infoArr
  have g3 : (arr xs).length = 30 := by rw [arr_length, hx]
  have g4 := arr_one xs
  clear hx
  go_enter Try.func90, Try.ntmps90
  go_wp2_with fail
  have A0 : ((w.alloc (.cells (arr xs).toArray 119)).alloc (.cells #[.slice a0 t.1.length k0, .slice a1 t.2.length k1] 53)).rangeAt w.heap.size 0 (arr xs) := ((ArrAt.new w HX.out).after ((Below.refl _ _).alloc (Nat.le_refl _) _)).range
  have A1 : ((w.alloc (.cells (arr xs).toArray 119)).alloc (.cells #[.slice a0 t.1.length k0, .slice a1 t.2.length k1] 53)).cell? ⟨w.heap.size + 1, 0, none⟩ = some (.slice a0 t.1.length k0) := by simp
  have hW : Below w.heap.size w ((w.alloc (.cells (arr xs).toArray 119)).alloc (.cells #[.slice a0 t.1.length k0, .slice a1 t.2.length k1] 53)) := by (repeat' (first | (with_reducible exact Below.refl _ _) | (with_reducible assumption) | (with_reducible refine Below.alloc ?_ ?_ _) | (with_reducible refine Below.drew ?_) | (with_reducible refine below_drewN ?_ _) | (with_reducible refine Below.setCell ?_ ?_ _) | go_size))
  generalize (w.alloc (.cells (arr xs).toArray 119)).alloc (.cells #[.slice a0 t.1.length k0, .slice a1 t.2.length k1] 53) = w1 at A0 A1 hW ⊢
  refine wp_region_held_drew (S := fun w' => w'.rangeAt w.heap.size 0 (arr xs) ∧ w'.cell? ⟨w.heap.size + 1, 0, none⟩ = some (.slice a0 t.1.length k0)) (by kernel_rfl) ⟨A0, A1⟩ (fun hHeld => ?_)
  refine tk0 (by kernel_rfl) (by kernel_rfl) (by kernel_rfl) (by first | exact fun _ _ _ h => h | exact fun _ _ _ h => absurd h.1 (by simp)) (yieldsIf_load_mid (by rfl) _ _ rfl _ _ rfl _ _ (fun w hS => hS.1) g1 rfl g2) (by assumption) ?_
  try simp only [Act.put, List.setIfInBounds_toArray, List.set_cons_zero, List.set_cons_succ]
  refine tk1 (v := ?_) (by kernel_rfl) (by kernel_rfl) (by kernel_rfl) (by first | exact fun _ _ _ h => h | exact fun _ _ _ h => absurd h.1 (by simp)) (Or.inl ⟨by rfl, ?_⟩) (by assumption) ?_
  rotate_left 1
  focus (intro wx hSw; (try dsimp only at hSw); go_simp; try (with_reducible rfl))
  try simp only [Act.put, List.setIfInBounds_toArray, List.set_cons_zero, List.set_cons_succ]
  refine tk2 (v := ?_) (by kernel_rfl) (by kernel_rfl) (by kernel_rfl) (by first | exact fun _ _ _ h => h | exact fun _ _ _ h => absurd h.1 (by simp)) (Or.inl ⟨by rfl, ?_⟩) (by assumption) ?_
  rotate_left 1
  focus (intro wx hSw; (try dsimp only at hSw); go_simp; try (with_reducible rfl))
  try simp only [Act.put, List.setIfInBounds_toArray, List.set_cons_zero, List.set_cons_succ]
  refine tk4 (by kernel_rfl) (by kernel_rfl) (by kernel_rfl) (by first | exact fun _ _ _ h => h | exact fun _ _ _ h => absurd h.1 (by simp)) (yieldsIf_load_mid (by rfl) _ _ rfl _ _ rfl _ _ (fun w hS => hS.1) g1 rfl g2) (by assumption) ?_
  try simp only [Act.put, List.setIfInBounds_toArray, List.set_cons_zero, List.set_cons_succ]
  refine rd3 (by kernel_rfl) (fun K hK => ?_)
  go_simp
  refine (withPlaces_any xs HX.out _ t.1 _ lo (HV.out.1.keep ?_) hn HI.out).mono ?_
  · exact Carries.of lo hW.drew
  rintro e w6 ⟨rfl, hb6⟩
  refine hK.out _ _ ⟨fun j v h => cell_carry (w := w1.drew) (A0 j v h) (Carries.of 0 hb6), cell_carry (w := w1.drew) A1 (Carries.of 0 hb6)⟩ (fun hHeld => ?_)
  clear hK K
  try simp only [Act.put, List.setIfInBounds_toArray, List.set_cons_zero, List.set_cons_succ]
  refine tk5 (v := ?_) (by kernel_rfl) (by kernel_rfl) (by kernel_rfl) (by first | exact fun _ _ _ h => h | exact fun _ _ _ h => absurd h.1 (by simp)) (Or.inl ⟨by rfl, ?_⟩) (by assumption) ?_
  rotate_left 1
  focus (intro wx hSw; (try dsimp only at hSw); go_simp; try (with_reducible rfl))
  try simp only [Act.put, List.setIfInBounds_toArray, List.set_cons_zero, List.set_cons_succ]
  refine tk6 (v := ?_) (by kernel_rfl) (by kernel_rfl) (by kernel_rfl) (by first | exact fun _ _ _ h => h | exact fun _ _ _ h => absurd h.1 (by simp)) (Or.inl ⟨by rfl, ?_⟩) (by assumption) ?_
  rotate_left 1
  focus (intro wx hSw; (try dsimp only at hSw); go_simp; try (with_reducible rfl))
  try simp only [Act.put, List.setIfInBounds_toArray, List.set_cons_zero, List.set_cons_succ]
  refine wpAnyH_done (by kernel_rfl) ?_ _
  go_wp2_with fail
  go_ret
  exact ⟨rfl, hW.trans (Below.trans (b := w1.drew) (Below.refl _ _).drew (hb6.mono hW.size))⟩

end Go.Proofs.Ytjelnlhalpoinaa
