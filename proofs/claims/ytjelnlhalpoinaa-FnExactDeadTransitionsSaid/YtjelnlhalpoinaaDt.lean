/-
  WALKS: transitionsAlong; DeadTransitions of the program and of the model.
-/
import Derived.Test.YtjelnlhalpoinaaRgi
import Derived.Test.YtjelnlhalpoinaaProdi
import Derived.Test.YtjelnlhalpoinaaStgt
import Derived.Test.YtjelnlhalpoinaaOvk
namespace Go.Proofs.Ytjelnlhalpoinaa
open Go.RowKit

def alongL (ms : List Mv) : List Int := ms.map (fun m => m.2.1)
theorem alongL_length (ms : List Mv) : (alongL ms).length = ms.length := by simp [alongL]
theorem alongL_get {ms : List Mv} {i : Nat} (h : i < ms.length) : (alongL ms).getD i 0 = mvB ms i := by simp [alongL, mvB, List.getD, h]
def dtF (ms : List Mv) (k : Nat) : Bool := !hasB (alongL ms) (k : Int)
def dtB (s : StgD) (r : RgD) : Bool := goodS s && goodR r
def dtL (s : StgD) (r : RgD) : List Int := if dtB s r = true then enTo (dtF r.moves) s.net.ts.length else []
theorem dt_badS {s : StgD} {r : RgD} (h : goodS s = false) : dtB s r = false := by unfold dtB; rw [h]; rfl
theorem dt_badR {s : StgD} {r : RgD} (h : goodR r = false) : dtB s r = false := by unfold dtB; rw [h, Bool.and_false]
theorem dt_good {s : StgD} {r : RgD} (h : goodS s = true) (h2 : goodR r = true) : dtB s r = true := by unfold dtB; rw [h, h2]; rfl
theorem dtL_no {s : StgD} {r : RgD} (h : dtB s r = false) : dtL s r = [] := by unfold dtL; rw [h]; rfl
theorem dtL_yes {s : StgD} {r : RgD} (h : dtB s r = true) : dtL s r = enTo (dtF r.moves) s.net.ts.length := by unfold dtL; rw [h]; rfl
theorem dtL_small {s : StgD} {r : RgD} (h : SmallStg s) : (dtL s r).length ≤ 1048576 := by
  unfold dtL
  by_cases hb : dtB s r = true
  · rw [if_pos hb]; exact Nat.le_trans (enTo_length _ _) h.1.1
  · rw [if_neg hb]; exact Nat.zero_le _
theorem acopied_step (ms : List Mv) (k : Nat) (h : k < ms.length) : (fun j => if j = k then Value.int .i64 (mvB ms k) else copied (alongL ms) k j) = copied (alongL ms) (k + 1) := by
  have := copied_step (alongL ms) k
  rw [alongL_get h] at this
  exact this

set_option maxRecDepth 100000 in
set_option maxHeartbeats 1000000 in
theorem transitionsAlong_any (v : Value) (ms : List Mv) (w : World) (lo : Nat) (hv : MovesAt lo w v ms) (hn : ms.length ≤ 1048576) :
    Calls Try.prog 107 #[v] w (RetInts w (alongL ms)) := by
  obtain ⟨ao, cap, rfl, hc, hz⟩ := hv
  have hmk := run_make_row' (P := Try.prog) 51 3 (.int .i64 0) 8 Try.underlying51 Try.infoInt rfl .i64 .i64 ms.length (by omega) (by omega)
  have HF := Lib.hid hz; clear hz
  go_enter Try.func107, Try.ntmps107
  go_wp2_with fail
  go_loopw [11] (fun i wr => ∃ k : Nat, k ≤ ms.length ∧ i = .int .i64 k ∧ Hid (wr.rowIs w.heap.size 3 ms.length (copied (alongL ms) k)) ∧ Below w.heap.size w wr ∧ w.heap.size < wr.heap.size) (fun i _ => ms.length - (intOf i).toNat)
  case atStart => exact ⟨0, Nat.zero_le _, rfl, (World.rowIs_made _ _ _ _).congr (fun i _ => by simp [copied]), by (repeat' (first | (with_reducible exact Below.refl _ _) | (with_reducible assumption) | (with_reducible refine Below.alloc ?_ ?_ _) | (with_reducible refine Below.drew ?_) | (with_reducible refine below_drewN ?_ _) | (with_reducible refine Below.setCell ?_ ?_ _) | go_size)), by simp⟩
  case round =>
    obtain ⟨k, hk, rfl, hrow, hb1, zz⟩ := hrel
    by_cases hlt : k < ms.length
    · rcases HF.out with h0 | ⟨b, off, rfl, hlo, hcell⟩
      · omega
      obtain ⟨q0, q1, q2⟩ := hcell k hlt
      have d0 := Carries.of lo hb1 _ _ hlo q0
      have d1 := Carries.of lo hb1 _ _ hlo q1
      have d2 := Carries.of lo hb1 _ _ hlo q2
      clear hcell q0 q1 q2
      try dsimp only at d0 d1 d2
      have hst := acopied_step ms k hlt
      generalize mvF ms k = x at d0
      generalize mvB ms k = y at d1 hst
      generalize mvT ms k = z at d2
      have HST := Lib.hid hst; clear hst
      have hbA : Below wr.heap.size wr (wr.alloc (.cells #[.int .i64 x, .int .i64 y, .int .i64 z] 142)) := (Below.refl _ _).alloc (Nat.le_refl _) _
      have hrA := hrow.out.of_block (hbA.block _ zz)
      have c2 := hrA.cell hlt
      have f2 := hrA.frozen k
      have HR3 := Lib.hid ((hrow.out.set k (.int .i64 y)).alloc (.cells #[.int .i64 x, .int .i64 y, .int .i64 z] 142))
      have HBF := Lib.hid ((hb1.setCell (p := ⟨w.heap.size, k, none⟩) (Nat.le_refl _) (.int .i64 y)).alloc (by simp; omega) (.cells #[.int .i64 x, .int .i64 y, .int .i64 z] 142))
      clear hrA hrow
      go_wp2_with fail
      go_roundw
      case rel => exact ⟨k + 1, by omega, by go_num, by rw [← HST.out]; exact HR3.out, HBF.out, by simp; omega⟩
      case measure => simp [intOf]; omega
    · have hkk : k = ms.length := by omega
      subst hkk
      have HI : Hid (IntsAt w.heap.size wr (.slice (some ⟨w.heap.size, 0, none⟩) ms.length ms.length) (alongL ms)) := by
        have h := ints_of_row (zs := alongL ms) (by rw [alongL_length]; exact hrow.out) (fun i hi => by unfold copied; rw [if_pos (by rw [alongL_length] at hi; omega)])
        rw [alongL_length] at h
        exact h
      go_wp2_with fail
      go_ret
      exact ⟨_, rfl, HI.out, hb1⟩

set_option maxRecDepth 100000 in
set_option maxHeartbeats 2000000 in
theorem DeadTransitions_any (v u : Value) (s : StgD) (r : RgD) (w : World) (lo lo' : Nat) (hv : StgAt lo w v s) (hu : RgAt lo' w u r) (hs : SmallStg s) (hs2 : SmallRg r) :
    Calls Try.prog 49 #[v, u] w (RetOv w (dtL s r) (dtB s r)) := by
  obtain ⟨a0, c0, a1, c1, a2, c2, rfl, hn_, hsg_, hl_⟩ := hv.form
  clear hn_ hsg_ hl_
  obtain ⟨b0, d0, b1, d1, rfl, hm_, hmv⟩ := hu.form
  clear hm_
  have e1 : goodS s = false → dtB s r = false := dt_badS
  have e2 : goodR r = false → dtB s r = false := dt_badR
  have e3 : goodS s = true → goodR r = true → dtB s r = true := dt_good
  have e4 : dtB s r = false → dtL s r = [] := dtL_no
  have e5 : dtB s r = true → dtL s r = enTo (dtF r.moves) s.net.ts.length := dtL_yes
  have hms := hs2.2
  have hts := hs.1.1
  obtain ⟨BB, hB⟩ : ∃ x, x = dtB s r := ⟨_, rfl⟩
  obtain ⟨LL, hL⟩ : ∃ x, x = dtL s r := ⟨_, rfl⟩
  rw [← hB] at e1 e2 e3 e4 e5 ⊢
  rw [← hL] at e4 e5 ⊢
  clear hB hL
  have HV := Lib.hid hv; clear hv
  have HU := Lib.hid hu; clear hu
  have HS := Lib.hid hs; clear hs
  have HS2 := Lib.hid hs2; clear hs2
  obtain ⟨p, hp⟩ : ∃ x, x = s.net.places := ⟨_, rfl⟩
  obtain ⟨m, hm⟩ : ∃ x, x = s.net.ts.length := ⟨_, rfl⟩
  obtain ⟨ns, hns⟩ : ∃ x, x = s.sigs.length := ⟨_, rfl⟩
  obtain ⟨nl, hnl⟩ : ∃ x, x = s.labs.length := ⟨_, rfl⟩
  obtain ⟨st, hst⟩ : ∃ x, x = s.start := ⟨_, rfl⟩
  obtain ⟨nm, hnm⟩ : ∃ x, x = r.marks.length := ⟨_, rfl⟩
  obtain ⟨ms, hmm⟩ : ∃ x, x = r.moves := ⟨_, rfl⟩
  rw [← hp, ← hm, ← hns, ← hnl, ← hst] at HV ⊢
  rw [← hnm, ← hmm] at HU ⊢
  rw [← hm, ← hmm] at e5
  rw [← hmm] at hmv hms
  rw [← hm] at hts
  clear hp hm hns hnl hst hnm hmm
  have E1 := Lib.hid e1; clear e1
  have E2 := Lib.hid e2; clear e2
  have E3 := Lib.hid e3; clear e3
  have E4 := Lib.hid e4; clear e4
  have E5 := Lib.hid e5; clear e5
  obtain ⟨f, hf⟩ : ∃ x, x = dtF ms := ⟨_, rfl⟩
  rw [← hf] at E5
  have HFK : Hid (∀ k : Nat, f k = !hasB (alongL ms) (k : Int)) := by unfold Hid; intro k; rw [hf]; rfl
  clear hf
  have HMV := Lib.hid hmv; clear hmv
  go_enter Try.func49, Try.ntmps49
  go_wp2_with fail
  refine (IsValidSTG_any _ s _ lo (HV.out.keep ?_) HS.out).mono ?_
  · (repeat' (first | (with_reducible exact Carries.refl _ _) | (with_reducible assumption) | (with_reducible refine Carries.alloc ?_ _) | (with_reducible refine Carries.drew ?_) | (with_reducible refine Carries.drewN ?_ _) | (with_reducible refine Carries.set ?_ ?_ _) | go_size))
  rintro e w1 ⟨rfl, hb⟩
  have hw1 : Below w.heap.size w w1 := by
    refine Below.trans ?_ (hb.mono ?_)
    · (repeat' (first | (with_reducible exact Below.refl _ _) | (with_reducible assumption) | (with_reducible refine Below.alloc ?_ ?_ _) | (with_reducible refine Below.drew ?_) | (with_reducible refine below_drewN ?_ _) | (with_reducible refine Below.setCell ?_ ?_ _) | go_size))
    · simp; omega
  have x1 : w1.cell? ⟨w.heap.size, 1, none⟩ = some (.slice a0 m c0) := cell_carry (by simp) (Carries.of 0 hb)
  have y0 : w1.cell? ⟨w.heap.size + 1, 0, none⟩ = some (.slice b0 nm d0) := cell_carry (by simp) (Carries.of 0 hb)
  have y1 : w1.cell? ⟨w.heap.size + 1, 1, none⟩ = some (.slice b1 ms.length d1) := cell_carry (by simp) (Carries.of 0 hb)
  clear hb
  cases hg : goodS s with
  | false =>
    have eb := E1.out hg
    have el := E4.out eb
    subst eb; subst el
    clear hg
    go_wp2_with fail
    go_ret2
    exact ⟨_, rfl, ow_nil _ _, hw1⟩
  | true =>
  have E3b := Lib.hid (E3.out hg)
  clear E1 E3 hg
  go_wp2_with fail
  refine (isReach_any _ r _ lo' (HU.out.keep (Carries.of lo' hw1)) HS2.out).mono ?_
  rintro e w2 ⟨rfl, hb⟩
  have hw2 : Below w.heap.size w w2 := hw1.trans (hb.mono hw1.size)
  have x1 := cell_carry x1 (Carries.of 0 hb)
  have y0 := cell_carry y0 (Carries.of 0 hb)
  have y1 := cell_carry y1 (Carries.of 0 hb)
  clear hb
  cases hg2 : goodR r with
  | false =>
    have eb := E2.out hg2
    have el := E4.out eb
    subst eb; subst el
    clear hg2
    go_wp2_with fail
    go_ret2
    exact ⟨_, rfl, ow_nil _ _, hw2⟩
  | true =>
  have eb := E3b.out hg2
  have HE := Lib.hid (E5.out eb)
  clear E2 E3b E4 E5 hg2
  subst eb
  go_wp2_with fail
  refine (transitionsAlong_any _ ms _ lo' (HMV.out.keep (Carries.of lo' hw2)) hms).mono ?_
  rintro e W ⟨vf, rfl, hfi, hb⟩
  have hW : Below w.heap.size w W := hw2.trans (hb.mono hw2.size)
  have zW := hW.size
  have x1 := cell_carry x1 (Carries.of 0 hb)
  clear hb y0 y1
  have hal := alongL_length ms
  obtain ⟨af, cf, rfl, hcf, _⟩ := id hfi
  rw [hal] at hfi hcf ⊢
  have HFI := Lib.hid hfi; clear hfi
  have hll : (alongL ms).length ≤ 4611686018427387904 := by omega
  have HLL := Lib.hid hll; clear hll hal
  go_wp2_with fail
  go_loopw [7, 24] (fun l i wr => ∃ k : Nat, k ≤ m ∧ i = .int .i64 k ∧ Hid (wr.ownsRow W.heap.size 3 1 l (enTo f k).length (intCells (enTo f k))) ∧ Below W.heap.size W wr) (fun _ i _ => m - (intOf i).toNat)
  case atStart => exact ⟨0, Nat.zero_le _, rfl, World.ownsRow_nil _ _ _ _, Below.refl _ _⟩
  case round =>
    obtain ⟨k, hk, rfl, hown, hb1⟩ := hrel
    have zz1 := hb1.size
    by_cases hlt : k < m
    · have hle := enTo_length f k
      have HEN1 := Lib.hid (fun h => enTo_true (f := f) (k := k) h)
      have HEN0 := Lib.hid (fun h => enTo_false (f := f) (k := k) h)
      have HKK := Lib.hid (HFK.out k)
      go_wp2_with fail
      refine (Containsi_any _ (alongL ms) (k : Int) _ _ (HFI.out.keep (Carries.of _ hb1)) HLL.out).mono ?_
      rintro e w3 ⟨rfl, hb⟩
      have hw3 : Below W.heap.size W w3 := hb1.trans (hb.mono zz1)
      have zz3 := hw3.size
      have HO2 := Lib.hid (owns_after hown.out hb)
      clear hown hb
      cases hd : hasB (alongL ms) (k : Int) with
      | false =>
        have hfk := HKK.out
        rw [hd] at hfk
        have HEN := Lib.hid (HEN1.out hfk)
        clear hfk hd
        go_wp2_with (refine wpList_append_ints rfl (.tmp 31) (.tmp 33) rfl W.heap.size 0 _ _ _ rfl (World.ownsRow.alloc HO2.out _) _ [(k : Int)] rfl (ints_one _ _ _) (by simp; omega) (by simp; omega) ?_; intro v' w' hown' hgrow)
        have hw4 : Below W.heap.size W w' := (hw3.alloc zz3 _).grown hgrow (by simp; omega) (fun g hg => (HO2.out.lt g hg).1)
        have HO4 := Lib.hid (show w'.ownsRow W.heap.size 3 1 v' (enTo f (k + 1)).length (intCells (enTo f (k + 1))) by rw [HEN.out, List.length_append, intCells_append]; exact hown')
        clear hown' hgrow
        go_wp2_with fail
        go_roundw
        case rel => exact ⟨k + 1, by omega, by go_num, HO4, hw4⟩
        case measure => simp [intOf]; omega
      | true =>
        have hfk := HKK.out
        rw [hd] at hfk
        have HO4 := Lib.hid (show w3.ownsRow W.heap.size 3 1 u7 (enTo f (k + 1)).length (intCells (enTo f (k + 1))) by rw [HEN0.out hfk]; exact HO2.out)
        clear hfk hd
        go_wp2_with fail
        go_roundw
        case rel => exact ⟨k + 1, by omega, by go_num, HO4, hw3⟩
        case measure => simp [intOf]; omega
    · have hkk : k = m := by omega
      subst hkk
      have HO2 : Hid (IntsOw w.heap.size wr u7 LL) := by
        have h := ow_of_owns (Go.Joins.ownsRow_le hown.out zW)
        rw [← HE.out] at h
        exact h
      clear hown
      go_wp2_with fail
      go_ret2
      exact ⟨_, rfl, HO2.out, hW.trans (hb1.mono zW)⟩

set_option maxRecDepth 100000 in
set_option maxHeartbeats 4000000 in
theorem specDeadTransitions_any (v u : Value) (s : StgD) (r : RgD) (w : World) (lo lo' : Nat) (hv : StgAt lo w v s) (hu : RgAt lo' w u r) (hs : SmallStg s) (hs2 : SmallRg r) :
    Calls Try.prog 48 #[v, u] w (RetOv w (dtL s r) (dtB s r)) := by
  obtain ⟨a0, c0, a1, c1, a2, c2, rfl, hn_, hsg_, hl_⟩ := hv.form
  clear hn_ hsg_ hl_
  obtain ⟨b0, d0, b1, d1, rfl, hm_, hmv⟩ := hu.form
  clear hm_
  have e1 : goodS s = false → dtB s r = false := dt_badS
  have e2 : goodR r = false → dtB s r = false := dt_badR
  have e3 : goodS s = true → goodR r = true → dtB s r = true := dt_good
  have e4 : dtB s r = false → dtL s r = [] := dtL_no
  have e5 : dtB s r = true → dtL s r = enTo (dtF r.moves) s.net.ts.length := dtL_yes
  have hms := hs2.2
  have hts := hs.1.1
  obtain ⟨BB, hB⟩ : ∃ x, x = dtB s r := ⟨_, rfl⟩
  obtain ⟨LL, hL⟩ : ∃ x, x = dtL s r := ⟨_, rfl⟩
  rw [← hB] at e1 e2 e3 e4 e5 ⊢
  rw [← hL] at e4 e5 ⊢
  clear hB hL
  have HV := Lib.hid hv; clear hv
  have HU := Lib.hid hu; clear hu
  have HS := Lib.hid hs; clear hs
  have HS2 := Lib.hid hs2; clear hs2
  obtain ⟨p, hp⟩ : ∃ x, x = s.net.places := ⟨_, rfl⟩
  obtain ⟨m, hm⟩ : ∃ x, x = s.net.ts.length := ⟨_, rfl⟩
  obtain ⟨ns, hns⟩ : ∃ x, x = s.sigs.length := ⟨_, rfl⟩
  obtain ⟨nl, hnl⟩ : ∃ x, x = s.labs.length := ⟨_, rfl⟩
  obtain ⟨st, hst⟩ : ∃ x, x = s.start := ⟨_, rfl⟩
  obtain ⟨nm, hnm⟩ : ∃ x, x = r.marks.length := ⟨_, rfl⟩
  obtain ⟨ms, hmm⟩ : ∃ x, x = r.moves := ⟨_, rfl⟩
  rw [← hp, ← hm, ← hns, ← hnl, ← hst] at HV ⊢
  rw [← hnm, ← hmm] at HU ⊢
  rw [← hm, ← hmm] at e5
  rw [← hmm] at hmv hms
  rw [← hm] at hts
  clear hp hm hns hnl hst hnm hmm
  have E1 := Lib.hid e1; clear e1
  have E2 := Lib.hid e2; clear e2
  have E3 := Lib.hid e3; clear e3
  have E4 := Lib.hid e4; clear e4
  have E5 := Lib.hid e5; clear e5
  obtain ⟨f, hf⟩ : ∃ x, x = dtF ms := ⟨_, rfl⟩
  rw [← hf] at E5
  have HFK : Hid (∀ k : Nat, f k = !hasB (alongL ms) (k : Int)) := by unfold Hid; intro k; rw [hf]; rfl
  clear hf
  have HMV := Lib.hid hmv; clear hmv
  go_enter Try.func48, Try.ntmps48
  go_wp2_with fail
  refine (l2Good_any _ s _ lo (HV.out.keep ?_) HS.out).mono ?_
  · (repeat' (first | (with_reducible exact Carries.refl _ _) | (with_reducible assumption) | (with_reducible refine Carries.alloc ?_ _) | (with_reducible refine Carries.drew ?_) | (with_reducible refine Carries.drewN ?_ _) | (with_reducible refine Carries.set ?_ ?_ _) | go_size))
  rintro e w1 ⟨rfl, hb⟩
  have hw1 : Below w.heap.size w w1 := by
    refine Below.trans ?_ (hb.mono ?_)
    · (repeat' (first | (with_reducible exact Below.refl _ _) | (with_reducible assumption) | (with_reducible refine Below.alloc ?_ ?_ _) | (with_reducible refine Below.drew ?_) | (with_reducible refine below_drewN ?_ _) | (with_reducible refine Below.setCell ?_ ?_ _) | go_size))
    · simp; omega
  have x1 : w1.cell? ⟨w.heap.size, 1, none⟩ = some (.slice a0 m c0) := cell_carry (by simp) (Carries.of 0 hb)
  have y0 : w1.cell? ⟨w.heap.size + 1, 0, none⟩ = some (.slice b0 nm d0) := cell_carry (by simp) (Carries.of 0 hb)
  have y1 : w1.cell? ⟨w.heap.size + 1, 1, none⟩ = some (.slice b1 ms.length d1) := cell_carry (by simp) (Carries.of 0 hb)
  clear hb
  cases hg : goodS s with
  | false =>
    have eb := E1.out hg
    have el := E4.out eb
    subst eb; subst el
    clear hg
    go_wp2_with fail
    go_ret2
    exact ⟨_, rfl, ow_nil _ _, hw1⟩
  | true =>
  have E3b := Lib.hid (E3.out hg)
  clear E1 E3 hg
  go_wp2_with fail
  refine (l4Good_any _ r _ lo' (HU.out.keep (Carries.of lo' hw1)) HS2.out).mono ?_
  rintro e W ⟨rfl, hb⟩
  have hW : Below w.heap.size w W := hw1.trans (hb.mono hw1.size)
  have zW := hW.size
  have x1 := cell_carry x1 (Carries.of 0 hb)
  have y0 := cell_carry y0 (Carries.of 0 hb)
  have y1 := cell_carry y1 (Carries.of 0 hb)
  clear hb
  cases hg2 : goodR r with
  | false =>
    have eb := E2.out hg2
    have el := E4.out eb
    subst eb; subst el
    clear hg2
    go_wp2_with fail
    go_ret2
    exact ⟨_, rfl, ow_nil _ _, hW⟩
  | true =>
  have eb := E3b.out hg2
  have HE := Lib.hid (E5.out eb)
  clear E2 E3b E4 E5 hg2
  subst eb
  obtain ⟨am, cm, hvv, hcm, hzm⟩ := HMV.out
  injection hvv with q1 q2 q3
  subst q1; subst q3; clear q2
  have HF := Lib.hid hzm; clear hzm HMV
  have hal := alongL_length ms
  have HAL := Lib.hid hal; clear hal
  go_wp2_with fail
  go_loopw [6, 23] (fun l i wr => ∃ k : Nat, k ≤ m ∧ i = .int .i64 k ∧ Hid (wr.ownsRow W.heap.size 3 1 l (enTo f k).length (intCells (enTo f k))) ∧ Below W.heap.size W wr) (fun _ i _ => m - (intOf i).toNat)
  case atStart => exact ⟨0, Nat.zero_le _, rfl, World.ownsRow_nil _ _ _ _, Below.refl _ _⟩
  case round =>
    obtain ⟨k, hk, rfl, hown, hb1⟩ := hrel
    have zz1 := hb1.size
    by_cases hlt : k < m
    · have hle := enTo_length f k
      have HEN1 := Lib.hid (fun h => enTo_true (f := f) (k := k) h)
      have HEN0 := Lib.hid (fun h => enTo_false (f := f) (k := k) h)
      have HKK := Lib.hid (HFK.out k)
      have x1 := cell_keep x1 hb1 (Nat.le_refl _)
      have y1 := cell_keep y1 hb1 (Nat.le_refl _)
      have HO1 := Lib.hid hown.out; clear hown
      obtain ⟨Wo, hWo⟩ : ∃ W2, W2 = wr := ⟨_, rfl⟩
      subst hWo
      obtain ⟨lv, hlv⟩ : ∃ x, x = u6 := ⟨_, rfl⟩
      subst hlv
      go_wp2_with fail
      go_loopw [8, 29] (fun mv i wr => ∃ (j : Nat) (met : Bool), j ≤ ms.length ∧ i = .int .i64 j ∧ mv = .bool met ∧ Hid (met = true → hasB (alongL ms) (k : Int) = true) ∧ Hid (met = false → ∀ q, q < j → mvB ms q ≠ (k : Int)) ∧ Below Wo.heap.size Wo wr) (fun _ i _ => ms.length - (intOf i).toNat)
      case atStart => exact ⟨0, false, Nat.zero_le _, rfl, rfl, (fun h => by cases h), fun _ q hq => absurd hq (Nat.not_lt_zero _), Below.refl _ _⟩
      case round =>
        obtain ⟨j, met, hj, rfl, rfl, hm1, hm0, hb2⟩ := hrel
        have zz2 := hb2.size
        by_cases hlt2 : j < ms.length
        · rcases HF.out with h0 | ⟨b, off, rfl, hlo, hcell⟩
          · omega
          obtain ⟨q0, q1, q2⟩ := hcell j hlt2
          have hbw := (hW.trans (hb1.mono zW)).trans (hb2.mono (Nat.le_trans zW zz1))
          have d0 := Carries.of lo' hbw _ _ hlo q0
          have d1 := Carries.of lo' hbw _ _ hlo q1
          have d2 := Carries.of lo' hbw _ _ hlo q2
          clear hcell q0 q1 q2 hbw
          try dsimp only at d0 d1 d2
          have hget := alongL_get hlt2
          have hsucc : mvB ms j ≠ (k : Int) → (met = false → ∀ q, q < j + 1 → mvB ms q ≠ (k : Int)) := fun h hm q hq => by
            by_cases e : q = j
            · subst e; exact h
            · exact hm0.out hm q (by omega)
          have hyes : mvB ms j = (k : Int) → hasB (alongL ms) (k : Int) = true := fun h => hasB_true (k := j) (by rw [HAL.out]; exact hlt2) (by rw [hget]; exact h)
          generalize mvF ms j = x at d0
          generalize mvB ms j = y at d1 hsucc hyes
          generalize mvT ms j = z at d2
          have HSU := Lib.hid hsucc; clear hsucc hget
          have HYE := Lib.hid hyes; clear hyes
          have HB3 := Lib.hid (hb2.alloc zz2 (.cells #[.int .i64 x, .int .i64 y, .int .i64 z] 142))
          cases hme : met with
          | true =>
            subst hme
            have HM1 := Lib.hid hm1.out
            clear hm1 hm0
            go_wp2_with fail
            go_roundw
            case rel => exact ⟨j + 1, true, by omega, by go_num, rfl, HM1.out, (fun h => by cases h), HB3.out⟩
            case measure => simp [intOf]; omega
          | false =>
            subst hme
            clear hm1 hm0
            by_cases hy : y = (k : Int)
            · have HM1 := Lib.hid (HYE.out hy)
              have t1 : (y == (k : Int)) = true := by simpa using hy
              clear hy
              go_wp2_with fail
              go_roundw
              case rel => exact ⟨j + 1, true, by omega, by go_num, rfl, (fun _ => HM1.out), (fun h => by cases h), HB3.out⟩
              case measure => simp [intOf]; omega
            · have HM0 := Lib.hid (HSU.out hy)
              have t1 : (y == (k : Int)) = false := by simpa using hy
              clear hy
              go_wp2_with fail
              go_roundw
              case rel => exact ⟨j + 1, false, by omega, by go_num, rfl, (fun h => by cases h), HM0.out, HB3.out⟩
              case measure => simp [intOf]; omega
        · have hjj : j = ms.length := by omega
          subst hjj
          have HO2 := Lib.hid (owns_after HO1.out hb2)
          have hw3 := hb1.trans (hb2.mono zz1)
          have zz3 := hw3.size
          cases hme : met with
          | false =>
            subst hme
            have hno : hasB (alongL ms) (k : Int) = false := hasB_false (fun i hi => by rw [HAL.out] at hi; rw [alongL_get hi]; exact hm0.out rfl i hi)
            have hfk := HKK.out
            rw [hno] at hfk
            have HEN := Lib.hid (HEN1.out hfk)
            clear hfk hno hm0 hm1
            go_wp2_with (refine wpList_append_ints rfl (.tmp 43) (.tmp 45) rfl W.heap.size 0 _ _ _ rfl (World.ownsRow.alloc HO2.out _) _ [(k : Int)] rfl (ints_one _ _ _) (by simp; omega) (by simp; omega) ?_; intro v' w' hown' hgrow)
            have hw4 : Below W.heap.size W w' := (hw3.alloc zz3 _).grown hgrow (by simp; omega) (fun g hg => (HO2.out.lt g hg).1)
            have HO4 := Lib.hid (show w'.ownsRow W.heap.size 3 1 v' (enTo f (k + 1)).length (intCells (enTo f (k + 1))) by rw [HEN.out, List.length_append, intCells_append]; exact hown')
            clear hown' hgrow
            go_wp2_with fail
            go_roundw
            case rel => exact ⟨k + 1, by omega, by go_num, HO4, hw4⟩
            case measure => simp [intOf]; omega
          | true =>
            subst hme
            have hfk := HKK.out
            rw [hm1.out rfl] at hfk
            have HO4 := Lib.hid (show wr.ownsRow W.heap.size 3 1 lv (enTo f (k + 1)).length (intCells (enTo f (k + 1))) by rw [HEN0.out hfk]; exact HO2.out)
            clear hfk hm1 hm0
            go_wp2_with fail
            go_roundw
            case rel => exact ⟨k + 1, by omega, by go_num, HO4, hw3⟩
            case measure => simp [intOf]; omega
    · have hkk : k = m := by omega
      subst hkk
      have HO2 : Hid (IntsOw w.heap.size wr u6 LL) := by
        have h := ow_of_owns (Go.Joins.ownsRow_le hown.out zW)
        rw [← HE.out] at h
        exact h
      clear hown
      go_wp2_with fail
      go_ret2
      exact ⟨_, rfl, HO2.out, hW.trans (hb1.mono zW)⟩

end Go.Proofs.Ytjelnlhalpoinaa
