/-
  WALKS: MovesFrom of the program and of the model.
-/
import Derived.Test.YtjelnlhalpoinaaRgr
import Derived.Test.YtjelnlhalpoinaaRgi
namespace Go.Proofs.Ytjelnlhalpoinaa
open Go.RowKit

set_option maxRecDepth 100000 in
set_option maxHeartbeats 1000000 in
theorem movesFromM_any (a0 : Option Addr) (nm c0 : Nat) (vm : Value) (ms : List Mv) (x : Int) (w : World) (lo : Nat) (hv : MovesAt lo w vm ms) (hn : ms.length ≤ 1048576) :
    Calls Try.prog 104 #[.agg #[.slice a0 nm c0, vm], .int .i64 x] w (RetMvO w (frTo ms x ms.length)) := by
  obtain ⟨L, hL⟩ : ∃ L, L = frTo ms x ms.length := ⟨_, rfl⟩
  rw [← hL]
  have HL := Lib.hid hL; clear hL
  obtain ⟨ao, cap, rfl, hc, hz⟩ := hv
  have HF := Lib.hid hz; clear hz
  go_enter Try.func104, Try.ntmps104
  go_wp2_with fail
  have hW : Below w.heap.size w (w.alloc (.cells #[.slice a0 nm c0, .slice ao ms.length cap] 75)) := by (repeat' (first | (with_reducible exact Below.refl _ _) | (with_reducible assumption) | (with_reducible refine Below.alloc ?_ ?_ _) | (with_reducible refine Below.drew ?_) | (with_reducible refine below_drewN ?_ _) | (with_reducible refine Below.setCell ?_ ?_ _) | go_size))
  generalize w.alloc (.cells #[.slice a0 nm c0, .slice ao ms.length cap] 75) = W at hW ⊢
  go_loopw [5, 11] (fun u i wr => ∃ k : Nat, k ≤ ms.length ∧ i = .int .i64 k ∧ Hid (MRow W.heap.size wr u (frTo ms x k)) ∧ Below W.heap.size W wr) (fun _ i _ => ms.length - (intOf i).toNat)
  case atStart => exact ⟨0, Nat.zero_le _, rfl, by rw [frTo_zero]; exact MRow.nil _ _, Below.refl _ _⟩
  case round =>
    obtain ⟨k, hk, rfl, hown, hb1⟩ := hrel
    have zz1 := hb1.size
    by_cases hlt : k < ms.length
    · rcases HF.out with h0 | ⟨b, off, rfl, hlo, hcell⟩
      · omega
      obtain ⟨q0, q1, q2⟩ := hcell k hlt
      have d0 := Carries.of lo (hW.trans (hb1.mono hW.size)) _ _ hlo q0
      have d1 := Carries.of lo (hW.trans (hb1.mono hW.size)) _ _ hlo q1
      have d2 := Carries.of lo (hW.trans (hb1.mono hW.size)) _ _ hlo q2
      clear hcell q0 q1 q2
      have hyes := fun h => frTo_yes (ms := ms) (x := x) hlt h
      have hno := fun h => frTo_no (ms := ms) (x := x) hlt h
      have hle := frTo_length ms x k
      try dsimp only at d0 d1 d2
      generalize mvF ms k = f at d0 hyes hno
      generalize mvB ms k = by_ at d1 hyes hno
      generalize mvT ms k = t at d2 hyes hno
      have HYES := Lib.hid hyes; clear hyes
      have HNO := Lib.hid hno; clear hno
      have hwA : Below W.heap.size W (wr.alloc (.cells #[.int .i64 f, .int .i64 by_, .int .i64 t] 142)) := hb1.alloc zz1 _
      have HA := Lib.hid (World.ownsRow.alloc hown.out (.cells #[.int .i64 f, .int .i64 by_, .int .i64 t] 142))
      clear hown
      by_cases he : f = x
      · have HE := Lib.hid (HYES.out he)
        have te : (f == x) = true := by simpa using he
        clear he
        go_wp2_with (refine wpList_append_mv rfl (.tmp 19) (.tmp 21) rfl W.heap.size _ (frTo ms x k) rfl (World.ownsRow.alloc HA.out _) _ (f, by_, t) rfl (by simp) (by simp) (by simp) (by omega) (by simp; omega) ?_; intro v' w' hown' hgrow)
        have hw4 : Below W.heap.size W w' := (hwA.alloc (by simp; omega) _).grown hgrow (by simp; omega) (fun g hg => (HA.out.lt g hg).1)
        have HO4 := Lib.hid (show MRow W.heap.size w' v' (frTo ms x (k + 1)) by rw [HE.out]; exact hown')
        clear hown' hgrow HA hwA
        go_wp2_with fail
        go_roundw
        case rel => exact ⟨k + 1, by omega, by go_num, HO4, hw4⟩
        case measure => simp [intOf]; omega
      · have HO4 := Lib.hid (show MRow W.heap.size (wr.alloc (.cells #[.int .i64 f, .int .i64 by_, .int .i64 t] 142)) u5 (frTo ms x (k + 1)) by rw [HNO.out he]; exact HA.out)
        have te : (f == x) = false := by simpa using he
        clear he HA
        go_wp2_with fail
        go_roundw
        case rel => exact ⟨k + 1, by omega, by go_num, HO4, hwA⟩
        case measure => simp [intOf]; omega
    · have hkk : k = ms.length := by omega
      subst hkk
      have HO2 : Hid (MRow w.heap.size wr u5 L) := by
        have h := hown.out.low hW.size
        rw [← HL.out] at h
        exact h
      go_wp2_with fail
      go_ret
      exact ⟨_, rfl, HO2.out, hW.trans (hb1.mono hW.size)⟩

set_option maxRecDepth 100000 in
set_option maxHeartbeats 1000000 in
theorem MovesFrom_any (v : Value) (s : RgD) (x : Int) (w : World) (lo : Nat) (hv : RgAt lo w v s) (hs : SmallRg s) :
    Calls Try.prog 38 #[v, .int .i64 x] w (RetMv w (mfL s x) (mfB s x)) := by
  obtain ⟨a0, c0, a1, c1, rfl, hm, hl⟩ := hv.form
  clear hm
  have e1 : goodR s = false → mfB s x = false := mf_bad
  have e2 : ¬ (0 ≤ x ∧ x < (s.marks.length : Int)) → mfB s x = false := mf_out
  have e3 : goodR s = true → (0 ≤ x ∧ x < (s.marks.length : Int)) → mfB s x = true := mf_in
  have e4 : mfB s x = false → mfL s x = [] := mfL_no
  have e5 : mfB s x = true → mfL s x = frL s x := mfL_yes
  obtain ⟨BB, hB⟩ : ∃ B, B = mfB s x := ⟨_, rfl⟩
  obtain ⟨LL, hL⟩ : ∃ L, L = mfL s x := ⟨_, rfl⟩
  rw [← hB] at e1 e2 e3 e4 e5 ⊢
  rw [← hL] at e4 e5 ⊢
  clear hB hL
  have hsm := hs.1.1
  have hms := hs.2
  have E1 := Lib.hid e1; clear e1
  have E3 := Lib.hid e3; clear e3
  have E4 := Lib.hid e4; clear e4
  have E5 := Lib.hid e5; clear e5
  have HV := Lib.hid hv; clear hv
  have HL := Lib.hid hl; clear hl
  have HS := Lib.hid hs; clear hs
  obtain ⟨nm, hnm⟩ : ∃ x, x = s.marks.length := ⟨_, rfl⟩
  obtain ⟨nv, hnv⟩ : ∃ x, x = s.moves.length := ⟨_, rfl⟩
  rw [← hnm, ← hnv] at HV ⊢
  rw [← hnv] at HL
  rw [← hnm] at hsm e2 E3
  have E2 := Lib.hid e2; clear e2
  have HMS := Lib.hid hms; clear hms
  clear hnm hnv
  go_enter Try.func38, Try.ntmps38
  go_wp2_with fail
  refine (isReach_any _ s _ lo (HV.out.keep ?_) HS.out).mono ?_
  · (repeat' (first | (with_reducible exact Carries.refl _ _) | (with_reducible assumption) | (with_reducible refine Carries.alloc ?_ _) | (with_reducible refine Carries.drew ?_) | (with_reducible refine Carries.drewN ?_ _) | (with_reducible refine Carries.set ?_ ?_ _) | go_size))
  rintro e w1 ⟨rfl, hb⟩
  have hw1 : Below w.heap.size w w1 := by
    refine Below.trans ?_ (hb.mono ?_)
    · (repeat' (first | (with_reducible exact Below.refl _ _) | (with_reducible assumption) | (with_reducible refine Below.alloc ?_ ?_ _) | (with_reducible refine Below.drew ?_) | (with_reducible refine below_drewN ?_ _) | (with_reducible refine Below.setCell ?_ ?_ _) | go_size))
    · simp
  have x0 : w1.cell? ⟨w.heap.size, 0, none⟩ = some (.slice a0 nm c0) := cell_carry (by simp) (Carries.of 0 hb)
  have x1 : w1.cell? ⟨w.heap.size, 1, none⟩ = some (.slice a1 nv c1) := cell_carry (by simp) (Carries.of 0 hb)
  clear hb
  cases hg : goodR s with
  | false =>
    have eb := E1.out hg
    have el := E4.out eb
    subst eb; subst el
    clear hg
    go_wp2_with fail
    go_ret2
    exact ⟨_, rfl, MRow.nil _ _, hw1⟩
  | true =>
  have HG := Lib.hid hg; clear hg
  go_wp2_with fail
  refine (hasMarking_any _ _ _ _ _ _ x _ hsm).mono ?_
  rintro e w2 ⟨rfl, hb⟩
  have hw2 : Below w.heap.size w w2 := hw1.trans (hb.mono hw1.size)
  have x0 := cell_carry x0 (Carries.of 0 hb)
  have x1 := cell_carry x1 (Carries.of 0 hb)
  clear hb
  by_cases hx : 0 ≤ x ∧ x < (nm : Int)
  case neg =>
    have eb := E2.out hx
    have el := E4.out eb
    subst eb; subst el
    rw [decide_eq_false hx]
    clear hx
    go_wp2_with fail
    go_ret2
    exact ⟨_, rfl, MRow.nil _ _, hw2⟩
  have eb := E3.out HG.out hx
  have el := E5.out eb
  subst eb
  have HE := Lib.hid el; clear el
  rw [decide_eq_true hx]
  clear hx
  go_wp2_with fail
  refine (movesFromM_any _ _ _ _ s.moves x _ lo (HL.out.keep (Carries.of lo hw2)) HMS.out).mono ?_
  rintro e w3 ⟨u, rfl, hr, hb⟩
  obtain ⟨ar, cr, rfl⟩ := hr.form
  have hw3 : Below w.heap.size w w3 := hw2.trans (hb.mono hw2.size)
  have HR := Lib.hid (hr.low hw2.size)
  clear hr hb
  go_wp2_with fail
  go_ret2
  exact ⟨_, rfl, by rw [HE.out]; exact HR.out, hw3⟩

set_option maxRecDepth 100000 in
set_option maxHeartbeats 2000000 in
theorem specMovesFrom_any (v : Value) (s : RgD) (x : Int) (w : World) (lo : Nat) (hv : RgAt lo w v s) (hs : SmallRg s) :
    Calls Try.prog 37 #[v, .int .i64 x] w (RetMv w (mfL s x) (mfB s x)) := by
  obtain ⟨a0, c0, a1, c1, rfl, hm, hl⟩ := hv.form
  clear hm
  have e1 : goodR s = false → mfB s x = false := mf_bad
  have e2 : ¬ (0 ≤ x ∧ x < (s.marks.length : Int)) → mfB s x = false := mf_out
  have e3 : goodR s = true → (0 ≤ x ∧ x < (s.marks.length : Int)) → mfB s x = true := mf_in
  have e4 : mfB s x = false → mfL s x = [] := mfL_no
  have e5 : mfB s x = true → mfL s x = frTo s.moves x s.moves.length := mfL_yes
  obtain ⟨BB, hB⟩ : ∃ B, B = mfB s x := ⟨_, rfl⟩
  obtain ⟨LL, hL⟩ : ∃ L, L = mfL s x := ⟨_, rfl⟩
  rw [← hB] at e1 e2 e3 e4 e5 ⊢
  rw [← hL] at e4 e5 ⊢
  clear hB hL
  have hsm := hs.1.1
  have hms := hs.2
  have hl1 : goodR s = true → 1 ≤ s.marks.length := fun h => (goodR_len h).1
  have E1 := Lib.hid e1; clear e1
  have E4 := Lib.hid e4; clear e4
  have HV := Lib.hid hv; clear hv
  have HS := Lib.hid hs; clear hs
  obtain ⟨nm, hnm⟩ : ∃ x, x = s.marks.length := ⟨_, rfl⟩
  obtain ⟨ms, hms2⟩ : ∃ x, x = s.moves := ⟨_, rfl⟩
  rw [← hnm, ← hms2] at HV ⊢
  rw [← hms2] at hl hms e5
  rw [← hnm] at hsm e2 e3 hl1
  have E2 := Lib.hid e2; clear e2
  have E3 := Lib.hid e3; clear e3
  have E5 := Lib.hid e5; clear e5
  have HL1 := Lib.hid hl1; clear hl1
  clear hnm hms2
  obtain ⟨ao, cap, hvv, hc, hz⟩ := hl
  injection hvv with q1 q2 q3
  subst q1; subst q3; clear q2
  have HF := Lib.hid hz; clear hz
  go_enter Try.func37, Try.ntmps37
  go_wp2_with fail
  refine (l4Good_any _ s _ lo (HV.out.keep ?_) HS.out).mono ?_
  · (repeat' (first | (with_reducible exact Carries.refl _ _) | (with_reducible assumption) | (with_reducible refine Carries.alloc ?_ _) | (with_reducible refine Carries.drew ?_) | (with_reducible refine Carries.drewN ?_ _) | (with_reducible refine Carries.set ?_ ?_ _) | go_size))
  rintro e w1 ⟨rfl, hb⟩
  have hw1 : Below w.heap.size w w1 := by
    refine Below.trans ?_ (hb.mono ?_)
    · (repeat' (first | (with_reducible exact Below.refl _ _) | (with_reducible assumption) | (with_reducible refine Below.alloc ?_ ?_ _) | (with_reducible refine Below.drew ?_) | (with_reducible refine below_drewN ?_ _) | (with_reducible refine Below.setCell ?_ ?_ _) | go_size))
    · simp
  have x0 : w1.cell? ⟨w.heap.size, 0, none⟩ = some (.slice a0 nm c0) := cell_carry (by simp) (Carries.of 0 hb)
  have x1 : w1.cell? ⟨w.heap.size, 1, none⟩ = some (.slice a1 ms.length c1) := cell_carry (by simp) (Carries.of 0 hb)
  clear hb
  cases hg : goodR s with
  | false =>
    have eb := E1.out hg
    have el := E4.out eb
    subst eb; subst el
    clear hg
    go_wp2_with fail
    go_ret2
    exact ⟨_, rfl, MRow.nil _ _, hw1⟩
  | true =>
  have h1 := HL1.out hg
  have HG := Lib.hid hg; clear hg
  go_wp2_with fail
  refine (l1In_any _ _ _ _).mono ?_
  rintro e W ⟨rfl, hb⟩
  have hW : Below w.heap.size w W := hw1.trans (hb.mono hw1.size)
  have x1 := cell_carry x1 (Carries.of 0 hb)
  clear hb x0
  by_cases hx : 0 ≤ x ∧ x < (nm : Int)
  case neg =>
    have eb := E2.out hx
    have el := E4.out eb
    subst eb; subst el
    have hd : decide ((0 : Int) ≤ x ∧ x ≤ (nm : Int) - 1) = false := decide_eq_false (by omega)
    rw [hd]
    clear hx hd
    go_wp2_with fail
    go_ret2
    exact ⟨_, rfl, MRow.nil _ _, hW⟩
  have eb := E3.out HG.out hx
  have el := E5.out eb
  subst eb
  have HL := Lib.hid el; clear el
  have hd : decide ((0 : Int) ≤ x ∧ x ≤ (nm : Int) - 1) = true := decide_eq_true (by omega)
  rw [hd]
  clear hx hd
  go_wp2_with fail
  go_loopw [6, 24] (fun u i wr => ∃ k : Nat, k ≤ ms.length ∧ i = .int .i64 k ∧ Hid (MRow W.heap.size wr u (frTo ms x k)) ∧ Below W.heap.size W wr) (fun _ i _ => ms.length - (intOf i).toNat)
  case atStart => exact ⟨0, Nat.zero_le _, rfl, by rw [frTo_zero]; exact MRow.nil _ _, Below.refl _ _⟩
  case round =>
    obtain ⟨k, hk, rfl, hown, hb1⟩ := hrel
    have zz1 := hb1.size
    by_cases hlt : k < ms.length
    · rcases HF.out with h0 | ⟨b, off, rfl, hlo, hcell⟩
      · omega
      obtain ⟨q0, q1, q2⟩ := hcell k hlt
      have d0 := Carries.of lo (hW.trans (hb1.mono hW.size)) _ _ hlo q0
      have d1 := Carries.of lo (hW.trans (hb1.mono hW.size)) _ _ hlo q1
      have d2 := Carries.of lo (hW.trans (hb1.mono hW.size)) _ _ hlo q2
      clear hcell q0 q1 q2
      have hyes := fun h => frTo_yes (ms := ms) (x := x) hlt h
      have hno := fun h => frTo_no (ms := ms) (x := x) hlt h
      have hle := frTo_length ms x k
      try dsimp only at d0 d1 d2
      generalize mvF ms k = f at d0 hyes hno
      generalize mvB ms k = by_ at d1 hyes hno
      generalize mvT ms k = t at d2 hyes hno
      have HYES := Lib.hid hyes; clear hyes
      have HNO := Lib.hid hno; clear hno
      have hwA : Below W.heap.size W (wr.alloc (.cells #[.int .i64 f, .int .i64 by_, .int .i64 t] 142)) := hb1.alloc zz1 _
      have HA := Lib.hid (World.ownsRow.alloc hown.out (.cells #[.int .i64 f, .int .i64 by_, .int .i64 t] 142))
      clear hown
      by_cases he : f = x
      · have HE := Lib.hid (HYES.out he)
        have te : (f == x) = true := by simpa using he
        clear he
        go_wp2_with (refine wpList_append_mv rfl (.tmp 32) (.tmp 34) rfl W.heap.size _ (frTo ms x k) rfl (World.ownsRow.alloc HA.out _) _ (f, by_, t) rfl (by simp) (by simp) (by simp) (by omega) (by simp; omega) ?_; intro v' w' hown' hgrow)
        have hw4 : Below W.heap.size W w' := (hwA.alloc (by simp; omega) _).grown hgrow (by simp; omega) (fun g hg => (HA.out.lt g hg).1)
        have HO4 := Lib.hid (show MRow W.heap.size w' v' (frTo ms x (k + 1)) by rw [HE.out]; exact hown')
        clear hown' hgrow HA hwA
        go_wp2_with fail
        go_roundw
        case rel => exact ⟨k + 1, by omega, by go_num, HO4, hw4⟩
        case measure => simp [intOf]; omega
      · have HO4 := Lib.hid (show MRow W.heap.size (wr.alloc (.cells #[.int .i64 f, .int .i64 by_, .int .i64 t] 142)) u6 (frTo ms x (k + 1)) by rw [HNO.out he]; exact HA.out)
        have te : (f == x) = false := by simpa using he
        clear he HA
        go_wp2_with fail
        go_roundw
        case rel => exact ⟨k + 1, by omega, by go_num, HO4, hwA⟩
        case measure => simp [intOf]; omega
    · have hkk : k = ms.length := by omega
      subst hkk
      have HO2 : Hid (MRow w.heap.size wr u6 LL) := by
        have h := hown.out.low hW.size
        rw [← HL.out] at h
        exact h
      go_wp2_with fail
      go_ret2
      exact ⟨_, rfl, HO2.out, hW.trans (hb1.mono hW.size)⟩

end Go.Proofs.Ytjelnlhalpoinaa
