/-
  WALKS: TransitionName of the model and of the program.
-/
import Derived.Test.YtjelnlhalpoinaaDoorTnb
import Derived.Test.YtjelnlhalpoinaaDoorStgt
import Derived.Test.YtjelnlhalpoinaaDoorStgj
namespace Go.Proofs.YtjelnlhalpoinaaDoor
open Go.RowKit

/-- is there a name -/
def tnB (s : StgD) (t : Int) : Bool := goodS s && decide (0 ≤ t ∧ t < (s.net.ts.length : Int))
/-- the name -/
def tnS (s : StgD) (t : Int) : ByteArray := if tnB s t = true then nameL s.sigs s.labs t.toNat else ⟨#[]⟩
theorem tn_bad {s : StgD} {t : Int} (h : goodS s = false) : tnB s t = false := by unfold tnB; rw [h]; rfl
theorem tn_out {s : StgD} {t : Int} (h : ¬ (0 ≤ t ∧ t < (s.net.ts.length : Int))) : tnB s t = false := by unfold tnB; rw [decide_eq_false h]; simp
theorem tn_in {s : StgD} {t : Int} (h : goodS s = true) (h2 : 0 ≤ t ∧ t < (s.net.ts.length : Int)) : tnB s t = true := by unfold tnB; rw [decide_eq_true h2, h]; rfl
theorem tnS_no {s : StgD} {t : Int} (h : tnB s t = false) : tnS s t = ⟨#[]⟩ := by unfold tnS; rw [h]; rfl
theorem tnS_at {s : StgD} {t : Int} (h : tnB s t = true) {k : Nat} (hk : t = (k : Int)) : tnS s t = nameL s.sigs s.labs k := by subst hk; unfold tnS; rw [h]; rfl
theorem goodS_len {s : StgD} (h : goodS s = true) : s.labs.length = s.net.ts.length := by
  unfold goodS at h
  simp only [Bool.and_eq_true, decide_eq_true_eq] at h
  exact h.2.2.2
theorem goodS_24 {s : StgD} (h : goodS s = true) : s.net.ts.length ≤ 24 := by
  unfold goodS goodN at h
  simp only [Bool.and_eq_true, decide_eq_true_eq] at h
  omega
theorem goodS_in {s : StgD} (h : goodS s = true) {k : Nat} (hk : k < s.labs.length) : LabIn s.sigs.length (lbS s.labs k) (lbU s.labs k) := by
  unfold goodS labsB at h
  simp only [Bool.and_eq_true, decide_eq_true_eq] at h
  exact h.2.2.1 k hk

set_option maxRecDepth 100000 in
set_option maxHeartbeats 2000000 in
theorem specTransitionName_any (v : Value) (s : StgD) (t : Int) (w : World) (lo : Nat) (hv : StgAt lo w v s) (hs : SmallStg s) (ht0 : -9223372036854775808 ≤ t) (ht1 : t ≤ 9223372036854775807) :
    Calls Tryd.prog 9 #[v, .int .i64 t] w (RetV w (.tuple #[.string (tnS s t), .bool (tnB s t)])) := by
  have e1 : goodS s = false → tnB s t = false := tn_bad
  have e2 : ¬ (0 ≤ t ∧ t < (s.net.ts.length : Int)) → tnB s t = false := tn_out
  have e3 : goodS s = true → 0 ≤ t ∧ t < (s.net.ts.length : Int) → tnB s t = true := tn_in
  have e4 : tnB s t = false → tnS s t = ⟨#[]⟩ := tnS_no
  have e5 : tnB s t = true → ∀ k : Nat, t = (k : Int) → tnS s t = nameL s.sigs s.labs k := fun h k hk => tnS_at h hk
  generalize tnB s t = B at e1 e2 e3 e4 e5 ⊢
  generalize tnS s t = S at e4 e5 ⊢
  obtain ⟨a0, c0, a1, c1, a2, c2, rfl, hn, hsg, hl⟩ := hv.form
  have HV := Lib.hid hv; clear hv
  have HG := Lib.hid hsg; clear hsg
  have HL := Lib.hid hl; clear hl
  have HN := Lib.hid hn; clear hn
  have hts := hs.1.1
  have hls := hs.2.2.1
  have HS := Lib.hid hs; clear hs
  obtain ⟨p, hp⟩ : ∃ p, p = s.net.places := ⟨_, rfl⟩
  obtain ⟨m, hm⟩ : ∃ m, m = s.net.ts.length := ⟨_, rfl⟩
  obtain ⟨ns, hns⟩ : ∃ ns, ns = s.sigs.length := ⟨_, rfl⟩
  obtain ⟨nl, hnl⟩ : ∃ nl, nl = s.labs.length := ⟨_, rfl⟩
  obtain ⟨st, hst⟩ : ∃ st, st = s.start := ⟨_, rfl⟩
  rw [← hm] at e2 e3 hts
  rw [← hnl] at hls
  rw [← hp, ← hm, ← hns, ← hnl, ← hst] at HV ⊢
  rw [← hns] at HG
  rw [← hnl] at HL
  rw [← hp, ← hm] at HN
  have HP := Lib.hid (And.intro hp (And.intro hm (And.intro hns (And.intro hnl hst)))); clear hp hm hns hnl hst
  have E1 := Lib.hid e1; clear e1
  have E2 := Lib.hid e2; clear e2
  have E3 := Lib.hid e3; clear e3
  have E4 := Lib.hid e4; clear e4
  have E5 := Lib.hid e5; clear e5
  go_enter Tryd.func9, Tryd.ntmps9
  go_wp2_with fail
  refine (l2Good_any _ s _ lo (HV.out.keep ?_) HS.out).mono ?_
  · (repeat' (first | (with_reducible exact Carries.refl _ _) | (with_reducible assumption) | (with_reducible refine Carries.alloc ?_ _) | (with_reducible refine Carries.drew ?_) | (with_reducible refine Carries.drewN ?_ _) | (with_reducible refine Carries.set ?_ ?_ _) | go_size))
  rintro e w1 ⟨rfl, hb⟩
  have hw1 : Below w.heap.size w w1 := by
    refine Below.trans ?_ (hb.mono ?_)
    · (repeat' (first | (with_reducible exact Below.refl _ _) | (with_reducible assumption) | (with_reducible refine Below.alloc ?_ ?_ _) | (with_reducible refine Below.drew ?_) | (with_reducible refine below_drewN ?_ _) | (with_reducible refine Below.setCell ?_ ?_ _) | go_size))
    · simp
  have x0 : w1.cell? ⟨w.heap.size, 0, none⟩ = some (.int .i64 p) := cell_carry (by simp) (Carries.of 0 hb)
  have x1 : w1.cell? ⟨w.heap.size, 1, none⟩ = some (.slice a0 m c0) := cell_carry (by simp) (Carries.of 0 hb)
  have x2 : w1.cell? ⟨w.heap.size, 2, none⟩ = some (.slice a1 ns c1) := cell_carry (by simp) (Carries.of 0 hb)
  have x3 : w1.cell? ⟨w.heap.size, 3, none⟩ = some (.slice a2 nl c2) := cell_carry (by simp) (Carries.of 0 hb)
  have x4 : w1.cell? ⟨w.heap.size, 4, none⟩ = some (.string st) := cell_carry (by simp) (Carries.of 0 hb)
  clear hb
  cases hg : goodS s with
  | false =>
    have hB := E1.out hg
    have hS := E4.out hB
    subst hB; subst hS
    clear hg
    go_wp2_with fail
    go_ret2
    exact ⟨rfl, hw1⟩
  | true =>
  have hlen := goodS_len hg
  have h24 := goodS_24 hg
  rw [← HP.out.2.1] at h24
  rw [← HP.out.2.1, ← HP.out.2.2.2.1] at hlen
  have HGD := Lib.hid hg; clear hg
  have HLEN := Lib.hid hlen; clear hlen
  go_wp2_with fail
  refine (l1In_any _ _ _ _).mono ?_
  rintro e w2 ⟨rfl, hb⟩
  have hw2 : Below w.heap.size w w2 := hw1.trans (hb.mono hw1.size)
  have x0 := cell_carry x0 (Carries.of 0 hb)
  have x1 := cell_carry x1 (Carries.of 0 hb)
  have x2 := cell_carry x2 (Carries.of 0 hb)
  have x3 := cell_carry x3 (Carries.of 0 hb)
  have x4 := cell_carry x4 (Carries.of 0 hb)
  clear hb
  by_cases hin : 0 ≤ t ∧ t < (m : Int)
  case neg =>
    rw [decide_eq_false (by have := HLEN.out; omega)]
    have hB := E2.out hin
    have hS := E4.out hB
    subst hB; subst hS
    clear hin
    go_wp2_with fail
    go_ret2
    exact ⟨rfl, hw2⟩
  case pos =>
    rw [decide_eq_true (by have := HLEN.out; omega)]
    obtain ⟨k, hk⟩ : ∃ k : Nat, t = (k : Int) := ⟨t.toNat, by omega⟩
    have hB := E3.out HGD.out hin
    have hS := E5.out hB k hk
    have HI := Lib.hid (goodS_in HGD.out (k := k) (by rw [← HP.out.2.2.2.1]; have := HLEN.out; omega))
    subst hB; subst hS; subst hk
    go_wp2_with fail
    refine (l2Text_any _ _ _ _ _ _ _ s.sigs s.labs k _ lo (HG.out.keep (Carries.of lo hw2)) (HL.out.keep (Carries.of lo hw2)) HS.out.2.1 (by rw [← HP.out.2.2.2.1]; have := HLEN.out; omega) (by rw [← HP.out.2.2.2.1]; have := HLEN.out; omega) HI.out).mono ?_
    rintro e w3 ⟨rfl, hb⟩
    have hw3 : Below w.heap.size w w3 := hw2.trans (hb.mono hw2.size)
    clear hb x0 x1 x2 x3 x4
    go_wp2_with fail
    go_ret2
    exact ⟨rfl, hw3⟩

set_option maxRecDepth 100000 in
set_option maxHeartbeats 2000000 in
theorem TransitionName_any (v : Value) (s : StgD) (t : Int) (w : World) (lo : Nat) (hv : StgAt lo w v s) (hs : SmallStg s) (ht0 : -9223372036854775808 ≤ t) (ht1 : t ≤ 9223372036854775807) :
    Calls Tryd.prog 11 #[v, .int .i64 t] w (RetV w (.tuple #[.string (tnS s t), .bool (tnB s t)])) := by
  have e1 : goodS s = false → tnB s t = false := tn_bad
  have e2 : ¬ (0 ≤ t ∧ t < (s.net.ts.length : Int)) → tnB s t = false := tn_out
  have e3 : goodS s = true → 0 ≤ t ∧ t < (s.net.ts.length : Int) → tnB s t = true := tn_in
  have e4 : tnB s t = false → tnS s t = ⟨#[]⟩ := tnS_no
  have e5 : tnB s t = true → ∀ k : Nat, t = (k : Int) → tnS s t = nameL s.sigs s.labs k := fun h k hk => tnS_at h hk
  generalize tnB s t = B at e1 e2 e3 e4 e5 ⊢
  generalize tnS s t = S at e4 e5 ⊢
  obtain ⟨a0, c0, a1, c1, a2, c2, rfl, hn, hsg, hl⟩ := hv.form
  have HV := Lib.hid hv; clear hv
  have HG := Lib.hid hsg; clear hsg
  have HL := Lib.hid hl; clear hl
  have HN := Lib.hid hn; clear hn
  have hts := hs.1.1
  have hls := hs.2.2.1
  have HS := Lib.hid hs; clear hs
  obtain ⟨p, hp⟩ : ∃ p, p = s.net.places := ⟨_, rfl⟩
  obtain ⟨m, hm⟩ : ∃ m, m = s.net.ts.length := ⟨_, rfl⟩
  obtain ⟨ns, hns⟩ : ∃ ns, ns = s.sigs.length := ⟨_, rfl⟩
  obtain ⟨nl, hnl⟩ : ∃ nl, nl = s.labs.length := ⟨_, rfl⟩
  obtain ⟨st, hst⟩ : ∃ st, st = s.start := ⟨_, rfl⟩
  rw [← hm] at e2 e3 hts
  rw [← hnl] at hls
  rw [← hp, ← hm, ← hns, ← hnl, ← hst] at HV ⊢
  rw [← hns] at HG
  rw [← hnl] at HL
  rw [← hp, ← hm] at HN
  have HP := Lib.hid (And.intro hp (And.intro hm (And.intro hns (And.intro hnl hst)))); clear hp hm hns hnl hst
  have E1 := Lib.hid e1; clear e1
  have E2 := Lib.hid e2; clear e2
  have E3 := Lib.hid e3; clear e3
  have E4 := Lib.hid e4; clear e4
  have E5 := Lib.hid e5; clear e5
  go_enter Tryd.func11, Tryd.ntmps11
  go_wp2_with fail
  refine (labelledNetOf_any _ _ _ _ _ _ _ _ _ _ _ _).mono ?_
  rintro e w1 ⟨rfl, hb⟩
  have hw1 : Below w.heap.size w w1 := by
    refine Below.trans ?_ (hb.mono ?_)
    · (repeat' (first | (with_reducible exact Below.refl _ _) | (with_reducible assumption) | (with_reducible refine Below.alloc ?_ ?_ _) | (with_reducible refine Below.drew ?_) | (with_reducible refine below_drewN ?_ _) | (with_reducible refine Below.setCell ?_ ?_ _) | go_size))
    · simp
  have x0 : w1.cell? ⟨w.heap.size, 0, none⟩ = some (.int .i64 p) := cell_carry (by simp) (Carries.of 0 hb)
  have x1 : w1.cell? ⟨w.heap.size, 1, none⟩ = some (.slice a0 m c0) := cell_carry (by simp) (Carries.of 0 hb)
  have x2 : w1.cell? ⟨w.heap.size, 2, none⟩ = some (.slice a1 ns c1) := cell_carry (by simp) (Carries.of 0 hb)
  have x3 : w1.cell? ⟨w.heap.size, 3, none⟩ = some (.slice a2 nl c2) := cell_carry (by simp) (Carries.of 0 hb)
  have x4 : w1.cell? ⟨w.heap.size, 4, none⟩ = some (.string st) := cell_carry (by simp) (Carries.of 0 hb)
  have z1 : w.heap.size < w1.heap.size := by have := hb.size; simp at this; omega
  clear hb
  go_wp2_with fail
  refine (IsValidSTG_any _ s _ lo (HV.out.keep ?_) HS.out).mono ?_
  · exact (Carries.of lo hw1).trans (by (repeat' (first | (with_reducible exact Carries.refl _ _) | (with_reducible assumption) | (with_reducible refine Carries.alloc ?_ _) | (with_reducible refine Carries.drew ?_) | (with_reducible refine Carries.drewN ?_ _) | (with_reducible refine Carries.set ?_ ?_ _) | go_size)))
  rintro e w2 ⟨rfl, hb⟩
  have hw2 : Below w.heap.size w w2 := by
    refine Below.trans hw1 (Below.trans (b := w1.alloc (.cells #[.int .i64 p, .slice a0 m c0, .slice a1 ns c1, .slice a2 nl c2] 72)) ?_ (hb.mono ?_))
    · (repeat' (first | (with_reducible exact Below.refl _ _) | (with_reducible assumption) | (with_reducible refine Below.alloc ?_ ?_ _) | (with_reducible refine Below.drew ?_) | (with_reducible refine below_drewN ?_ _) | (with_reducible refine Below.setCell ?_ ?_ _) | go_size))
    · simp; omega
  have y0 : w2.cell? ⟨w1.heap.size, 0, none⟩ = some (.int .i64 p) := cell_carry (by simp) (Carries.of 0 hb)
  have y1 : w2.cell? ⟨w1.heap.size, 1, none⟩ = some (.slice a0 m c0) := cell_carry (by simp) (Carries.of 0 hb)
  have y2 : w2.cell? ⟨w1.heap.size, 2, none⟩ = some (.slice a1 ns c1) := cell_carry (by simp) (Carries.of 0 hb)
  have y3 : w2.cell? ⟨w1.heap.size, 3, none⟩ = some (.slice a2 nl c2) := cell_carry (by simp) (Carries.of 0 hb)
  clear hb x0 x1 x2 x3 x4
  cases hg : goodS s with
  | false =>
    have hB := E1.out hg
    have hS := E4.out hB
    subst hB; subst hS
    clear hg
    go_wp2_with fail
    go_ret2
    exact ⟨rfl, hw2⟩
  | true =>
  have hlen := goodS_len hg
  have h24 := goodS_24 hg
  rw [← HP.out.2.1] at h24
  rw [← HP.out.2.1, ← HP.out.2.2.2.1] at hlen
  have HGD := Lib.hid hg; clear hg
  have HLEN := Lib.hid hlen; clear hlen
  go_wp2_with fail
  refine (isTransition_any _ s.net t _ lo (HN.out.keep (Carries.of lo hw2)) HS.out.1).mono ?_
  rintro e w3 ⟨rfl, hb⟩
  rw [← HP.out.2.1]
  have hw3 : Below w.heap.size w w3 := hw2.trans (hb.mono hw2.size)
  have y0 := cell_carry y0 (Carries.of 0 hb)
  have y1 := cell_carry y1 (Carries.of 0 hb)
  have y2 := cell_carry y2 (Carries.of 0 hb)
  have y3 := cell_carry y3 (Carries.of 0 hb)
  clear hb
  by_cases hin : 0 ≤ t ∧ t < (m : Int)
  case neg =>
    rw [decide_eq_false hin]
    have hB := E2.out hin
    have hS := E4.out hB
    subst hB; subst hS
    clear hin
    go_wp2_with fail
    go_ret2
    exact ⟨rfl, hw3⟩
  case pos =>
    rw [decide_eq_true hin]
    obtain ⟨k, hk⟩ : ∃ k : Nat, t = (k : Int) := ⟨t.toNat, by omega⟩
    have hB := E3.out HGD.out hin
    have hS := E5.out hB k hk
    have HI := Lib.hid (goodS_in HGD.out (k := k) (by rw [← HP.out.2.2.2.1]; have := HLEN.out; omega))
    subst hB; subst hS; subst hk
    go_wp2_with fail
    refine (transitionName_any _ _ _ _ _ _ s.sigs s.labs k _ lo (HG.out.keep (Carries.of lo hw3)) (HL.out.keep (Carries.of lo hw3)) HS.out.2.1 (by rw [← HP.out.2.2.2.1]; have := HLEN.out; omega) (by rw [← HP.out.2.2.2.1]; have := HLEN.out; omega) HI.out).mono ?_
    rintro e w4 ⟨rfl, hb⟩
    have hw4 : Below w.heap.size w w4 := hw3.trans (hb.mono hw3.size)
    clear hb y0 y1 y2 y3
    go_wp2_with fail
    go_ret2
    exact ⟨rfl, hw4⟩

end Go.Proofs.YtjelnlhalpoinaaDoor
