/-
  WALKS: MarkingIndex of the model and of the program.
-/
import Derived.Test.YtjelnlhalpoinaaRgi
namespace Go.Proofs.Ytjelnlhalpoinaa
open Go.RowKit

def miI (r : RgD) (m : ByteArray) : Int := if goodR r = true then (if 0 ≤ findI r.marks m then findI r.marks m else 0) else 0
def miB (r : RgD) (m : ByteArray) : Bool := goodR r && decide (0 ≤ findI r.marks m)
theorem mi_no {r : RgD} {m : ByteArray} (h : goodR r = false) : miI r m = 0 ∧ miB r m = false := by
  unfold miI miB; rw [h]; exact ⟨rfl, rfl⟩
theorem mi_none {r : RgD} {m : ByteArray} (h : findI r.marks m < 0) : miI r m = 0 ∧ miB r m = false := by
  unfold miI miB
  rw [decide_eq_false (by omega), Bool.and_false, if_neg (show ¬ 0 ≤ findI r.marks m by omega)]
  exact ⟨by split <;> rfl, rfl⟩
theorem mi_yes {r : RgD} {m : ByteArray} (h : goodR r = true) (h2 : 0 ≤ findI r.marks m) : miI r m = findI r.marks m ∧ miB r m = true := by
  unfold miI miB; rw [h, decide_eq_true h2, if_pos rfl, if_pos h2]; exact ⟨rfl, rfl⟩

set_option maxRecDepth 100000 in
set_option maxHeartbeats 1000000 in
theorem specMarkingIndex_any (v : Value) (s : RgD) (m : ByteArray) (w : World) (lo : Nat) (hv : RgAt lo w v s) (hs : SmallRg s) :
    Calls Try.prog 33 #[v, .string m] w (RetV w (.tuple #[.int .i64 (miI s m), .bool (miB s m)])) := by
  obtain ⟨a0, c0, a1, c1, rfl, hm, hl⟩ := hv.form
  clear hl
  have e1 : goodR s = false → miI s m = 0 ∧ miB s m = false := mi_no
  have e2 : findI s.marks m < 0 → miI s m = 0 ∧ miB s m = false := mi_none
  have e3 : goodR s = true → 0 ≤ findI s.marks m → miI s m = findI s.marks m ∧ miB s m = true := mi_yes
  have hbd := findI_bd s.marks m
  have hsm := hs.1.1
  obtain ⟨q, hq⟩ : ∃ q, q = findI s.marks m := ⟨_, rfl⟩
  obtain ⟨x, hx⟩ : ∃ x, x = miI s m := ⟨_, rfl⟩
  obtain ⟨y, hy⟩ : ∃ y, y = miB s m := ⟨_, rfl⟩
  rw [← hq] at e2 e3 hbd
  rw [← hx, ← hy] at e1 e2 e3 ⊢
  have q1 : q ≤ 1048576 := by omega
  have HQ := Lib.hid hq; clear hq hx hy
  have E1 := Lib.hid e1; clear e1
  have E2 := Lib.hid e2; clear e2
  have E3 := Lib.hid e3; clear e3
  have HV := Lib.hid hv; clear hv
  have HM := Lib.hid hm; clear hm
  have HS := Lib.hid hs; clear hs
  obtain ⟨nm, hnm⟩ : ∃ x, x = s.marks.length := ⟨_, rfl⟩
  obtain ⟨nv, hnv⟩ : ∃ x, x = s.moves.length := ⟨_, rfl⟩
  rw [← hnm, ← hnv] at HV ⊢
  rw [← hnm] at HM hsm hbd
  have HD := Lib.hid (And.intro hnm hnv); clear hnm hnv
  go_enter Try.func33, Try.ntmps33
  go_wp2_with fail
  refine (l4Good_any _ s _ lo (HV.out.keep ?_) HS.out).mono ?_
  · (repeat' (first | (with_reducible exact Carries.refl _ _) | (with_reducible assumption) | (with_reducible refine Carries.alloc ?_ _) | (with_reducible refine Carries.drew ?_) | (with_reducible refine Carries.drewN ?_ _) | (with_reducible refine Carries.set ?_ ?_ _) | go_size))
  rintro e w1 ⟨rfl, hb⟩
  have hw1 : Below w.heap.size w w1 := by
    refine Below.trans ?_ (hb.mono ?_)
    · (repeat' (first | (with_reducible exact Below.refl _ _) | (with_reducible assumption) | (with_reducible refine Below.alloc ?_ ?_ _) | (with_reducible refine Below.drew ?_) | (with_reducible refine below_drewN ?_ _) | (with_reducible refine Below.setCell ?_ ?_ _) | go_size))
    · simp
  have x0 : w1.cell? ⟨w.heap.size, 0, none⟩ = some (.slice a0 nm c0) := cell_carry (by simp) (Carries.of 0 hb)
  clear hb
  cases hg : goodR s with
  | false =>
    obtain ⟨rfl, rfl⟩ := E1.out hg
    clear hg
    go_wp2_with fail
    go_ret2
    exact ⟨rfl, hw1⟩
  | true =>
  have HG := Lib.hid hg; clear hg
  go_wp2_with fail
  refine (l4Find_any _ s.marks m _ lo (HM.out.keep (Carries.of lo hw1)) (by rw [← HD.out.1]; exact hsm)).mono ?_
  rintro e w2 ⟨rfl, hb⟩
  rw [← HQ.out]
  have hw2 : Below w.heap.size w w2 := hw1.trans (hb.mono hw1.size)
  have x0 := cell_carry x0 (Carries.of 0 hb)
  clear hb
  by_cases hq0 : q < 0
  · obtain ⟨rfl, rfl⟩ := E2.out hq0
    go_wp2_with fail
    go_ret2
    exact ⟨rfl, hw2⟩
  obtain ⟨rfl, rfl⟩ := E3.out HG.out (by omega)
  go_wp2_with fail
  refine (l4Find_any _ s.marks m _ lo (HM.out.keep (Carries.of lo hw2)) (by rw [← HD.out.1]; exact hsm)).mono ?_
  rintro e w3 ⟨rfl, hb⟩
  rw [← HQ.out]
  have hw3 : Below w.heap.size w w3 := hw2.trans (hb.mono hw2.size)
  clear hb
  go_wp2_with fail
  go_ret2
  exact ⟨rfl, hw3⟩

set_option maxRecDepth 100000 in
set_option maxHeartbeats 1000000 in
theorem MarkingIndex_any (v : Value) (s : RgD) (m : ByteArray) (w : World) (lo : Nat) (hv : RgAt lo w v s) (hs : SmallRg s) :
    Calls Try.prog 35 #[v, .string m] w (RetV w (.tuple #[.int .i64 (miI s m), .bool (miB s m)])) := by
  obtain ⟨a0, c0, a1, c1, rfl, hm, hl⟩ := hv.form
  clear hl
  have e1 : goodR s = false → miI s m = 0 ∧ miB s m = false := mi_no
  have e2 : findI s.marks m < 0 → miI s m = 0 ∧ miB s m = false := mi_none
  have e3 : goodR s = true → 0 ≤ findI s.marks m → miI s m = findI s.marks m ∧ miB s m = true := mi_yes
  have hbd := findI_bd s.marks m
  have hsm := hs.1.1
  obtain ⟨q, hq⟩ : ∃ q, q = findI s.marks m := ⟨_, rfl⟩
  obtain ⟨x, hx⟩ : ∃ x, x = miI s m := ⟨_, rfl⟩
  obtain ⟨y, hy⟩ : ∃ y, y = miB s m := ⟨_, rfl⟩
  rw [← hq] at e2 e3 hbd
  rw [← hx, ← hy] at e1 e2 e3 ⊢
  have q1 : q ≤ 1048576 := by omega
  have HQ := Lib.hid hq; clear hq hx hy
  have E1 := Lib.hid e1; clear e1
  have E2 := Lib.hid e2; clear e2
  have E3 := Lib.hid e3; clear e3
  have HV := Lib.hid hv; clear hv
  have HM := Lib.hid hm; clear hm
  have HS := Lib.hid hs; clear hs
  obtain ⟨nm, hnm⟩ : ∃ x, x = s.marks.length := ⟨_, rfl⟩
  obtain ⟨nv, hnv⟩ : ∃ x, x = s.moves.length := ⟨_, rfl⟩
  rw [← hnm, ← hnv] at HV ⊢
  rw [← hnm] at HM hsm hbd
  have HD := Lib.hid (And.intro hnm hnv); clear hnm hnv
  go_enter Try.func35, Try.ntmps35
  go_wp2_with fail
  refine (Indexs_any _ s.marks m _ lo (HM.out.keep ?_) (by rw [← HD.out.1]; exact hsm)).mono ?_
  · (repeat' (first | (with_reducible exact Carries.refl _ _) | (with_reducible assumption) | (with_reducible refine Carries.alloc ?_ _) | (with_reducible refine Carries.drew ?_) | (with_reducible refine Carries.drewN ?_ _) | (with_reducible refine Carries.set ?_ ?_ _) | go_size))
  rintro e w1 ⟨rfl, hb⟩
  rw [← HQ.out]
  have hw1 : Below w.heap.size w w1 := by
    refine Below.trans ?_ (hb.mono ?_)
    · (repeat' (first | (with_reducible exact Below.refl _ _) | (with_reducible assumption) | (with_reducible refine Below.alloc ?_ ?_ _) | (with_reducible refine Below.drew ?_) | (with_reducible refine below_drewN ?_ _) | (with_reducible refine Below.setCell ?_ ?_ _) | go_size))
    · simp
  have x0 : w1.cell? ⟨w.heap.size, 0, none⟩ = some (.slice a0 nm c0) := cell_carry (by simp) (Carries.of 0 hb)
  have x1 : w1.cell? ⟨w.heap.size, 1, none⟩ = some (.slice a1 nv c1) := cell_carry (by simp) (Carries.of 0 hb)
  clear hb
  by_cases hq0 : q < 0
  · obtain ⟨rfl, rfl⟩ := E2.out hq0
    go_wp2_with fail
    go_ret2
    exact ⟨rfl, hw1⟩
  go_wp2_with fail
  refine (isReach_any _ s _ lo (HV.out.keep (Carries.of lo hw1)) HS.out).mono ?_
  rintro e w2 ⟨rfl, hb⟩
  have hw2 : Below w.heap.size w w2 := hw1.trans (hb.mono hw1.size)
  clear hb
  cases hg : goodR s with
  | false =>
    obtain ⟨rfl, rfl⟩ := E1.out hg
    clear hg
    go_wp2_with fail
    go_ret2
    exact ⟨rfl, hw2⟩
  | true =>
    obtain ⟨rfl, rfl⟩ := E3.out hg (by omega)
    clear hg
    go_wp2_with fail
    go_ret2
    exact ⟨rfl, hw2⟩

end Go.Proofs.Ytjelnlhalpoinaa
