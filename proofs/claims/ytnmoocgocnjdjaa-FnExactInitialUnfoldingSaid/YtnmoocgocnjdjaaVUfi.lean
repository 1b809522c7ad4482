/- WALKS: InitialUnfolding of the program. -/
import Derived.Test.YtnmoocgocnjdjaaVUfn
namespace Go.Proofs.Ytnmoocgocnjdjaa
open Go.RowKit

def iuB (n : NetD) (s : ByteArray) : Bool := goodN n && markB n s
def iuL (n : NetD) (s : ByteArray) : List Cnd := if iuB n s = true then bornTo s s.size else []
theorem iuL_no {n : NetD} {s : ByteArray} (h : iuB n s = false) : iuL n s = [] := by unfold iuL; rw [h]; rfl
theorem iuL_yes {n : NetD} {s : ByteArray} (h : iuB n s = true) : iuL n s = bornTo s s.size := by unfold iuL; rw [h]; rfl
theorem iuL_length {n : NetD} {s : ByteArray} (hs : s.size ≤ 1048576) : (iuL n s).length ≤ 1048576 := by
  unfold iuL
  split
  · exact Nat.le_trans (bornTo_length _ _) hs
  · exact Nat.zero_le _

/-- a call returns an unfolding of no event, its conditions in a row of its own, and this bool -/
def RetUfN (w : World) (cs : List Cnd) (b : Bool) (e : Ending) (w' : World) : Prop :=
  ∃ v, e = .returned (.tuple #[.agg #[v, .slice none 0 0], .bool b]) ∧ CRow w.heap.size w' v cs ∧ Below w.heap.size w w'

set_option maxRecDepth 100000 in
set_option maxHeartbeats 1000000 in
theorem InitialUnfolding_any (v : Value) (n : NetD) (s : ByteArray) (w : World) (lo : Nat) (hv : NetAt lo w v n) (hsm : SmallTrs n.ts) (hs : s.size ≤ 1048576) :
    Calls Try.prog 17 #[v, .string s] w (RetUfN w (iuL n s) (iuB n s)) := by
  generalize hFL : iuL n s = L
  generalize hFB : iuB n s = B
  have HFL := Lib.hid hFL; clear hFL
  have HFB := Lib.hid hFB; clear hFB
  have hv' := hv
  obtain ⟨hp0, hp1, u, rfl, ht⟩ := hv'
  obtain ⟨ao, cap, rfl, hc, hz⟩ := ht
  obtain ⟨p, hp⟩ : ∃ p, p = n.places := ⟨_, rfl⟩
  obtain ⟨m, hm⟩ : ∃ m, m = n.ts.length := ⟨_, rfl⟩
  rw [← hp, ← hm] at hv ⊢
  have HPl := Lib.hid hp
  clear hz hc hp0 hp1 hp hm
  have HV := Lib.hid hv; clear hv
  have HS := Lib.hid hsm; clear hsm
  go_enter Try.func17, Try.ntmps17
  go_wp2_with fail
  refine (IsValidMarking_any _ n s _ lo (HV.out.keep ?_) HS.out hs).mono ?_
  · (repeat' (first | (with_reducible exact Carries.refl _ _) | (with_reducible assumption) | (with_reducible refine Carries.alloc ?_ _) | (with_reducible refine Carries.drew ?_) | (with_reducible refine Carries.drewN ?_ _) | (with_reducible refine Carries.set ?_ ?_ _) | go_size))
  rintro e w1 ⟨rfl, hb⟩
  have hw1 : Below w.heap.size w w1 := by
    refine Below.trans ?_ (hb.mono ?_)
    · (repeat' (first | (with_reducible exact Below.refl _ _) | (with_reducible assumption) | (with_reducible refine Below.alloc ?_ ?_ _) | (with_reducible refine Below.drew ?_) | (with_reducible refine below_drewN ?_ _) | (with_reducible refine Below.setCell ?_ ?_ _) | go_size))
    · simp; omega
  have a0 : w1.cell? ⟨w.heap.size, 0, none⟩ = some (.int .i64 p) := cell_carry (by simp) (Carries.of 0 hb)
  have a1 : w1.cell? ⟨w.heap.size, 1, none⟩ = some (.slice ao m cap) := cell_carry (by simp) (Carries.of 0 hb)
  have r0 : w1.cell? ⟨w.heap.size + 1, 0, none⟩ = some (.slice none 0 0) := cell_carry (by simp) (Carries.of 0 hb)
  have r1 : w1.cell? ⟨w.heap.size + 1, 1, none⟩ = some (.slice none 0 0) := cell_carry (by simp) (Carries.of 0 hb)
  have rf0 : w1.frozen? ⟨w.heap.size + 1, 0, none⟩ = false := (hb.frozen (p := ⟨w.heap.size + 1, 0, none⟩) (by simp)).trans (by simp)
  have rf1 : w1.frozen? ⟨w.heap.size + 1, 1, none⟩ = false := (hb.frozen (p := ⟨w.heap.size + 1, 1, none⟩) (by simp)).trans (by simp)
  have rT : TyAt w1 (w.heap.size + 1) 39 := by
    have : TyAt ((w.alloc (.cells #[.int .i64 p, .slice ao m cap] 34)).alloc (.cells #[.slice none 0 0, .slice none 0 0] 39)) (w.heap.size + 1) 39 := by
      have := TyAt.new (w.alloc (.cells #[.int .i64 p, .slice ao m cap] 34)) #[.slice none 0 0, .slice none 0 0] 39
      simpa using this
    exact this.keep hb
  have hz1 := rT.lt
  clear hb
  have hq : (goodN n && markB n s) = B := HFB.out
  rw [hq]; clear hq
  cases B with
  | false =>
    have k1 := iuL_no HFB.out
    rw [HFL.out] at k1
    subst k1
    go_wp2_with fail
    refine bodyPost_ret (v := .tuple #[.agg #[.slice none 0 0, .slice none 0 0], .bool false]) (by simp [results, Try.results17, go_sem, r0, r1]) rfl ?_
    exact ⟨_, rfl, CRow.nil _ _, (hw1.setCell (by simp) _).setCell (by simp) _⟩
  | true =>
    have k1 := iuL_yes HFB.out
    rw [HFL.out] at k1
    have hpz : (s.size : Int) = p := by
      have := HFB.out
      unfold iuB markB at this
      simp only [Bool.and_eq_true, decide_eq_true_eq] at this
      rw [HPl.out]; exact this.2.2
    subst hpz
    have HL := Lib.hid k1; clear k1
    go_wp2_with fail
    refine (newHistory_any (.slice ao m cap) rfl s w1 hs).mono ?_
    rintro e w2 ⟨H, vc, vu, rfl, hh, hb2⟩
    have hw2 : Below w.heap.size w w2 := hw1.trans (hb2.mono hw1.size)
    have c2 := hh.c2
    have c3 := hh.c3
    obtain ⟨ac, kc, rfl⟩ := hh.rc.form
    have q0 := cell_carry r0 (Carries.of 0 hb2)
    have q1 := cell_carry r1 (Carries.of 0 hb2)
    have qf0 := (hb2.frozen (p := ⟨w.heap.size + 1, 0, none⟩) hz1).trans rf0
    have qf1 := (hb2.frozen (p := ⟨w.heap.size + 1, 1, none⟩) hz1).trans rf1
    have qT := rT.keep hb2
    have HR := Lib.hid hh.rc
    have hzz := hw1.size
    clear hh r0 r1 rf0 rf1 rT hb2
    rw [← HL.out] at c2 HR
    go_wp2_with fail
    refine bodyPost_ret (v := .tuple #[.agg #[.slice ac L.length kc, .slice none 0 0], .bool true]) (by simp [results, Try.results17, go_sem, q0, q1]) rfl ?_
    refine ⟨_, rfl, ?_, (hw2.setCell (by simp) _).setCell (by simp) _⟩
    have h1 := owns_setT HR.out (p := ⟨w.heap.size + 1, 0, none⟩) qT (by decide) (.slice ac L.length kc)
    have h2 := owns_setT h1 (p := ⟨w.heap.size + 1, 1, none⟩) (qT.set _ _) (by decide) (.slice none 0 0)
    exact Go.Joins.ownsRow_le h2 hzz

end Go.Proofs.Ytnmoocgocnjdjaa
