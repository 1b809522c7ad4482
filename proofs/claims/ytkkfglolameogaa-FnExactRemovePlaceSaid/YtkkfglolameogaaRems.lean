/-
  WALK: RemovePlace of the model.
-/
import Derived.Test.YtkkfglolameogaaRem
namespace Go.Proofs.Ytkkfglolameogaa
open Go.RowKit

/-- two lists of a row written anew -/
theorem OwnTrs.upd {B : Nat} {w : World} {ys : List Value} {m j : Nat} {ts us : List Tr} {v0 v1 : Value} (h : OwnTrs B w ys m ts) (hj : j < m) (h0 : IRow B w v0 (us.getD j ([], [])).1) (h1 : IRow B w v1 (us.getD j ([], [])).2) (ho : ∀ i, i < m → i ≠ j → us.getD i ([], []) = ts.getD i ([], [])) :
    OwnTrs B w ((ys.set (j * 2) v0).set (j * 2 + 1) v1) m us := by
  have hl := h.1
  refine ⟨by simp [hl], fun i hi => ?_⟩
  by_cases e : i = j
  · subst e
    refine ⟨v0, v1, ?_, ?_, h0, h1⟩
    · rw [List.getElem?_set_ne (by omega), List.getElem?_set_self (by omega)]
    · rw [List.getElem?_set_self (by simp; omega)]
  · obtain ⟨u0, u1, e0, e1, q0, q1⟩ := h.2 i hi
    rw [ho i hi e]
    refine ⟨u0, u1, ?_, ?_, q0, q1⟩
    · rw [List.getElem?_set_ne (by omega), List.getElem?_set_ne (by omega)]; exact e0
    · rw [List.getElem?_set_ne (by omega), List.getElem?_set_ne (by omega)]; exact e1

set_option maxRecDepth 100000 in
set_option maxHeartbeats 4000000 in
theorem specRemovePlace_any (v : Value) (s : StgD) (g0 : Int) (w : World) (lo : Nat) (hv : StgAt lo w v s) (hs : SmallStg s) :
    Calls Try.prog 27 #[v, .int .i64 g0] w (RetSB w (remR s g0) (remB s g0)) := by
  obtain ⟨a0, c0, a1, c1, a2, c2, rfl, hn_, hsg, hl_⟩ := hv.form
  have HN := Lib.hid (netTrs hn_); clear hn_
  have HV := Lib.hid hv; clear hv
  have HG := Lib.hid hsg; clear hsg
  have HLA := Lib.hid hl_; clear hl_
  have HS := Lib.hid hs; clear hs
  obtain ⟨RR, hRR⟩ : ∃ R, R = (remR s g0) := ⟨_, rfl⟩
  obtain ⟨BB, hBB⟩ : ∃ B, B = (remB s g0) := ⟨_, rfl⟩
  rw [← hRR, ← hBB]
  have HR := Lib.hid hRR; clear hRR
  have HB := Lib.hid hBB; clear hBB
  obtain ⟨p, hp⟩ : ∃ x, x = s.net.places := ⟨_, rfl⟩
  obtain ⟨m, hm⟩ : ∃ x, x = s.net.ts.length := ⟨_, rfl⟩
  obtain ⟨ns, hns⟩ : ∃ x, x = s.sigs.length := ⟨_, rfl⟩
  obtain ⟨nl, hnl⟩ : ∃ x, x = s.labs.length := ⟨_, rfl⟩
  obtain ⟨st, hst⟩ : ∃ x, x = s.start := ⟨_, rfl⟩
  rw [← hp, ← hm, ← hns, ← hnl, ← hst] at HV ⊢
  rw [← hns] at HG
  rw [← hnl] at HLA
  have HP := Lib.hid (And.intro hp (And.intro hm (And.intro hns (And.intro hnl hst)))); clear hp hm hns hnl hst
  have HT := Lib.hid (show TrsAt lo w (.slice a0 m c0) s.net.ts by rw [HP.out.2.1]; exact HN.out); clear HN
  go_enter Try.func27, Try.ntmps27
  go_wp2_with fail
  refine (l2Good_any _ s _ lo (HV.out.keep ?_) HS.out).mono ?_
  · (repeat' (first | (with_reducible exact Carries.refl _ _) | (with_reducible assumption) | (with_reducible refine Carries.alloc ?_ _) | (with_reducible refine Carries.drew ?_) | (with_reducible refine Carries.drewN ?_ _) | (with_reducible refine Carries.set ?_ ?_ _) | go_size))
  rintro e w1 ⟨rfl, hb⟩
  have hw1 : Below w.heap.size w w1 := by
    refine Below.trans ?_ (hb.mono ?_)
    · (repeat' (first | (with_reducible exact Below.refl _ _) | (with_reducible assumption) | (with_reducible refine Below.alloc ?_ ?_ _) | (with_reducible refine Below.drew ?_) | (with_reducible refine below_drewN ?_ _) | (with_reducible refine Below.setCell ?_ ?_ _) | go_size))
    · simp; omega
  have x0 : w1.cell? ⟨w.heap.size, 0, none⟩ = some (.int .i64 p) := cell_carry (by simp [go_sem]) (Carries.of 0 hb)
  have x1 : w1.cell? ⟨w.heap.size, 1, none⟩ = some (.slice a0 m c0) := cell_carry (by simp [go_sem]) (Carries.of 0 hb)
  have x2 : w1.cell? ⟨w.heap.size, 2, none⟩ = some (.slice a1 ns c1) := cell_carry (by simp [go_sem]) (Carries.of 0 hb)
  have x3 : w1.cell? ⟨w.heap.size, 3, none⟩ = some (.slice a2 nl c2) := cell_carry (by simp [go_sem]) (Carries.of 0 hb)
  have x4 : w1.cell? ⟨w.heap.size, 4, none⟩ = some (.string st) := cell_carry (by simp [go_sem]) (Carries.of 0 hb)
  have r0 : w1.cell? ⟨w.heap.size + 1, 0, none⟩ = some (.int .i64 0) := cell_carry (by simp [go_sem]) (Carries.of 0 hb)
  have rf0 : w1.frozen? ⟨w.heap.size + 1, 0, none⟩ = false := (hb.frozen (by simp)).trans (by simp [go_sem])
  have r1 : w1.cell? ⟨w.heap.size + 1, 1, none⟩ = some (.slice none 0 0) := cell_carry (by simp [go_sem]) (Carries.of 0 hb)
  have rf1 : w1.frozen? ⟨w.heap.size + 1, 1, none⟩ = false := (hb.frozen (by simp)).trans (by simp [go_sem])
  have r2 : w1.cell? ⟨w.heap.size + 1, 2, none⟩ = some (.slice none 0 0) := cell_carry (by simp [go_sem]) (Carries.of 0 hb)
  have rf2 : w1.frozen? ⟨w.heap.size + 1, 2, none⟩ = false := (hb.frozen (by simp)).trans (by simp [go_sem])
  have r3 : w1.cell? ⟨w.heap.size + 1, 3, none⟩ = some (.slice none 0 0) := cell_carry (by simp [go_sem]) (Carries.of 0 hb)
  have rf3 : w1.frozen? ⟨w.heap.size + 1, 3, none⟩ = false := (hb.frozen (by simp)).trans (by simp [go_sem])
  have r4 : w1.cell? ⟨w.heap.size + 1, 4, none⟩ = some (.string ⟨#[]⟩) := cell_carry (by simp [go_sem]) (Carries.of 0 hb)
  have rf4 : w1.frozen? ⟨w.heap.size + 1, 4, none⟩ = false := (hb.frozen (by simp)).trans (by simp [go_sem])
  have z1 : w.heap.size + 1 < w1.heap.size := by have := hb.size; simp at this; omega
  clear hb
  cases hg : goodS s with
  | false =>
    have hno : remB s g0 = false := by unfold remB; rw [hg]; rfl
    clear hg
    have e1 := HB.out
    rw [hno] at e1
    have e2 := HR.out
    rw [remR_no hno] at e2
    subst e1; subst e2
    go_wp2_with fail
    generalize hWX : (((((w1.setCell ⟨w.heap.size + 1, 0, none⟩ (.int .i64 0)).setCell ⟨w.heap.size + 1, 1, none⟩ (.slice none 0 0)).setCell ⟨w.heap.size + 1, 2, none⟩ (.slice none 0 0)).setCell ⟨w.heap.size + 1, 3, none⟩ (.slice none 0 0)).setCell ⟨w.heap.size + 1, 4, none⟩ (.string ⟨#[]⟩)) = WX
    obtain ⟨q0, q1, q2, q3, q4⟩ := put5_cells hWX r0 r1 r2 r3 r4
    have hbf := put5_below hWX hw1 (by omega)
    clear hWX
    refine bodyPost_ret (v := .tuple #[.agg #[.int .i64 0, .slice none 0 0, .slice none 0 0, .slice none 0 0, .string ⟨#[]⟩], .bool false]) (by simp [results, Try.results27, go_sem, q0, q1, q2, q3, q4]) rfl ?_
    exact ⟨_, rfl, (SepStg.zero _).at.low hbf.size, hbf⟩
  | true =>
  have hpl := goodS_places' hg
  have HPL := Lib.hid hpl; clear hpl
  have hpp := goodS_pl hg
  have hst := goodS_mark hg
  have HGS := Lib.hid hg; clear hg
  rw [← HP.out.1] at hpp
  rw [← HP.out.1, ← HP.out.2.2.2.2] at hst
  obtain ⟨pp1, pp2⟩ := hpp
  have HSZ := Lib.hid hst; clear hst
  go_wp2_with fail
  refine (l1In_any _ _ _ _).mono ?_
  rintro e wa ⟨rfl, hb⟩
  have hwa : Below w.heap.size w wa := hw1.trans (hb.mono hw1.size)
  have x0 := cell_carry x0 (Carries.of 0 hb)
  have x1 := cell_carry x1 (Carries.of 0 hb)
  have x2 := cell_carry x2 (Carries.of 0 hb)
  have x3 := cell_carry x3 (Carries.of 0 hb)
  have x4 := cell_carry x4 (Carries.of 0 hb)
  have r0 := cell_carry r0 (Carries.of 0 hb)
  have rf0 := (hb.frozen (p := ⟨w.heap.size + 1, 0, none⟩) z1).trans rf0
  have r1 := cell_carry r1 (Carries.of 0 hb)
  have rf1 := (hb.frozen (p := ⟨w.heap.size + 1, 1, none⟩) z1).trans rf1
  have r2 := cell_carry r2 (Carries.of 0 hb)
  have rf2 := (hb.frozen (p := ⟨w.heap.size + 1, 2, none⟩) z1).trans rf2
  have r3 := cell_carry r3 (Carries.of 0 hb)
  have rf3 := (hb.frozen (p := ⟨w.heap.size + 1, 3, none⟩) z1).trans rf3
  have r4 := cell_carry r4 (Carries.of 0 hb)
  have rf4 := (hb.frozen (p := ⟨w.heap.size + 1, 4, none⟩) z1).trans rf4
  have za : w.heap.size + 1 < wa.heap.size := by have := hb.size; omega
  clear hb hw1 z1
  by_cases hin : 0 ≤ g0 ∧ g0 < p
  case neg =>
    have hno : remB s g0 = false := by unfold remB; rw [← HP.out.1, decide_eq_false hin]; simp
    rw [decide_eq_false (by omega)]
    clear hin
    have e1 := HB.out
    rw [hno] at e1
    have e2 := HR.out
    rw [remR_no hno] at e2
    subst e1; subst e2
    go_wp2_with fail
    generalize hWX : (((((wa.setCell ⟨w.heap.size + 1, 0, none⟩ (.int .i64 0)).setCell ⟨w.heap.size + 1, 1, none⟩ (.slice none 0 0)).setCell ⟨w.heap.size + 1, 2, none⟩ (.slice none 0 0)).setCell ⟨w.heap.size + 1, 3, none⟩ (.slice none 0 0)).setCell ⟨w.heap.size + 1, 4, none⟩ (.string ⟨#[]⟩)) = WX
    obtain ⟨q0, q1, q2, q3, q4⟩ := put5_cells hWX r0 r1 r2 r3 r4
    have hbf := put5_below hWX hwa (by omega)
    clear hWX
    refine bodyPost_ret (v := .tuple #[.agg #[.int .i64 0, .slice none 0 0, .slice none 0 0, .slice none 0 0, .string ⟨#[]⟩], .bool false]) (by simp [results, Try.results27, go_sem, q0, q1, q2, q3, q4]) rfl ?_
    exact ⟨_, rfl, (SepStg.zero _).at.low hbf.size, hbf⟩
  rw [decide_eq_true (by omega)]
  obtain ⟨k, rfl⟩ : ∃ k : Nat, g0 = k := ⟨g0.toNat, by omega⟩
  have hkp : (k : Int) < p := hin.2
  have HIN := Lib.hid (show decide (0 ≤ (k : Int) ∧ (k : Int) < s.net.places) = true from decide_eq_true (by rw [← HP.out.1]; exact hin)); clear hin
  go_wp2_with fail
  refine (l3Unused_any _ s (k : Int) _ lo (HV.out.keep (Carries.of lo hwa)) HS.out).mono ?_
  rintro e wq ⟨rfl, hb⟩
  have hwq : Below w.heap.size w wq := hwa.trans (hb.mono hwa.size)
  have x0 := cell_carry x0 (Carries.of 0 hb)
  have x1 := cell_carry x1 (Carries.of 0 hb)
  have x2 := cell_carry x2 (Carries.of 0 hb)
  have x3 := cell_carry x3 (Carries.of 0 hb)
  have x4 := cell_carry x4 (Carries.of 0 hb)
  have r0 := cell_carry r0 (Carries.of 0 hb)
  have rf0 := (hb.frozen (p := ⟨w.heap.size + 1, 0, none⟩) za).trans rf0
  have r1 := cell_carry r1 (Carries.of 0 hb)
  have rf1 := (hb.frozen (p := ⟨w.heap.size + 1, 1, none⟩) za).trans rf1
  have r2 := cell_carry r2 (Carries.of 0 hb)
  have rf2 := (hb.frozen (p := ⟨w.heap.size + 1, 2, none⟩) za).trans rf2
  have r3 := cell_carry r3 (Carries.of 0 hb)
  have rf3 := (hb.frozen (p := ⟨w.heap.size + 1, 3, none⟩) za).trans rf3
  have r4 := cell_carry r4 (Carries.of 0 hb)
  have rf4 := (hb.frozen (p := ⟨w.heap.size + 1, 4, none⟩) za).trans rf4
  have zq : w.heap.size + 1 < wq.heap.size := by have := hb.size; omega
  clear hb hwa za
  cases hu : unusedB s.net.ts (k : Int) with
  | false =>
    have hno : remB s k = false := by unfold remB; rw [hu]; simp
    clear hu hkp
    have e1 := HB.out
    rw [hno] at e1
    have e2 := HR.out
    rw [remR_no hno] at e2
    subst e1; subst e2
    go_wp2_with fail
    generalize hWX : (((((wq.setCell ⟨w.heap.size + 1, 0, none⟩ (.int .i64 0)).setCell ⟨w.heap.size + 1, 1, none⟩ (.slice none 0 0)).setCell ⟨w.heap.size + 1, 2, none⟩ (.slice none 0 0)).setCell ⟨w.heap.size + 1, 3, none⟩ (.slice none 0 0)).setCell ⟨w.heap.size + 1, 4, none⟩ (.string ⟨#[]⟩)) = WX
    obtain ⟨q0, q1, q2, q3, q4⟩ := put5_cells hWX r0 r1 r2 r3 r4
    have hbf := put5_below hWX hwq (by omega)
    clear hWX
    refine bodyPost_ret (v := .tuple #[.agg #[.int .i64 0, .slice none 0 0, .slice none 0 0, .slice none 0 0, .string ⟨#[]⟩], .bool false]) (by simp [results, Try.results27, go_sem, q0, q1, q2, q3, q4]) rfl ?_
    exact ⟨_, rfl, (SepStg.zero _).at.low hbf.size, hbf⟩
  | true =>
  by_cases hn1 : p = 1
  case pos =>
    have hno : remB s k = false := by unfold remB; rw [decide_eq_false (show ¬ s.net.places ≠ 1 by rw [← HP.out.1]; omega)]; simp
    have t3 : decide (p < 2) = true := decide_eq_true (by omega)
    clear hu hkp
    have e1 := HB.out
    rw [hno] at e1
    have e2 := HR.out
    rw [remR_no hno] at e2
    subst e1; subst e2
    go_wp2_with fail
    generalize hWX : (((((wq.setCell ⟨w.heap.size + 1, 0, none⟩ (.int .i64 0)).setCell ⟨w.heap.size + 1, 1, none⟩ (.slice none 0 0)).setCell ⟨w.heap.size + 1, 2, none⟩ (.slice none 0 0)).setCell ⟨w.heap.size + 1, 3, none⟩ (.slice none 0 0)).setCell ⟨w.heap.size + 1, 4, none⟩ (.string ⟨#[]⟩)) = WX
    obtain ⟨q0, q1, q2, q3, q4⟩ := put5_cells hWX r0 r1 r2 r3 r4
    have hbf := put5_below hWX hwq (by omega)
    clear hWX
    refine bodyPost_ret (v := .tuple #[.agg #[.int .i64 0, .slice none 0 0, .slice none 0 0, .slice none 0 0, .string ⟨#[]⟩], .bool false]) (by simp [results, Try.results27, go_sem, q0, q1, q2, q3, q4]) rfl ?_
    exact ⟨_, rfl, (SepStg.zero _).at.low hbf.size, hbf⟩
  have t3 : decide (p < 2) = false := decide_eq_false (by omega)
  have hyes : remB s k = true := by unfold remB; rw [HGS.out, HIN.out, hu, decide_eq_true (show s.net.places ≠ 1 by rw [← HP.out.1]; omega)]; rfl
  have HY := Lib.hid hyes; clear hyes hu HIN
  go_wp2_with fail
  refine (l2Own_any _ s _ lo (HV.out.keep (Carries.of lo hwq)) HS.out.1 HS.out.2.1.1 HS.out.2.2.1).mono ?_
  rintro e w2 ⟨u, xs, vs, vl, rfl, hot, hlists, hos, hol, hb⟩
  have hw2 : Below w.heap.size w w2 := hwq.trans (hb.mono hwq.size)
  have hap1 := rows_apartT hos hot (by decide)
  have hap2 := rows_apartT hol hot (by decide)
  obtain ⟨ua, uc, rfl⟩ := owns_form hot
  obtain ⟨sa, sc, rfl⟩ := owns_form hos
  obtain ⟨la, lc, rfl⟩ := owns_form hol
  have huH := fun q hq => (hot.lt q hq).2
  have HAP := Lib.hid (And.intro hap1 hap2); clear hap1 hap2
  rw [← HP.out.2.1] at hot hlists huH HAP
  rw [← HP.out.1, ← HP.out.2.1, ← HP.out.2.2.1, ← HP.out.2.2.2.1, ← HP.out.2.2.2.2]
  have x1 := cell_carry x1 (Carries.of 0 hb)
  have x4 := cell_carry x4 (Carries.of 0 hb)
  have r0 := cell_carry r0 (Carries.of 0 hb)
  have rf0 := (hb.frozen (p := ⟨w.heap.size + 1, 0, none⟩) zq).trans rf0
  have r1 := cell_carry r1 (Carries.of 0 hb)
  have rf1 := (hb.frozen (p := ⟨w.heap.size + 1, 1, none⟩) zq).trans rf1
  have r2 := cell_carry r2 (Carries.of 0 hb)
  have rf2 := (hb.frozen (p := ⟨w.heap.size + 1, 2, none⟩) zq).trans rf2
  have r3 := cell_carry r3 (Carries.of 0 hb)
  have rf3 := (hb.frozen (p := ⟨w.heap.size + 1, 3, none⟩) zq).trans rf3
  have r4 := cell_carry r4 (Carries.of 0 hb)
  have rf4 := (hb.frozen (p := ⟨w.heap.size + 1, 4, none⟩) zq).trans rf4
  have z2 : wq.heap.size ≤ w2.heap.size := hb.size
  have hog : (∀ u : Value, (Value.slice sa s.sigs.length sc).ownBlock = none ∨ (Value.slice sa s.sigs.length sc).ownBlock ≠ some w2.heap.size) ∧ (∀ u : Value, (Value.slice la s.labs.length lc).ownBlock = none ∨ (Value.slice la s.labs.length lc).ownBlock ≠ some w2.heap.size) ∧ (∀ v : Value, (Value.slice ua m uc).ownBlock = none ∨ (Value.slice ua m uc).ownBlock ≠ some w2.heap.size) :=
    ⟨fun _ => Or.inr (fun e => by have := (hos.lt _ e).2; omega), fun _ => Or.inr (fun e => by have := (hol.lt _ e).2; omega), fun _ => Or.inr (fun e => by have := huH _ e; omega)⟩
  have HOG := Lib.hid hog; clear hog
  have HUH := Lib.hid huH; clear huH
  have HOT := Lib.hid hot; clear hot
  have HLI := Lib.hid hlists; clear hlists
  have HOS := Lib.hid hos; clear hos
  have HOL := Lib.hid hol; clear hol
  clear hb x0 x2 x3
  have q1 : (0 : Int) ≤ (k : Int) := by omega
  have q2 : (k : Int) + 1 ≤ 9223372036854775807 := by omega
  have q3 : (k : Int) ≤ (st.size : Int) := by have := HSZ.out; omega
  have q4 : (k : Int) + 1 ≤ (st.size : Int) := by have := HSZ.out; omega
  have q5 : (0 : Int) ≤ (k : Int) + 1 := by omega
  have q7 : ¬ 9223372036854775807 < min k st.size + (st.size - (k + 1)) := by have := HSZ.out; omega
  have q6 : IntKind.i64.wrap ((k : Int) + 1) = (k : Int) + 1 := IntWalk.i64_in _ ⟨by omega, by omega⟩
  clear t3 hn1 hkp
  go_wp2_with fail
  have hal : Below w2.heap.size w2 (w2.alloc (.cells #[.int .i64 (p - 1), .slice ua m uc, .slice sa ns sc, .slice la nl lc, .string st] 36)) := (Below.refl _ _).alloc (Nat.le_refl _) _
  have x1 := cell_carry x1 (Carries.of 0 hal)
  have x4 := cell_carry x4 (Carries.of 0 hal)
  have r0 := cell_carry r0 (Carries.of 0 hal)
  have rf0 := (hal.frozen (p := ⟨w.heap.size + 1, 0, none⟩) (by show w.heap.size + 1 < w2.heap.size; omega)).trans rf0
  have r1 := cell_carry r1 (Carries.of 0 hal)
  have rf1 := (hal.frozen (p := ⟨w.heap.size + 1, 1, none⟩) (by show w.heap.size + 1 < w2.heap.size; omega)).trans rf1
  have r2 := cell_carry r2 (Carries.of 0 hal)
  have rf2 := (hal.frozen (p := ⟨w.heap.size + 1, 2, none⟩) (by show w.heap.size + 1 < w2.heap.size; omega)).trans rf2
  have r3 := cell_carry r3 (Carries.of 0 hal)
  have rf3 := (hal.frozen (p := ⟨w.heap.size + 1, 3, none⟩) (by show w.heap.size + 1 < w2.heap.size; omega)).trans rf3
  have r4 := cell_carry r4 (Carries.of 0 hal)
  have rf4 := (hal.frozen (p := ⟨w.heap.size + 1, 4, none⟩) (by show w.heap.size + 1 < w2.heap.size; omega)).trans rf4
  have y0 : (w2.alloc (.cells #[.int .i64 (p - 1), .slice ua m uc, .slice sa ns sc, .slice la nl lc, .string st] 36)).cell? ⟨w2.heap.size, 0, none⟩ = some (.int .i64 (p - 1)) := by simp
  have y1 : (w2.alloc (.cells #[.int .i64 (p - 1), .slice ua m uc, .slice sa ns sc, .slice la nl lc, .string st] 36)).cell? ⟨w2.heap.size, 1, none⟩ = some (.slice ua m uc) := by simp
  have y2 : (w2.alloc (.cells #[.int .i64 (p - 1), .slice ua m uc, .slice sa ns sc, .slice la nl lc, .string st] 36)).cell? ⟨w2.heap.size, 2, none⟩ = some (.slice sa ns sc) := by simp
  have y3 : (w2.alloc (.cells #[.int .i64 (p - 1), .slice ua m uc, .slice sa ns sc, .slice la nl lc, .string st] 36)).cell? ⟨w2.heap.size, 3, none⟩ = some (.slice la nl lc) := by simp
  have y4 : (w2.alloc (.cells #[.int .i64 (p - 1), .slice ua m uc, .slice sa ns sc, .slice la nl lc, .string st] 36)).cell? ⟨w2.heap.size, 4, none⟩ = some (.string st) := by simp
  have yf : (w2.alloc (.cells #[.int .i64 (p - 1), .slice ua m uc, .slice sa ns sc, .slice la nl lc, .string st] 36)).frozen? ⟨w2.heap.size, 4, none⟩ = false := by simp
  have z3 : w2.heap.size < (w2.alloc (.cells #[.int .i64 (p - 1), .slice ua m uc, .slice sa ns sc, .slice la nl lc, .string st] 36)).heap.size := by simp
  have hty : TyAt (w2.alloc (.cells #[.int .i64 (p - 1), .slice ua m uc, .slice sa ns sc, .slice la nl lc, .string st] 36)) w2.heap.size 36 := TyAt.new _ _ _
  generalize (w2.alloc (.cells #[.int .i64 (p - 1), .slice ua m uc, .slice sa ns sc, .slice la nl lc, .string st] 36)) = W3 at hal x1 x4 r0 r1 r2 r3 r4 rf0 rf1 rf2 rf3 rf4 y0 y1 y2 y3 y4 yf z3 hty ⊢
  have hw3 : Below w.heap.size w W3 := hw2.trans (hal.mono hw2.size)
  have HT3 := Lib.hid (owns_after HOT.out hal)
  have HI3 := Lib.hid (HLI.out.after hal)
  have HO3 := Lib.hid (owns_after HOS.out hal)
  have HL3 := Lib.hid (owns_after HOL.out hal)
  clear hal HOS HOL HOT HLI
  refine wp_region_held_drew (S := fun w' => w'.cell? ⟨w.heap.size, 4, none⟩ = some (.string st)) (by kernel_rfl) x4 (fun hHeld => ?_)
  have hal : Below W3.heap.size W3 W3.drew := (Below.refl _ _).drew
  have x1 := cell_carry x1 (Carries.of 0 hal)
  have x4 := cell_carry x4 (Carries.of 0 hal)
  have r0 := cell_carry r0 (Carries.of 0 hal)
  have rf0 := (hal.frozen (p := ⟨w.heap.size + 1, 0, none⟩) (by show w.heap.size + 1 < W3.heap.size; omega)).trans rf0
  have r1 := cell_carry r1 (Carries.of 0 hal)
  have rf1 := (hal.frozen (p := ⟨w.heap.size + 1, 1, none⟩) (by show w.heap.size + 1 < W3.heap.size; omega)).trans rf1
  have r2 := cell_carry r2 (Carries.of 0 hal)
  have rf2 := (hal.frozen (p := ⟨w.heap.size + 1, 2, none⟩) (by show w.heap.size + 1 < W3.heap.size; omega)).trans rf2
  have r3 := cell_carry r3 (Carries.of 0 hal)
  have rf3 := (hal.frozen (p := ⟨w.heap.size + 1, 3, none⟩) (by show w.heap.size + 1 < W3.heap.size; omega)).trans rf3
  have r4 := cell_carry r4 (Carries.of 0 hal)
  have rf4 := (hal.frozen (p := ⟨w.heap.size + 1, 4, none⟩) (by show w.heap.size + 1 < W3.heap.size; omega)).trans rf4
  have y0 := cell_carry y0 (Carries.of 0 hal)
  have y1 := cell_carry y1 (Carries.of 0 hal)
  have y2 := cell_carry y2 (Carries.of 0 hal)
  have y3 := cell_carry y3 (Carries.of 0 hal)
  have y4 := cell_carry y4 (Carries.of 0 hal)
  have yf := (hal.frozen (p := ⟨w2.heap.size, 4, none⟩) z3).trans yf
  have z4 : w2.heap.size < W3.drew.heap.size := by have := hal.size; omega
  have hw4 := hw3.trans (hal.mono hw3.size)
  have hty := hty.keep hal
  have HT4 := Lib.hid (owns_after HT3.out hal)
  have HI4 := Lib.hid (HI3.out.after hal)
  have HO4 := Lib.hid (owns_after HO3.out hal)
  have HL4 := Lib.hid (owns_after HL3.out hal)
  clear HT3 HI3 HO3 HL3
  generalize W3.drew = W4 at hal x1 x4 r0 r1 r2 r3 r4 rf0 rf1 rf2 rf3 rf4 y0 y1 y2 y3 y4 yf z4 hw4 hty HT4 HI4 HO4 HL4 hHeld ⊢
  clear hal hw3 z3
  refine tk0 (v := ?_) (by kernel_rfl) (by kernel_rfl) (by kernel_rfl) (by first | exact fun _ _ _ h => h | exact fun _ _ _ h => absurd h.1 (by simp)) (Or.inl ⟨by rfl, ?_⟩) (by assumption) ?_
  rotate_left 1
  focus (intro wx hSw; (try dsimp only at hSw); go_simp; try (with_reducible rfl))
  try simp only [Act.put, List.setIfInBounds_toArray, List.set_cons_zero, List.set_cons_succ]
  refine tk1 (v := ?_) (by kernel_rfl) (by kernel_rfl) (by kernel_rfl) (by first | exact fun _ _ _ h => h | exact fun _ _ _ h => absurd h.1 (by simp)) (Or.inl ⟨by rfl, ?_⟩) (by assumption) ?_
  rotate_left 1
  focus (intro wx hSw; (try dsimp only at hSw); go_simp; try (with_reducible rfl))
  try simp only [Act.put, List.setIfInBounds_toArray, List.set_cons_zero, List.set_cons_succ]
  refine tk2 (v := ?_) (by kernel_rfl) (by kernel_rfl) (by kernel_rfl) (by first | exact fun _ _ _ h => h | exact fun _ _ _ h => absurd h.1 (by simp)) (Or.inl ⟨by rfl, ?_⟩) (by assumption) ?_
  rotate_left 1
  focus (intro wx hSw; (try dsimp only at hSw); go_simp; try (with_reducible rfl))
  try simp only [Act.put, List.setIfInBounds_toArray, List.set_cons_zero, List.set_cons_succ]
  refine tk3 (v := ?_) (by kernel_rfl) (by kernel_rfl) (by kernel_rfl) (by first | exact fun _ _ _ h => h | exact fun _ _ _ h => absurd h.1 (by simp)) (Or.inl ⟨by rfl, ?_⟩) (by assumption) ?_
  rotate_left 1
  focus (intro wx hSw; (try dsimp only at hSw); go_simp; try (with_reducible rfl))
  try simp only [Act.put, List.setIfInBounds_toArray, List.set_cons_zero, List.set_cons_succ]
  refine tk4 (v := ?_) (by kernel_rfl) (by kernel_rfl) (by kernel_rfl) (by first | exact fun _ _ _ h => h | exact fun _ _ _ h => absurd h.1 (by simp)) (Or.inl ⟨by rfl, ?_⟩) (by assumption) ?_
  rotate_left 1
  focus (intro wx hSw; (try dsimp only at hSw); go_simp; try (with_reducible rfl))
  try simp only [Act.put, List.setIfInBounds_toArray, List.set_cons_zero, List.set_cons_succ]
  refine tk5 (v := ?_) (by kernel_rfl) (by kernel_rfl) (by kernel_rfl) (by first | exact fun _ _ _ h => h | exact fun _ _ _ h => absurd h.1 (by simp)) (Or.inl ⟨by rfl, ?_⟩) (by assumption) ?_
  rotate_left 1
  focus (intro wx hSw; (try dsimp only at hSw); go_simp; try (with_reducible rfl))
  try simp only [Act.put, List.setIfInBounds_toArray, List.set_cons_zero, List.set_cons_succ]
  refine tk6 (v := ?_) (by kernel_rfl) (by kernel_rfl) (by kernel_rfl) (by first | exact fun _ _ _ h => h | exact fun _ _ _ h => absurd h.1 (by simp)) (Or.inl ⟨by rfl, ?_⟩) (by assumption) ?_
  rotate_left 1
  focus (intro wx hSw; (try dsimp only at hSw); go_simp; try (with_reducible rfl))
  try simp only [Act.put, List.setIfInBounds_toArray, List.set_cons_zero, List.set_cons_succ]
  refine tk7 (v := ?_) (by kernel_rfl) (by kernel_rfl) (by kernel_rfl) (by first | exact fun _ _ _ h => h | exact fun _ _ _ h => absurd h.1 (by simp)) (Or.inl ⟨by rfl, ?_⟩) (by assumption) ?_
  rotate_left 1
  focus (intro wx hSw; (try dsimp only at hSw); go_simp; try (with_reducible rfl))
  try simp only [Act.put, List.setIfInBounds_toArray, List.set_cons_zero, List.set_cons_succ]
  refine tk8 (v := ?_) (by kernel_rfl) (by kernel_rfl) (by kernel_rfl) (by first | exact fun _ _ _ h => h | exact fun _ _ _ h => absurd h.1 (by simp)) (Or.inl ⟨by rfl, ?_⟩) (by assumption) ?_
  rotate_left 1
  focus (intro wx hSw; (try dsimp only at hSw); go_simp; try (with_reducible rfl))
  try simp only [Act.put, List.setIfInBounds_toArray, List.set_cons_zero, List.set_cons_succ]
  refine tk9 (v := ?_) (by kernel_rfl) (by kernel_rfl) (by kernel_rfl) (by first | exact fun _ _ _ h => h | exact fun _ _ _ h => absurd h.1 (by simp)) (Or.inl ⟨by rfl, ?_⟩) (by assumption) ?_
  rotate_left 1
  focus (intro wx hSw; (try dsimp only at hSw); go_simp; try (with_reducible rfl))
  try simp only [Act.put, List.setIfInBounds_toArray, List.set_cons_zero, List.set_cons_succ]
  refine tk10 (v := ?_) (by kernel_rfl) (by kernel_rfl) (by kernel_rfl) (by first | exact fun _ _ _ h => h | exact fun _ _ _ h => absurd h.1 (by simp)) (Or.inl ⟨by rfl, ?_⟩) (by assumption) ?_
  rotate_left 1
  focus (intro wx hSw; (try dsimp only at hSw); go_simp; try (with_reducible rfl))
  try simp only [Act.put, List.setIfInBounds_toArray, List.set_cons_zero, List.set_cons_succ]
  refine rd11 (by kernel_rfl) (fun K hK => ?_)
  go_simp
  obtain ⟨CS, hCS⟩ : ∃ CS, CS = st.extract 0 k ++ st.extract (k + 1) st.size := ⟨_, rfl⟩
  rw [← hCS]
  have HCS := Lib.hid hCS; clear hCS
  have e0 : (W4.setCell ⟨w2.heap.size, 4, none⟩ (.string CS)).cell? ⟨w2.heap.size, 0, none⟩ = some (.int .i64 (p - 1)) := (World.cell?_setCell_other _ _ _ _ (by simp)).trans y0
  have e1 : (W4.setCell ⟨w2.heap.size, 4, none⟩ (.string CS)).cell? ⟨w2.heap.size, 1, none⟩ = some (.slice ua m uc) := (World.cell?_setCell_other _ _ _ _ (by simp)).trans y1
  have e2 : (W4.setCell ⟨w2.heap.size, 4, none⟩ (.string CS)).cell? ⟨w2.heap.size, 2, none⟩ = some (.slice sa ns sc) := (World.cell?_setCell_other _ _ _ _ (by simp)).trans y2
  have e3 : (W4.setCell ⟨w2.heap.size, 4, none⟩ (.string CS)).cell? ⟨w2.heap.size, 3, none⟩ = some (.slice la nl lc) := (World.cell?_setCell_other _ _ _ _ (by simp)).trans y3
  have e4 : (W4.setCell ⟨w2.heap.size, 4, none⟩ (.string CS)).cell? ⟨w2.heap.size, 4, none⟩ = some (.string CS) := World.cell?_setCell_same _ _ _ y4
  have r0' := (show (W4.setCell ⟨w2.heap.size, 4, none⟩ (.string CS)).cell? ⟨w.heap.size + 1, 0, none⟩ = W4.cell? ⟨w.heap.size + 1, 0, none⟩ from World.cell?_setCell_far _ _ _ _ (by simp; omega)).trans r0
  have rf0' := (show (W4.setCell ⟨w2.heap.size, 4, none⟩ (.string CS)).frozen? ⟨w.heap.size + 1, 0, none⟩ = W4.frozen? ⟨w.heap.size + 1, 0, none⟩ from World.frozen?_setCell _ _ _ _).trans rf0
  have r1' := (show (W4.setCell ⟨w2.heap.size, 4, none⟩ (.string CS)).cell? ⟨w.heap.size + 1, 1, none⟩ = W4.cell? ⟨w.heap.size + 1, 1, none⟩ from World.cell?_setCell_far _ _ _ _ (by simp; omega)).trans r1
  have rf1' := (show (W4.setCell ⟨w2.heap.size, 4, none⟩ (.string CS)).frozen? ⟨w.heap.size + 1, 1, none⟩ = W4.frozen? ⟨w.heap.size + 1, 1, none⟩ from World.frozen?_setCell _ _ _ _).trans rf1
  have r2' := (show (W4.setCell ⟨w2.heap.size, 4, none⟩ (.string CS)).cell? ⟨w.heap.size + 1, 2, none⟩ = W4.cell? ⟨w.heap.size + 1, 2, none⟩ from World.cell?_setCell_far _ _ _ _ (by simp; omega)).trans r2
  have rf2' := (show (W4.setCell ⟨w2.heap.size, 4, none⟩ (.string CS)).frozen? ⟨w.heap.size + 1, 2, none⟩ = W4.frozen? ⟨w.heap.size + 1, 2, none⟩ from World.frozen?_setCell _ _ _ _).trans rf2
  have r3' := (show (W4.setCell ⟨w2.heap.size, 4, none⟩ (.string CS)).cell? ⟨w.heap.size + 1, 3, none⟩ = W4.cell? ⟨w.heap.size + 1, 3, none⟩ from World.cell?_setCell_far _ _ _ _ (by simp; omega)).trans r3
  have rf3' := (show (W4.setCell ⟨w2.heap.size, 4, none⟩ (.string CS)).frozen? ⟨w.heap.size + 1, 3, none⟩ = W4.frozen? ⟨w.heap.size + 1, 3, none⟩ from World.frozen?_setCell _ _ _ _).trans rf3
  have r4' := (show (W4.setCell ⟨w2.heap.size, 4, none⟩ (.string CS)).cell? ⟨w.heap.size + 1, 4, none⟩ = W4.cell? ⟨w.heap.size + 1, 4, none⟩ from World.cell?_setCell_far _ _ _ _ (by simp; omega)).trans r4
  have rf4' := (show (W4.setCell ⟨w2.heap.size, 4, none⟩ (.string CS)).frozen? ⟨w.heap.size + 1, 4, none⟩ = W4.frozen? ⟨w.heap.size + 1, 4, none⟩ from World.frozen?_setCell _ _ _ _).trans rf4
  have x1' := (show (W4.setCell ⟨w2.heap.size, 4, none⟩ (.string CS)).cell? ⟨w.heap.size, 1, none⟩ = W4.cell? ⟨w.heap.size, 1, none⟩ from World.cell?_setCell_far _ _ _ _ (by simp; omega)).trans x1
  have x4' := (show (W4.setCell ⟨w2.heap.size, 4, none⟩ (.string CS)).cell? ⟨w.heap.size, 4, none⟩ = W4.cell? ⟨w.heap.size, 4, none⟩ from World.cell?_setCell_far _ _ _ _ (by simp; omega)).trans x4
  have hw5 : Below w.heap.size w (W4.setCell ⟨w2.heap.size, 4, none⟩ (.string CS)) := hw4.setCell (by show w.heap.size ≤ w2.heap.size; omega) _
  have HT5 := Lib.hid (HT4.out.kept (grownBy_set W4 ⟨w2.heap.size, 4, none⟩ (.string CS)) (HOG.out.2.2 (.string CS)))
  have HI5 := Lib.hid (HI4.out.setT (p := ⟨w2.heap.size, 4, none⟩) hty (by decide) (.string CS))
  have HO5 := Lib.hid (HO4.out.kept (grownBy_set W4 ⟨w2.heap.size, 4, none⟩ (.string CS)) (HOG.out.1 (.string CS)))
  have HL5 := Lib.hid (HL4.out.kept (grownBy_set W4 ⟨w2.heap.size, 4, none⟩ (.string CS)) (HOG.out.2.1 (.string CS)))
  have z5 : w2.heap.size < (W4.setCell ⟨w2.heap.size, 4, none⟩ (.string CS)).heap.size := by simpa using z4
  clear r0 r1 r2 r3 r4 rf0 rf1 rf2 rf3 rf4 y0 y1 y2 y3 y4 yf HT4 HI4 HO4 HL4 hw4 hty
  generalize (W4.setCell ⟨w2.heap.size, 4, none⟩ (.string CS)) = W5 at e0 e1 e2 e3 e4 r0' r1' r2' r3' r4' rf0' rf1' rf2' rf3' rf4' x1' x4' hw5 HT5 HI5 HO5 HL5 z5 ⊢
  refine hK.out _ _ x4' (fun hHeld => ?_)
  clear hK K
  try simp only [Act.put, List.setIfInBounds_toArray, List.set_cons_zero, List.set_cons_succ]
  refine wpAnyH_done (by kernel_rfl) ?_ _
  clear x4 x4' x1 q2 q3 q4 q5 q6 q7
  have HTS := Lib.hid HP.out.2.1
  obtain ⟨ts, hts⟩ : ∃ ts, ts = s.net.ts := ⟨_, rfl⟩
  rw [← hts] at HI5 HTS HT
  have HG2 := Lib.hid (show SmallTrs ts ∧ LowTs ts by rw [hts]; exact ⟨HS.out.1, goodN_low (goodS_net HGS.out)⟩)
  have HTSE := Lib.hid hts; clear hts
  have hm8 : m ≤ 1048576 := by rw [HTS.out]; exact HG2.out.1.1
  have HNQ : Hid ((∀ q, q < wq.heap.size → some q ≠ (Value.slice ua m uc).ownBlock) ∧ some w2.heap.size ≠ (Value.slice ua m uc).ownBlock) :=
    ⟨fun q hq e => by have := (HT5.out.lt q e.symm).1; omega, fun e => by have := HUH.out _ e.symm; omega⟩
  have HI5' : Hid (OwnTrs wq.heap.size W5 xs m (clTs 0 ts (k : Int))) := HI5.out.congr (fun i hi => by rw [clTs_get (by rw [← HTS.out]; exact hi), if_neg (Nat.not_lt_zero _)])
  go_wp2_with fail
  go_loopw [57] (fun i wr => ∃ (j : Nat) (ys : List Value), j ≤ m ∧ i = .int .i64 j ∧ Hid (wr.ownsRow wq.heap.size 64 2 (.slice ua m uc) m ys) ∧ Hid (OwnTrs wq.heap.size wr ys m (clTs j ts (k : Int))) ∧ Hid (W5.grownBy wr (Value.slice ua m uc).ownBlock)) (fun i _ => m - (intOf i).toNat)
  case atStart => exact ⟨0, xs, Nat.zero_le _, rfl, HT5, HI5', ⟨rfl, rfl, rfl, Nat.le_refl _, fun _ _ _ => rfl⟩⟩
  case round =>
    obtain ⟨j, ys, hj, rfl, hown, hli, hgrow⟩ := hrel
    have zz := hgrow.out.size
    have hwr : Below w.heap.size w wr := hw5.grown hgrow.out hw5.size (fun b hb => by have := (hown.out.lt b hb).1; omega)
    by_cases hlt : j < m
    · have hjt : j < ts.length := by rw [← HTS.out]; exact hlt
      obtain ⟨ao, cap, e, hc, hz⟩ := HT.out
      simp only [Value.slice.injEq] at e
      obtain ⟨rfl, -, rfl⟩ := e
      rcases hz with rfl | ⟨b, off, rfl, hlo, hcell⟩
      · simp at hjt
      obtain ⟨v0, v1, c0', c1', hi0, hi1⟩ := hcell j hjt
      obtain ⟨sx0, sx1⟩ := HG2.out.1.2 j hjt
      obtain ⟨lx0, lx1⟩ := HG2.out.2 j hjt
      have hnew := clTs_new (g := (k : Int)) hjt
      obtain ⟨X, hX⟩ : ∃ X, X = ts.getD j ([], []) := ⟨_, rfl⟩
      rw [← hX] at hi0 hi1 sx0 sx1 lx0 lx1 hnew
      clear hX hcell
      obtain ⟨xa0, xk0, rfl, _, _⟩ := id hi0
      obtain ⟨xa1, xk1, rfl, _, _⟩ := id hi1
      have c0' := Carries.of lo hwr _ _ hlo c0'
      have c1' := Carries.of lo hwr _ _ hlo c1'
      have I0 := Lib.hid (hi0.keep (Carries.of lo hwr)); clear hi0
      have I1 := Lib.hid (hi1.keep (Carries.of lo hwr)); clear hi1
      have L0 := Lib.hid lx0; clear lx0
      have L1 := Lib.hid lx1; clear lx1
      have HNW := Lib.hid hnew; clear hnew
      rcases id hown.out.2 with ⟨e, hn0⟩ | ⟨gl, cap', cur, e, hglb, hgg, _⟩
      · omega
      simp only [Value.slice.injEq, true_and] at e
      obtain ⟨rfl, rfl⟩ := e
      have e1 := hgrow.out.cell e1 HNQ.out.2
      have hal : Below wr.heap.size wr (wr.alloc (.cells #[.slice xa0 X.1.length xk0, .slice xa1 X.2.length xk1] 64)) := (Below.refl _ _).alloc (Nat.le_refl _) _
      have e1 := cell_carry e1 (Carries.of 0 hal)
      go_wp2_with fail
      have t0 : (wr.alloc (.cells #[.slice xa0 X.1.length xk0, .slice xa1 X.2.length xk1] 64)).cell? ⟨wr.heap.size, 0, none⟩ = some (.slice xa0 X.1.length xk0) := by simp
      have t1 : (wr.alloc (.cells #[.slice xa0 X.1.length xk0, .slice xa1 X.2.length xk1] 64)).cell? ⟨wr.heap.size, 1, none⟩ = some (.slice xa1 X.2.length xk1) := by simp
      have zA : (wr.alloc (.cells #[.slice xa0 X.1.length xk0, .slice xa1 X.2.length xk1] 64)).heap.size = wr.heap.size + 1 := by simp
      clear c0' c1'
      generalize wr.alloc (.cells #[.slice xa0 X.1.length xk0, .slice xa1 X.2.length xk1] 64) = WA at hal e1 t0 t1 zA ⊢
      have hgA := Lib.grownBy_trans hgrow.out ⟨hal.os, hal.tape, hal.output, hal.size, fun q hq _ => hal.block q hq⟩
      have hTY : TyAt WA gl 64 := TyAt.keep ⟨_, _, hgg⟩ hal
      have HGA := Lib.hid hgA; clear hgA
      have HRA := Lib.hid (owns_after hown.out hal)
      have HLA_ := Lib.hid (hli.out.after hal)
      have I0 := Lib.hid (I0.out.keep (Carries.of lo hal))
      have I1 := Lib.hid (I1.out.keep (Carries.of lo hal))
      have hglH : gl < w2.heap.size := HUH.out gl rfl
      clear hal hown hli hgrow hgg
      refine wp_region_held_drew (S := fun w' => w'.cell? ⟨w2.heap.size, 1, none⟩ = some (.slice (some ⟨gl, 0, none⟩) m uc) ∧ w'.cell? ⟨wr.heap.size, 0, none⟩ = some (.slice xa0 X.1.length xk0) ∧ w'.cell? ⟨wr.heap.size, 1, none⟩ = some (.slice xa1 X.2.length xk1)) (by kernel_rfl) ⟨e1, t0, t1⟩ (fun hHeld => ?_)
      have hd : Below WA.heap.size WA WA.drew := (Below.refl _ _).drew
      generalize WA.drew = W0 at hd hHeld ⊢
      have e1 := cell_carry e1 (Carries.of 0 hd)
      have t0 := cell_carry t0 (Carries.of 0 hd)
      have t1 := cell_carry t1 (Carries.of 0 hd)
      have zdB := hd.size
      have hTY := hTY.keep hd
      have HGB := Lib.hid (Lib.grownBy_trans HGA.out ⟨hd.os, hd.tape, hd.output, hd.size, fun q hq _ => hd.block q hq⟩); clear HGA
      have HRB := Lib.hid (owns_after HRA.out hd); clear HRA
      have HLB_ := Lib.hid (HLA_.out.after hd); clear HLA_
      have I0 := Lib.hid (I0.out.keep (Carries.of lo hd))
      have I1 := Lib.hid (I1.out.keep (Carries.of lo hd))
      clear hd
      refine tk0 (v := ?_) (by kernel_rfl) (by kernel_rfl) (by kernel_rfl) (by first | exact fun _ _ _ h => h | exact fun _ _ _ h => absurd h.1 (by simp)) (Or.inl ⟨by rfl, ?_⟩) (by assumption) ?_
      rotate_left 1
      focus (intro wx hSw; (try dsimp only at hSw); go_simp; try (with_reducible rfl))
      try simp only [Act.put, List.setIfInBounds_toArray, List.set_cons_zero, List.set_cons_succ]
      refine tk1 (v := ?_) (by kernel_rfl) (by kernel_rfl) (by kernel_rfl) (by first | exact fun _ _ _ h => h | exact fun _ _ _ h => absurd h.1 (by simp)) (Or.inl ⟨by rfl, ?_⟩) (by assumption) ?_
      rotate_left 1
      focus (intro wx hSw; (try dsimp only at hSw); go_simp; try (with_reducible rfl))
      try simp only [Act.put, List.setIfInBounds_toArray, List.set_cons_zero, List.set_cons_succ]
      refine tk2 (v := ?_) (by kernel_rfl) (by kernel_rfl) (by kernel_rfl) (by first | exact fun _ _ _ h => h | exact fun _ _ _ h => absurd h.1 (by simp)) (Or.inl ⟨by rfl, ?_⟩) (by assumption) ?_
      rotate_left 1
      focus (intro wx hSw; (try dsimp only at hSw); go_simp; try (with_reducible rfl))
      try simp only [Act.put, List.setIfInBounds_toArray, List.set_cons_zero, List.set_cons_succ]
      refine tk3 (v := ?_) (by kernel_rfl) (by kernel_rfl) (by kernel_rfl) (by first | exact fun _ _ _ h => h | exact fun _ _ _ h => absurd h.1 (by simp)) (Or.inl ⟨by rfl, ?_⟩) (by assumption) ?_
      rotate_left 1
      focus (intro wx hSw; (try dsimp only at hSw); go_simp; try (with_reducible rfl))
      try simp only [Act.put, List.setIfInBounds_toArray, List.set_cons_zero, List.set_cons_succ]
      refine tk4 (v := ?_) (by kernel_rfl) (by kernel_rfl) (by kernel_rfl) (by first | exact fun _ _ _ h => h | exact fun _ _ _ h => absurd h.1 (by simp)) (Or.inl ⟨by rfl, ?_⟩) (by assumption) ?_
      rotate_left 1
      focus (intro wx hSw; (try dsimp only at hSw); go_simp; try (with_reducible rfl))
      try simp only [Act.put, List.setIfInBounds_toArray, List.set_cons_zero, List.set_cons_succ]
      refine tk5 (v := ?_) (by kernel_rfl) (by kernel_rfl) (by kernel_rfl) (by first | exact fun _ _ _ h => h | exact fun _ _ _ h => absurd h.1 (by simp)) (Or.inl ⟨by rfl, ?_⟩) (by assumption) ?_
      rotate_left 1
      focus (intro wx hSw; (try dsimp only at hSw); go_simp; try (with_reducible rfl))
      try simp only [Act.put, List.setIfInBounds_toArray, List.set_cons_zero, List.set_cons_succ]
      refine tk6 (v := ?_) (by kernel_rfl) (by kernel_rfl) (by kernel_rfl) (by first | exact fun _ _ _ h => h | exact fun _ _ _ h => absurd h.1 (by simp)) (Or.inl ⟨by rfl, ?_⟩) (by assumption) ?_
      rotate_left 1
      focus (intro wx hSw; (try dsimp only at hSw); go_simp; try (with_reducible rfl))
      try simp only [Act.put, List.setIfInBounds_toArray, List.set_cons_zero, List.set_cons_succ]
      refine tk8 (v := ?_) (by kernel_rfl) (by kernel_rfl) (by kernel_rfl) (by first | exact fun _ _ _ h => h | exact fun _ _ _ h => absurd h.1 (by simp)) (Or.inl ⟨by rfl, ?_⟩) (by assumption) ?_
      rotate_left 1
      focus (intro wx hSw; (try dsimp only at hSw); go_simp; try (with_reducible rfl))
      try simp only [Act.put, List.setIfInBounds_toArray, List.set_cons_zero, List.set_cons_succ]
      refine tk9 (v := ?_) (by kernel_rfl) (by kernel_rfl) (by kernel_rfl) (by first | exact fun _ _ _ h => h | exact fun _ _ _ h => absurd h.1 (by simp)) (Or.inl ⟨by rfl, ?_⟩) (by assumption) ?_
      rotate_left 1
      focus (intro wx hSw; (try dsimp only at hSw); go_simp; try (with_reducible rfl))
      try simp only [Act.put, List.setIfInBounds_toArray, List.set_cons_zero, List.set_cons_succ]
      refine tk10 (v := ?_) (by kernel_rfl) (by kernel_rfl) (by kernel_rfl) (by first | exact fun _ _ _ h => h | exact fun _ _ _ h => absurd h.1 (by simp)) (Or.inl ⟨by rfl, ?_⟩) (by assumption) ?_
      rotate_left 1
      focus (intro wx hSw; (try dsimp only at hSw); go_simp; try (with_reducible rfl))
      try simp only [Act.put, List.setIfInBounds_toArray, List.set_cons_zero, List.set_cons_succ]
      refine rd7 (by kernel_rfl) (fun K hK => ?_)
      go_simp
      refine (l3Less_any _ X.1 (k : Int) W0 lo I0.out sx0 L0.out q1).mono ?_
      rintro e W1 ⟨y0, rfl, hi0, hbb⟩
      obtain ⟨ya, yk, rfl⟩ := owns_form hi0
      have e1 := cell_carry e1 (Carries.of 0 hbb)
      have t0 := cell_carry t0 (Carries.of 0 hbb)
      have t1 := cell_carry t1 (Carries.of 0 hbb)
      have zdC := hbb.size
      have hTY := hTY.keep hbb
      have HGC := Lib.hid (Lib.grownBy_trans HGB.out ⟨hbb.os, hbb.tape, hbb.output, hbb.size, fun q hq _ => hbb.block q hq⟩); clear HGB
      have HRC := Lib.hid (owns_after HRB.out hbb); clear HRB
      have HLC_ := Lib.hid (HLB_.out.after hbb); clear HLB_
      have I0 := Lib.hid (I0.out.keep (Carries.of lo hbb))
      have I1 := Lib.hid (I1.out.keep (Carries.of lo hbb))
      have J0 := Lib.hid hi0; clear hi0 hbb
      refine hK.out _ _ ⟨e1, t0, t1⟩ (fun hHeld => ?_)
      clear hK K
      try simp only [Act.put, List.setIfInBounds_toArray, List.set_cons_zero, List.set_cons_succ]
      refine rd11 (by kernel_rfl) (fun K hK => ?_)
      go_simp
      refine (l3Less_any _ X.2 (k : Int) W1 lo I1.out sx1 L1.out q1).mono ?_
      rintro e W2 ⟨y1, rfl, hi1, hbb⟩
      obtain ⟨za_, zk, rfl⟩ := owns_form hi1
      have e1 := cell_carry e1 (Carries.of 0 hbb)
      have t0 := cell_carry t0 (Carries.of 0 hbb)
      have t1 := cell_carry t1 (Carries.of 0 hbb)
      have zdD := hbb.size
      have hTY := hTY.keep hbb
      have HGD := Lib.hid (Lib.grownBy_trans HGC.out ⟨hbb.os, hbb.tape, hbb.output, hbb.size, fun q hq _ => hbb.block q hq⟩); clear HGC
      have HRD := Lib.hid (owns_after HRC.out hbb); clear HRC
      have HLD_ := Lib.hid (HLC_.out.after hbb); clear HLC_
      have I0 := Lib.hid (I0.out.keep (Carries.of lo hbb))
      have I1 := Lib.hid (I1.out.keep (Carries.of lo hbb))
      have J0' := Lib.hid (owns_after J0.out hbb); clear J0
      have J1 := Lib.hid hi1; clear hi1 hbb
      refine hK.out _ _ ⟨e1, t0, t1⟩ (fun hHeld => ?_)
      clear hK K
      try simp only [Act.put, List.setIfInBounds_toArray, List.set_cons_zero, List.set_cons_succ]
      have i0 : (0 : Int) ≤ (j : Int) := by omega
      have i1 : (j : Int) < (m : Int) := by omega
      refine tk12 (v := ?_) (by kernel_rfl) (by kernel_rfl) (by kernel_rfl) (by first | exact fun _ _ _ h => h | exact fun _ _ _ h => absurd h.1 (by simp)) (Or.inl ⟨by rfl, ?_⟩) (by assumption) ?_
      rotate_left 1
      focus (intro wx hSw; (try dsimp only at hSw); go_simp; try (with_reducible rfl))
      try simp only [Act.put, List.setIfInBounds_toArray, List.set_cons_zero, List.set_cons_succ]
      refine tk13 (v := ?_) (by kernel_rfl) (by kernel_rfl) (by kernel_rfl) (by first | exact fun _ _ _ h => h | exact fun _ _ _ h => absurd h.1 (by simp)) (Or.inl ⟨by rfl, ?_⟩) (by assumption) ?_
      rotate_left 1
      focus (intro wx hSw; (try dsimp only at hSw); go_simp; try (with_reducible rfl))
      try simp only [Act.put, List.setIfInBounds_toArray, List.set_cons_zero, List.set_cons_succ]
      obtain ⟨o0, o1, oe0, oe1, _, _⟩ := HLD_.out.2 j hlt
      have k0 := (HRD.out.cellAt (j * 2) (by omega)).trans oe0
      have k1 := (HRD.out.cellAt (j * 2 + 1) (by omega)).trans oe1
      have f0 := HRD.out.frozenAt (j * 2)
      have f1 := HRD.out.frozenAt (j * 2 + 1)
      clear oe0 oe1
      refine rd14 (by kernel_rfl) (fun K hK => ?_)
      go_simp
      have s1 := HRD.out.stored (j * 2) (.slice ya (clI X.1 (k : Int)).length yk)
      have s2 := s1.1.stored (j * 2 + 1) (.slice za_ (clI X.2 (k : Int)).length zk)
      have gr := Lib.grownBy_trans (Lib.grownBy_trans HGD.out s1.2) s2.2
      have hl2 := (HLD_.out.setT (p := ⟨gl, j * 2, none⟩) hTY (by decide) (.slice ya (clI X.1 (k : Int)).length yk)).setT (p := ⟨gl, j * 2 + 1, none⟩) (hTY.set _ _) (by decide) (.slice za_ (clI X.2 (k : Int)).length zk)
      have g0 := owns_setT (owns_setT J0'.out (p := ⟨gl, j * 2, none⟩) hTY (by decide) (.slice ya (clI X.1 (k : Int)).length yk)) (p := ⟨gl, j * 2 + 1, none⟩) (hTY.set _ _) (by decide) (.slice za_ (clI X.2 (k : Int)).length zk)
      have g1 := owns_setT (owns_setT J1.out (p := ⟨gl, j * 2, none⟩) hTY (by decide) (.slice ya (clI X.1 (k : Int)).length yk)) (p := ⟨gl, j * 2 + 1, none⟩) (hTY.set _ _) (by decide) (.slice za_ (clI X.2 (k : Int)).length zk)
      have hw0 : wq.heap.size ≤ W0.heap.size := by omega
      have hup := hl2.upd (us := clTs (j + 1) ts (k : Int)) hlt (by rw [HNW.out]; exact Go.Joins.ownsRow_le g0 hw0) (by rw [HNW.out]; exact Go.Joins.ownsRow_le g1 (by omega)) (fun i hi hne => clTs_old (by rw [← HTS.out]; exact hi) hne)
      have HF := Lib.hid (And.intro s2.1 (And.intro hup gr)); clear s1 s2 hup gr hl2 g0 g1
      have p1 : ((W2.setCell ⟨gl, j * 2, none⟩ (.slice ya (clI X.1 (k : Int)).length yk)).setCell ⟨gl, j * 2 + 1, none⟩ (.slice za_ (clI X.2 (k : Int)).length zk)).cell? ⟨w2.heap.size, 1, none⟩ = some (.slice (some ⟨gl, 0, none⟩) m uc) := (World.cell?_setCell_far _ _ _ _ (by simp; omega)).trans ((World.cell?_setCell_far _ _ _ _ (by simp; omega)).trans e1)
      have p2 : ((W2.setCell ⟨gl, j * 2, none⟩ (.slice ya (clI X.1 (k : Int)).length yk)).setCell ⟨gl, j * 2 + 1, none⟩ (.slice za_ (clI X.2 (k : Int)).length zk)).cell? ⟨wr.heap.size, 0, none⟩ = some (.slice xa0 X.1.length xk0) := (World.cell?_setCell_far _ _ _ _ (by simp; omega)).trans ((World.cell?_setCell_far _ _ _ _ (by simp; omega)).trans t0)
      have p3 : ((W2.setCell ⟨gl, j * 2, none⟩ (.slice ya (clI X.1 (k : Int)).length yk)).setCell ⟨gl, j * 2 + 1, none⟩ (.slice za_ (clI X.2 (k : Int)).length zk)).cell? ⟨wr.heap.size, 1, none⟩ = some (.slice xa1 X.2.length xk1) := (World.cell?_setCell_far _ _ _ _ (by simp; omega)).trans ((World.cell?_setCell_far _ _ _ _ (by simp; omega)).trans t1)
      generalize ((W2.setCell ⟨gl, j * 2, none⟩ (.slice ya (clI X.1 (k : Int)).length yk)).setCell ⟨gl, j * 2 + 1, none⟩ (.slice za_ (clI X.2 (k : Int)).length zk)) = W9 at p1 p2 p3 HF ⊢
      refine hK.out _ _ ⟨p1, p2, p3⟩ (fun hHeld => ?_)
      clear hK K
      try simp only [Act.put, List.setIfInBounds_toArray, List.set_cons_zero, List.set_cons_succ]
      refine wpAnyH_done (by kernel_rfl) ?_ _
      clear t0 t1 p1 p2 p3 k0 k1 f0 f1 e1
      go_wp2_with fail
      go_roundw
      case rel => exact ⟨j + 1, _, by omega, by go_num, HF.out.1, HF.out.2.1, HF.out.2.2⟩
      case measure => simp [intOf]; omega
    · have hjj : j = m := by omega
      subst hjj
      have e1_ := HB.out
      rw [HY.out] at e1_
      have e2_ := HR.out
      rw [remR_yes HY.out, ← HTSE.out, ← HTS.out, ← HP.out.1, ← HP.out.2.2.2.2, Int.toNat_natCast, show cutS st k = CS from HCS.out.symm] at e2_
      subst e1_; subst e2_
      have HO8 := Lib.hid (HO5.out.kept hgrow.out HAP.out.1)
      have HL8 := Lib.hid (HL5.out.kept hgrow.out HAP.out.2)
      have e0 := hgrow.out.cell e0 HNQ.out.2
      have r0 := hgrow.out.cell r0' (HNQ.out.1 _ (by show w.heap.size + 1 < wq.heap.size; omega))
      have rf0 := frozen_grown hgrow.out rf0' (by show w.heap.size + 1 < W5.heap.size; omega) (HNQ.out.1 _ (by show w.heap.size + 1 < wq.heap.size; omega))
      have e1 := hgrow.out.cell e1 HNQ.out.2
      have r1 := hgrow.out.cell r1' (HNQ.out.1 _ (by show w.heap.size + 1 < wq.heap.size; omega))
      have rf1 := frozen_grown hgrow.out rf1' (by show w.heap.size + 1 < W5.heap.size; omega) (HNQ.out.1 _ (by show w.heap.size + 1 < wq.heap.size; omega))
      have e2 := hgrow.out.cell e2 HNQ.out.2
      have r2 := hgrow.out.cell r2' (HNQ.out.1 _ (by show w.heap.size + 1 < wq.heap.size; omega))
      have rf2 := frozen_grown hgrow.out rf2' (by show w.heap.size + 1 < W5.heap.size; omega) (HNQ.out.1 _ (by show w.heap.size + 1 < wq.heap.size; omega))
      have e3 := hgrow.out.cell e3 HNQ.out.2
      have r3 := hgrow.out.cell r3' (HNQ.out.1 _ (by show w.heap.size + 1 < wq.heap.size; omega))
      have rf3 := frozen_grown hgrow.out rf3' (by show w.heap.size + 1 < W5.heap.size; omega) (HNQ.out.1 _ (by show w.heap.size + 1 < wq.heap.size; omega))
      have e4 := hgrow.out.cell e4 HNQ.out.2
      have r4 := hgrow.out.cell r4' (HNQ.out.1 _ (by show w.heap.size + 1 < wq.heap.size; omega))
      have rf4 := frozen_grown hgrow.out rf4' (by show w.heap.size + 1 < W5.heap.size; omega) (HNQ.out.1 _ (by show w.heap.size + 1 < wq.heap.size; omega))
      have HOW := Lib.hid hown.out; clear hown
      have HLI9 := Lib.hid hli.out; clear hli
      clear hgrow
      go_wp2_with fail
      generalize hWX : (((((wr.setCell ⟨w.heap.size + 1, 0, none⟩ (.int .i64 (p - 1))).setCell ⟨w.heap.size + 1, 1, none⟩ (.slice ua j uc)).setCell ⟨w.heap.size + 1, 2, none⟩ (.slice sa ns sc)).setCell ⟨w.heap.size + 1, 3, none⟩ (.slice la nl lc)).setCell ⟨w.heap.size + 1, 4, none⟩ (.string CS)) = WX
      obtain ⟨p0, p1, p2, p3, p4⟩ := put5_cells hWX r0 r1 r2 r3 r4
      have hbf := put5_below hWX hwr (by omega)
      have hrow := put5_owns hWX HOW.out (by omega)
      have hsg9 := put5_owns hWX HO8.out (by omega)
      have hlb9 := put5_owns hWX HL8.out (by omega)
      have hli9 := ((((HLI9.out.set (p := ⟨w.heap.size + 1, 0, none⟩) (by show w.heap.size + 1 < _; omega) (.int .i64 (p - 1))).set (p := ⟨w.heap.size + 1, 1, none⟩) (by show w.heap.size + 1 < _; omega) (.slice ua j uc)).set (p := ⟨w.heap.size + 1, 2, none⟩) (by show w.heap.size + 1 < _; omega) (.slice sa ns sc)).set (p := ⟨w.heap.size + 1, 3, none⟩) (by show w.heap.size + 1 < _; omega) (.slice la nl lc)).set (p := ⟨w.heap.size + 1, 4, none⟩) (by show w.heap.size + 1 < _; omega) (.string CS)
      rw [hWX] at hli9
      clear hWX
      refine bodyPost_ret (v := .tuple #[.agg #[.int .i64 (p - 1), .slice ua j uc, .slice sa ns sc, .slice la nl lc, .string CS], .bool true]) (by simp [results, Try.results27, go_sem, p0, p1, p2, p3, p4]) rfl ?_
      have hlen : (clTs j ts (k : Int)).length = j := (clTs_length j ts (k : Int)).trans HTS.out.symm
      have hrd : TrsAt wq.heap.size WX (.slice ua j uc) (clTs j ts (k : Int)) := OwnTrs.read (by rw [hlen]; exact hli9) (by rw [hlen]; exact hrow)
      exact ⟨_, rfl, ⟨_, _, _, rfl, ⟨by show -9223372036854775808 ≤ p - 1; omega, by show p - 1 ≤ 9223372036854775807; omega, _, rfl, hrd.low (by omega)⟩, by rw [HP.out.2.2.1]; exact PairsAt.low (pairs_of_owns hsg9) (by omega), by rw [HP.out.2.2.2.1]; exact PairsAt.low (pairs_of_owns hlb9) (by omega)⟩, hbf⟩

end Go.Proofs.Ytkkfglolameogaa
