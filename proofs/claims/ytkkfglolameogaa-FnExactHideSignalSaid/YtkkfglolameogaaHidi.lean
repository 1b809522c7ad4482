/-
  WALK: HideSignal of the program.
-/
import Derived.Test.YtkkfglolameogaaHid
namespace Go.Proofs.Ytkkfglolameogaa
open Go.RowKit

set_option maxRecDepth 100000 in
set_option maxHeartbeats 4000000 in
theorem HideSignal_any (v : Value) (s : StgD) (g0 : Int) (w : World) (lo : Nat) (hv : StgAt lo w v s) (hs : SmallStg s) :
    Calls Try.prog 19 #[v, .int .i64 g0] w (RetSO w (hidR s g0) (hidB s g0)) := by
  obtain ⟨a0, c0, a1, c1, a2, c2, rfl, hn_, hsg, hl_⟩ := hv.form
  clear hn_
  have HV := Lib.hid hv; clear hv
  have HG := Lib.hid hsg; clear hsg
  have HLA := Lib.hid hl_; clear hl_
  have HS := Lib.hid hs; clear hs
  obtain ⟨RR, hRR⟩ : ∃ R, R = (hidR s g0) := ⟨_, rfl⟩
  obtain ⟨BB, hBB⟩ : ∃ B, B = (hidB s g0) := ⟨_, rfl⟩
  rw [← hRR, ← hBB]
  have HR := Lib.hid hRR; clear hRR
  have HB := Lib.hid hBB; clear hBB
  obtain ⟨p, hp⟩ : ∃ x, x = s.net.places := ⟨_, rfl⟩
  obtain ⟨m, hm⟩ : ∃ x, x = s.net.ts.length := ⟨_, rfl⟩
  obtain ⟨ns, hns⟩ : ∃ x, x = s.sigs.length := ⟨_, rfl⟩
  obtain ⟨nl, hnl⟩ : ∃ x, x = s.labs.length := ⟨_, rfl⟩
  obtain ⟨st, hst⟩ : ∃ x, x = s.start := ⟨_, rfl⟩
  rw [← hp, ← hm, ← hns, ← hnl, ← hst] at HV ⊢
  rw [← hns] at HG
  rw [← hnl] at HLA
  have HP := Lib.hid (And.intro hp (And.intro hm (And.intro hns (And.intro hnl hst)))); clear hp hm hns hnl hst
  go_enter Try.func19, Try.ntmps19
  go_wp2_with fail
  refine (IsValidSTG_any _ s _ lo (HV.out.keep ?_) HS.out).mono ?_
  · (repeat' (first | (with_reducible exact Carries.refl _ _) | (with_reducible assumption) | (with_reducible refine Carries.alloc ?_ _) | (with_reducible refine Carries.drew ?_) | (with_reducible refine Carries.drewN ?_ _) | (with_reducible refine Carries.set ?_ ?_ _) | go_size))
  rintro e w1 ⟨rfl, hb⟩
  have hw1 : Below w.heap.size w w1 := by
    refine Below.trans ?_ (hb.mono ?_)
    · (repeat' (first | (with_reducible exact Below.refl _ _) | (with_reducible assumption) | (with_reducible refine Below.alloc ?_ ?_ _) | (with_reducible refine Below.drew ?_) | (with_reducible refine below_drewN ?_ _) | (with_reducible refine Below.setCell ?_ ?_ _) | go_size))
    · simp; omega
  have x0 : w1.cell? ⟨w.heap.size, 0, none⟩ = some (.int .i64 p) := cell_carry (by simp [go_sem]) (Carries.of 0 hb)
  have x1 : w1.cell? ⟨w.heap.size, 1, none⟩ = some (.slice a0 m c0) := cell_carry (by simp [go_sem]) (Carries.of 0 hb)
  have x2 : w1.cell? ⟨w.heap.size, 2, none⟩ = some (.slice a1 ns c1) := cell_carry (by simp [go_sem]) (Carries.of 0 hb)
  have x3 : w1.cell? ⟨w.heap.size, 3, none⟩ = some (.slice a2 nl c2) := cell_carry (by simp [go_sem]) (Carries.of 0 hb)
  have x4 : w1.cell? ⟨w.heap.size, 4, none⟩ = some (.string st) := cell_carry (by simp [go_sem]) (Carries.of 0 hb)
  have r0 : w1.cell? ⟨w.heap.size + 1, 0, none⟩ = some (.int .i64 0) := cell_carry (by simp [go_sem]) (Carries.of 0 hb)
  have rf0 : w1.frozen? ⟨w.heap.size + 1, 0, none⟩ = false := (hb.frozen (by simp)).trans (by simp [go_sem])
  have r1 : w1.cell? ⟨w.heap.size + 1, 1, none⟩ = some (.slice none 0 0) := cell_carry (by simp [go_sem]) (Carries.of 0 hb)
  have rf1 : w1.frozen? ⟨w.heap.size + 1, 1, none⟩ = false := (hb.frozen (by simp)).trans (by simp [go_sem])
  have r2 : w1.cell? ⟨w.heap.size + 1, 2, none⟩ = some (.slice none 0 0) := cell_carry (by simp [go_sem]) (Carries.of 0 hb)
  have rf2 : w1.frozen? ⟨w.heap.size + 1, 2, none⟩ = false := (hb.frozen (by simp)).trans (by simp [go_sem])
  have r3 : w1.cell? ⟨w.heap.size + 1, 3, none⟩ = some (.slice none 0 0) := cell_carry (by simp [go_sem]) (Carries.of 0 hb)
  have rf3 : w1.frozen? ⟨w.heap.size + 1, 3, none⟩ = false := (hb.frozen (by simp)).trans (by simp [go_sem])
  have r4 : w1.cell? ⟨w.heap.size + 1, 4, none⟩ = some (.string ⟨#[]⟩) := cell_carry (by simp [go_sem]) (Carries.of 0 hb)
  have rf4 : w1.frozen? ⟨w.heap.size + 1, 4, none⟩ = false := (hb.frozen (by simp)).trans (by simp [go_sem])
  have z1 : w.heap.size + 1 < w1.heap.size := by have := hb.size; simp at this; omega
  clear hb
  cases hg : goodS s with
  | false =>
    have hno : hidB s g0 = false := by unfold hidB; rw [hg]; rfl
    clear hg
    have e1 := HB.out
    rw [hno] at e1
    have e2 := HR.out
    rw [hidR_no hno] at e2
    subst e1; subst e2
    go_wp2_with fail
    generalize hWX : (((((w1.setCell ⟨w.heap.size + 1, 0, none⟩ (.int .i64 0)).setCell ⟨w.heap.size + 1, 1, none⟩ (.slice none 0 0)).setCell ⟨w.heap.size + 1, 2, none⟩ (.slice none 0 0)).setCell ⟨w.heap.size + 1, 3, none⟩ (.slice none 0 0)).setCell ⟨w.heap.size + 1, 4, none⟩ (.string ⟨#[]⟩)) = WX
    obtain ⟨q0, q1, q2, q3, q4⟩ := put5_cells hWX r0 r1 r2 r3 r4
    have hbf := put5_below hWX hw1 (by omega)
    clear hWX
    refine bodyPost_ret (v := .tuple #[.agg #[.int .i64 0, .slice none 0 0, .slice none 0 0, .slice none 0 0, .string ⟨#[]⟩], .bool false]) (by simp [results, Try.results19, go_sem, q0, q1, q2, q3, q4]) rfl ?_
    exact ⟨_, rfl, (SepStg.zero _).wide hbf.size (Nat.le_refl _) (Nat.le_refl _), hbf⟩
  | true =>
  have hpl := goodS_places' hg
  have HPL := Lib.hid hpl; clear hpl
  have HGS := Lib.hid hg; clear hg
  have hns8 : ns ≤ 1048576 := by rw [HP.out.2.2.1]; exact HS.out.2.1.1
  go_wp2_with fail
  refine (labelledNetOf_any _ _ _ _ _ _ _ _ _ _ _ _).mono ?_
  rintro e wa ⟨rfl, hb⟩
  have hwa : Below w.heap.size w wa := hw1.trans (hb.mono hw1.size)
  have x0 := cell_carry x0 (Carries.of 0 hb)
  have x1 := cell_carry x1 (Carries.of 0 hb)
  have x2 := cell_carry x2 (Carries.of 0 hb)
  have x3 := cell_carry x3 (Carries.of 0 hb)
  have x4 := cell_carry x4 (Carries.of 0 hb)
  have r0 := cell_carry r0 (Carries.of 0 hb)
  have rf0 := (hb.frozen (p := ⟨w.heap.size + 1, 0, none⟩) z1).trans rf0
  have r1 := cell_carry r1 (Carries.of 0 hb)
  have rf1 := (hb.frozen (p := ⟨w.heap.size + 1, 1, none⟩) z1).trans rf1
  have r2 := cell_carry r2 (Carries.of 0 hb)
  have rf2 := (hb.frozen (p := ⟨w.heap.size + 1, 2, none⟩) z1).trans rf2
  have r3 := cell_carry r3 (Carries.of 0 hb)
  have rf3 := (hb.frozen (p := ⟨w.heap.size + 1, 3, none⟩) z1).trans rf3
  have r4 := cell_carry r4 (Carries.of 0 hb)
  have rf4 := (hb.frozen (p := ⟨w.heap.size + 1, 4, none⟩) z1).trans rf4
  have za : w.heap.size + 1 < wa.heap.size := by have := hb.size; omega
  clear hb hw1
  go_wp2_with fail
  refine (hasSignal_any _ _ _ _ _ _ _ _ _ _ _ _ hns8).mono ?_
  rintro e wq ⟨rfl, hb⟩
  have hwq : Below w.heap.size w wq := hwa.trans (hb.mono hwa.size)
  have x0 := cell_carry x0 (Carries.of 0 hb)
  have x1 := cell_carry x1 (Carries.of 0 hb)
  have x2 := cell_carry x2 (Carries.of 0 hb)
  have x3 := cell_carry x3 (Carries.of 0 hb)
  have x4 := cell_carry x4 (Carries.of 0 hb)
  have r0 := cell_carry r0 (Carries.of 0 hb)
  have rf0 := (hb.frozen (p := ⟨w.heap.size + 1, 0, none⟩) za).trans rf0
  have r1 := cell_carry r1 (Carries.of 0 hb)
  have rf1 := (hb.frozen (p := ⟨w.heap.size + 1, 1, none⟩) za).trans rf1
  have r2 := cell_carry r2 (Carries.of 0 hb)
  have rf2 := (hb.frozen (p := ⟨w.heap.size + 1, 2, none⟩) za).trans rf2
  have r3 := cell_carry r3 (Carries.of 0 hb)
  have rf3 := (hb.frozen (p := ⟨w.heap.size + 1, 3, none⟩) za).trans rf3
  have r4 := cell_carry r4 (Carries.of 0 hb)
  have rf4 := (hb.frozen (p := ⟨w.heap.size + 1, 4, none⟩) za).trans rf4
  have zq : w.heap.size + 1 < wq.heap.size := by have := hb.size; omega
  clear hb hwa za z1
  by_cases hin : 0 ≤ g0 ∧ g0 < (ns : Int)
  case neg =>
    have hno : hidB s g0 = false := by unfold hidB; rw [← HP.out.2.2.1, decide_eq_false hin]; simp
    rw [decide_eq_false hin]
    clear hin
    have e1 := HB.out
    rw [hno] at e1
    have e2 := HR.out
    rw [hidR_no hno] at e2
    subst e1; subst e2
    go_wp2_with fail
    generalize hWX : (((((wq.setCell ⟨w.heap.size + 1, 0, none⟩ (.int .i64 0)).setCell ⟨w.heap.size + 1, 1, none⟩ (.slice none 0 0)).setCell ⟨w.heap.size + 1, 2, none⟩ (.slice none 0 0)).setCell ⟨w.heap.size + 1, 3, none⟩ (.slice none 0 0)).setCell ⟨w.heap.size + 1, 4, none⟩ (.string ⟨#[]⟩)) = WX
    obtain ⟨q0, q1, q2, q3, q4⟩ := put5_cells hWX r0 r1 r2 r3 r4
    have hbf := put5_below hWX hwq (by omega)
    clear hWX
    refine bodyPost_ret (v := .tuple #[.agg #[.int .i64 0, .slice none 0 0, .slice none 0 0, .slice none 0 0, .string ⟨#[]⟩], .bool false]) (by simp [results, Try.results19, go_sem, q0, q1, q2, q3, q4]) rfl ?_
    exact ⟨_, rfl, (SepStg.zero _).wide hbf.size (Nat.le_refl _) (Nat.le_refl _), hbf⟩
  rw [decide_eq_true hin]
  by_cases hn1 : ns = 1
  case pos =>
    have hd : decide (ns ≠ 1) = false := decide_eq_false (fun h => h hn1)
    have hno : hidB s g0 = false := by unfold hidB; rw [← HP.out.2.2.1, hd]; simp
    clear hd
    have t1 : ((ns : Int) == 1) = true := by rw [beq_iff_eq]; omega
    clear hin hn1
    have e1 := HB.out
    rw [hno] at e1
    have e2 := HR.out
    rw [hidR_no hno] at e2
    subst e1; subst e2
    go_wp2_with fail
    generalize hWX : (((((wq.setCell ⟨w.heap.size + 1, 0, none⟩ (.int .i64 0)).setCell ⟨w.heap.size + 1, 1, none⟩ (.slice none 0 0)).setCell ⟨w.heap.size + 1, 2, none⟩ (.slice none 0 0)).setCell ⟨w.heap.size + 1, 3, none⟩ (.slice none 0 0)).setCell ⟨w.heap.size + 1, 4, none⟩ (.string ⟨#[]⟩)) = WX
    obtain ⟨q0, q1, q2, q3, q4⟩ := put5_cells hWX r0 r1 r2 r3 r4
    have hbf := put5_below hWX hwq (by omega)
    clear hWX
    refine bodyPost_ret (v := .tuple #[.agg #[.int .i64 0, .slice none 0 0, .slice none 0 0, .slice none 0 0, .string ⟨#[]⟩], .bool false]) (by simp [results, Try.results19, go_sem, q0, q1, q2, q3, q4]) rfl ?_
    exact ⟨_, rfl, (SepStg.zero _).wide hbf.size (Nat.le_refl _) (Nat.le_refl _), hbf⟩
  have t1 : ((ns : Int) == 1) = false := by rw [beq_eq_false_iff_ne]; omega
  have hyes : hidB s g0 = true := by unfold hidB; rw [HGS.out, ← HP.out.2.2.1, decide_eq_true hin, decide_eq_true hn1]; rfl
  obtain ⟨k, rfl⟩ : ∃ k : Nat, g0 = k := ⟨g0.toNat, by omega⟩
  have hk : k < ns := by omega
  have HY := Lib.hid hyes; clear hyes hin hn1
  go_wp2_with fail
  refine (copySTG_any _ s _ lo (HV.out.keep (Carries.of lo hwq)) HS.out.1 (goodN_low (goodS_net HGS.out)) HS.out.2.1.1 HS.out.2.2.1).mono ?_
  rintro e w2 hret
  obtain ⟨vv, rfl, hsep, hb⟩ := hret.sep HPL.out
  obtain ⟨ta, tc, sa, sc, la, lc, rfl, hopen⟩ := hsep.open
  clear hsep hret t1
  have hw2 : Below w.heap.size w w2 := hwq.trans (hb.mono hwq.size)
  obtain ⟨hi, hBhi, hhiH, hos, hsH, hol, hlH, hclose⟩ := hopen
  rw [← HP.out.1, ← HP.out.2.1, ← HP.out.2.2.1, ← HP.out.2.2.2.1, ← HP.out.2.2.2.2] at hclose ⊢
  rw [← HP.out.2.2.1] at hos hsH
  rw [← HP.out.2.2.2.1] at hol hlH
  obtain ⟨ss, hss⟩ : ∃ ss, ss = s.sigs := ⟨_, rfl⟩
  obtain ⟨ls, hls⟩ : ∃ ls, ls = s.labs := ⟨_, rfl⟩
  rw [← hss] at hos
  rw [← hls] at hol HLA
  have hlen : ss.length = ns := by rw [hss]; exact HP.out.2.2.1.symm
  have hllen : ls.length = nl := by rw [hls]; exact HP.out.2.2.2.1.symm
  have hlabs : ∀ i, i < nl → -1 ≤ lbS ls i ∧ lbS ls i ≤ 1048576 := fun i hi' => by
    have := goodS_labs HGS.out (i := i) (by rw [← hls, hllen]; exact hi')
    rw [← hls, ← HP.out.2.2.1] at this
    omega
  have HNS := Lib.hid hlen
  have HNL := Lib.hid hllen
  have HK := Lib.hid hlabs; clear hlabs
  have HSS := Lib.hid (And.intro hss hls)
  have hnl8 : nl ≤ 1048576 := by rw [HP.out.2.2.2.1]; exact HS.out.2.2.1
  have hap := rows_apartT hol hos (by decide)
  rcases hos.2 with ⟨e, hn0⟩ | ⟨g, cap_, cur_, e, hgb, -⟩
  · omega
  simp only [Value.slice.injEq, true_and] at e
  obtain ⟨rfl, rfl⟩ := e
  clear cur_
  have hgH : g < w2.heap.size := hsH g rfl
  have HOS := Lib.hid hos; clear hos
  have HOL := Lib.hid hol; clear hol
  have HAP := Lib.hid hap; clear hap
  have HLH := Lib.hid hlH; clear hlH
  have HCL := Lib.hid hclose; clear hclose hsH
  clear hss hls hlen hllen
  have r0 := cell_carry r0 (Carries.of 0 hb)
  have rf0 := (hb.frozen (p := ⟨w.heap.size + 1, 0, none⟩) zq).trans rf0
  have r1 := cell_carry r1 (Carries.of 0 hb)
  have rf1 := (hb.frozen (p := ⟨w.heap.size + 1, 1, none⟩) zq).trans rf1
  have r2 := cell_carry r2 (Carries.of 0 hb)
  have rf2 := (hb.frozen (p := ⟨w.heap.size + 1, 2, none⟩) zq).trans rf2
  have r3 := cell_carry r3 (Carries.of 0 hb)
  have rf3 := (hb.frozen (p := ⟨w.heap.size + 1, 3, none⟩) zq).trans rf3
  have r4 := cell_carry r4 (Carries.of 0 hb)
  have rf4 := (hb.frozen (p := ⟨w.heap.size + 1, 4, none⟩) zq).trans rf4
  have x3 := cell_carry x3 (Carries.of 0 hb)
  have x1 := cell_carry x1 (Carries.of 0 hb)
  have z2 : wq.heap.size ≤ w2.heap.size := hb.size
  clear hb x0 x2 x4
  have hal : Below w2.heap.size w2 (w2.alloc (.cells #[.int .i64 p, .slice ta m tc, .slice (some ⟨g, 0, none⟩) ns sc, .slice la nl lc, .string st] 36)) := (Below.refl _ _).alloc (Nat.le_refl _) _
  have r0' := cell_carry r0 (Carries.of 0 hal)
  have rf0' := (hal.frozen (p := ⟨w.heap.size + 1, 0, none⟩) (by show w.heap.size + 1 < w2.heap.size; omega)).trans rf0
  have r1' := cell_carry r1 (Carries.of 0 hal)
  have rf1' := (hal.frozen (p := ⟨w.heap.size + 1, 1, none⟩) (by show w.heap.size + 1 < w2.heap.size; omega)).trans rf1
  have r2' := cell_carry r2 (Carries.of 0 hal)
  have rf2' := (hal.frozen (p := ⟨w.heap.size + 1, 2, none⟩) (by show w.heap.size + 1 < w2.heap.size; omega)).trans rf2
  have r3' := cell_carry r3 (Carries.of 0 hal)
  have rf3' := (hal.frozen (p := ⟨w.heap.size + 1, 3, none⟩) (by show w.heap.size + 1 < w2.heap.size; omega)).trans rf3
  have r4' := cell_carry r4 (Carries.of 0 hal)
  have rf4' := (hal.frozen (p := ⟨w.heap.size + 1, 4, none⟩) (by show w.heap.size + 1 < w2.heap.size; omega)).trans rf4
  have x3' := cell_carry x3 (Carries.of 0 hal)
  have q1 : (0 : Int) ≤ (k : Int) := by omega
  have q2 : (k : Int) + 1 ≤ 9223372036854775807 := by omega
  go_wp2_with fail
  have y0 : (w2.alloc (.cells #[.int .i64 p, .slice ta m tc, .slice (some ⟨g, 0, none⟩) ns sc, .slice la nl lc, .string st] 36)).cell? ⟨w2.heap.size, 0, none⟩ = some (.int .i64 p) := by simp
  have y1 : (w2.alloc (.cells #[.int .i64 p, .slice ta m tc, .slice (some ⟨g, 0, none⟩) ns sc, .slice la nl lc, .string st] 36)).cell? ⟨w2.heap.size, 1, none⟩ = some (.slice ta m tc) := by simp
  have y2 : (w2.alloc (.cells #[.int .i64 p, .slice ta m tc, .slice (some ⟨g, 0, none⟩) ns sc, .slice la nl lc, .string st] 36)).cell? ⟨w2.heap.size, 2, none⟩ = some (.slice (some ⟨g, 0, none⟩) ns sc) := by simp
  have y3 : (w2.alloc (.cells #[.int .i64 p, .slice ta m tc, .slice (some ⟨g, 0, none⟩) ns sc, .slice la nl lc, .string st] 36)).cell? ⟨w2.heap.size, 3, none⟩ = some (.slice la nl lc) := by simp
  have y4 : (w2.alloc (.cells #[.int .i64 p, .slice ta m tc, .slice (some ⟨g, 0, none⟩) ns sc, .slice la nl lc, .string st] 36)).cell? ⟨w2.heap.size, 4, none⟩ = some (.string st) := by simp
  have yf : (w2.alloc (.cells #[.int .i64 p, .slice ta m tc, .slice (some ⟨g, 0, none⟩) ns sc, .slice la nl lc, .string st] 36)).frozen? ⟨w2.heap.size, 2, none⟩ = false := by simp
  have z3 : w2.heap.size < (w2.alloc (.cells #[.int .i64 p, .slice ta m tc, .slice (some ⟨g, 0, none⟩) ns sc, .slice la nl lc, .string st] 36)).heap.size := by simp
  clear r0 r1 r2 r3 r4 rf0 rf1 rf2 rf3 rf4 x3 x1
  generalize (w2.alloc (.cells #[.int .i64 p, .slice ta m tc, .slice (some ⟨g, 0, none⟩) ns sc, .slice la nl lc, .string st] 36)) = W3 at hal r0' r1' r2' r3' r4' rf0' rf1' rf2' rf3' rf4' x3' y0 y1 y2 y3 y4 yf z3 ⊢
  have hw3 : Below w.heap.size w W3 := hw2.trans (hal.mono hw2.size)
  have HO3 := Lib.hid (owns_after HOS.out hal)
  have HL3 := Lib.hid (owns_after HOL.out hal)
  have HBU := Lib.hid (But.below (B := wq.heap.size) (o1 := some g) (o2 := (Value.slice la nl lc).ownBlock) hal)
  clear hal HOS HOL
  refine (deletesig_any hi g ns sc k (sgX ss) (sgY ss) _ HO3.out hk hns8 (fun _ => rfl) (fun _ => rfl)).mono ?_
  rintro e W4 ⟨rfl, hrow4, hgr4⟩
  have hneq : ∀ q, q < hi → some q ≠ some g := fun q hq e => by injection e with e; omega
  have hneH : some w2.heap.size ≠ some g := fun e => by injection e with e; omega
  have r0 := hgr4.cell r0' (hneq _ (by show w.heap.size + 1 < hi; omega))
  have rf0 := frozen_grown hgr4 rf0' (by show w.heap.size + 1 < W3.heap.size; omega) (hneq _ (by show w.heap.size + 1 < hi; omega))
  have r1 := hgr4.cell r1' (hneq _ (by show w.heap.size + 1 < hi; omega))
  have rf1 := frozen_grown hgr4 rf1' (by show w.heap.size + 1 < W3.heap.size; omega) (hneq _ (by show w.heap.size + 1 < hi; omega))
  have r2 := hgr4.cell r2' (hneq _ (by show w.heap.size + 1 < hi; omega))
  have rf2 := frozen_grown hgr4 rf2' (by show w.heap.size + 1 < W3.heap.size; omega) (hneq _ (by show w.heap.size + 1 < hi; omega))
  have r3 := hgr4.cell r3' (hneq _ (by show w.heap.size + 1 < hi; omega))
  have rf3 := frozen_grown hgr4 rf3' (by show w.heap.size + 1 < W3.heap.size; omega) (hneq _ (by show w.heap.size + 1 < hi; omega))
  have r4 := hgr4.cell r4' (hneq _ (by show w.heap.size + 1 < hi; omega))
  have rf4 := frozen_grown hgr4 rf4' (by show w.heap.size + 1 < W3.heap.size; omega) (hneq _ (by show w.heap.size + 1 < hi; omega))
  have x3 := hgr4.cell x3' (hneq _ (by show w.heap.size < hi; omega))
  have y0 := hgr4.cell y0 hneH
  have y1 := hgr4.cell y1 hneH
  have y2 := hgr4.cell y2 hneH
  have y3 := hgr4.cell y3 hneH
  have y4 := hgr4.cell y4 hneH
  have yf := frozen_grown hgr4 yf (by show w2.heap.size < W3.heap.size; omega) hneH
  have hw4 : Below w.heap.size w W4 := hw3.grown hgr4 hw3.size (fun b hb => by injection hb with hb; omega)
  have HR4 := Lib.hid hrow4; clear hrow4
  have HL4 := Lib.hid (HL3.out.kept hgr4 HAP.out)
  have HBU4 := Lib.hid (HBU.out.trans (But.of hgr4))
  have z4 : w2.heap.size < W4.heap.size := by have := hgr4.size; omega
  clear hgr4 hneq hneH HO3 HL3 HBU r0' r1' r2' r3' r4' rf0' rf1' rf2' rf3' rf4' x3'
  go_wp2_with fail
  have e2 : (W4.setCell ⟨w2.heap.size, 2, none⟩ (.slice (some ⟨g, 0, none⟩) (ns - 1) sc)).cell? ⟨w2.heap.size, 2, none⟩ = some (.slice (some ⟨g, 0, none⟩) (ns - 1) sc) := World.cell?_setCell_same _ _ _ y2
  have e0 : (W4.setCell ⟨w2.heap.size, 2, none⟩ (.slice (some ⟨g, 0, none⟩) (ns - 1) sc)).cell? ⟨w2.heap.size, 0, none⟩ = some (.int .i64 p) := (World.cell?_setCell_other _ _ _ _ (by simp)).trans y0
  have e1 : (W4.setCell ⟨w2.heap.size, 2, none⟩ (.slice (some ⟨g, 0, none⟩) (ns - 1) sc)).cell? ⟨w2.heap.size, 1, none⟩ = some (.slice ta m tc) := (World.cell?_setCell_other _ _ _ _ (by simp)).trans y1
  have e3 : (W4.setCell ⟨w2.heap.size, 2, none⟩ (.slice (some ⟨g, 0, none⟩) (ns - 1) sc)).cell? ⟨w2.heap.size, 3, none⟩ = some (.slice la nl lc) := (World.cell?_setCell_other _ _ _ _ (by simp)).trans y3
  have e4 : (W4.setCell ⟨w2.heap.size, 2, none⟩ (.slice (some ⟨g, 0, none⟩) (ns - 1) sc)).cell? ⟨w2.heap.size, 4, none⟩ = some (.string st) := (World.cell?_setCell_other _ _ _ _ (by simp)).trans y4
  have hb5 : Below w.heap.size w (W4.setCell ⟨w2.heap.size, 2, none⟩ (.slice (some ⟨g, 0, none⟩) (ns - 1) sc)) := hw4.setCell (by show w.heap.size ≤ w2.heap.size; have := hw2.size; omega) _
  have HR5 := Lib.hid (HR4.out.kept (grownBy_set W4 ⟨w2.heap.size, 2, none⟩ (.slice (some ⟨g, 0, none⟩) (ns - 1) sc)) (Or.inr (fun e => by injection e with e; simp at e; omega)))
  have HL5 := Lib.hid (HL4.out.kept (grownBy_set W4 ⟨w2.heap.size, 2, none⟩ (.slice (some ⟨g, 0, none⟩) (ns - 1) sc)) (Or.inr (fun e => by have := HLH.out _ e; simp at this)))
  have HBU5 := Lib.hid (HBU4.out.setNew (p := ⟨w2.heap.size, 2, none⟩) (Nat.le_refl _) (.slice (some ⟨g, 0, none⟩) (ns - 1) sc))
  have hz5 : (W4.setCell ⟨w2.heap.size, 2, none⟩ (.slice (some ⟨g, 0, none⟩) (ns - 1) sc)).heap.size = W4.heap.size := by simp
  have x3' := (show (W4.setCell ⟨w2.heap.size, 2, none⟩ (.slice (some ⟨g, 0, none⟩) (ns - 1) sc)).cell? ⟨w.heap.size, 3, none⟩ = W4.cell? ⟨w.heap.size, 3, none⟩ from World.cell?_setCell_far _ _ _ _ (by simp; omega)).trans x3
  have r0' := (show (W4.setCell ⟨w2.heap.size, 2, none⟩ (.slice (some ⟨g, 0, none⟩) (ns - 1) sc)).cell? ⟨w.heap.size + 1, 0, none⟩ = W4.cell? ⟨w.heap.size + 1, 0, none⟩ from World.cell?_setCell_far _ _ _ _ (by simp; omega)).trans r0
  have rf0' := (show (W4.setCell ⟨w2.heap.size, 2, none⟩ (.slice (some ⟨g, 0, none⟩) (ns - 1) sc)).frozen? ⟨w.heap.size + 1, 0, none⟩ = W4.frozen? ⟨w.heap.size + 1, 0, none⟩ from World.frozen?_setCell _ _ _ _).trans rf0
  have r1' := (show (W4.setCell ⟨w2.heap.size, 2, none⟩ (.slice (some ⟨g, 0, none⟩) (ns - 1) sc)).cell? ⟨w.heap.size + 1, 1, none⟩ = W4.cell? ⟨w.heap.size + 1, 1, none⟩ from World.cell?_setCell_far _ _ _ _ (by simp; omega)).trans r1
  have rf1' := (show (W4.setCell ⟨w2.heap.size, 2, none⟩ (.slice (some ⟨g, 0, none⟩) (ns - 1) sc)).frozen? ⟨w.heap.size + 1, 1, none⟩ = W4.frozen? ⟨w.heap.size + 1, 1, none⟩ from World.frozen?_setCell _ _ _ _).trans rf1
  have r2' := (show (W4.setCell ⟨w2.heap.size, 2, none⟩ (.slice (some ⟨g, 0, none⟩) (ns - 1) sc)).cell? ⟨w.heap.size + 1, 2, none⟩ = W4.cell? ⟨w.heap.size + 1, 2, none⟩ from World.cell?_setCell_far _ _ _ _ (by simp; omega)).trans r2
  have rf2' := (show (W4.setCell ⟨w2.heap.size, 2, none⟩ (.slice (some ⟨g, 0, none⟩) (ns - 1) sc)).frozen? ⟨w.heap.size + 1, 2, none⟩ = W4.frozen? ⟨w.heap.size + 1, 2, none⟩ from World.frozen?_setCell _ _ _ _).trans rf2
  have r3' := (show (W4.setCell ⟨w2.heap.size, 2, none⟩ (.slice (some ⟨g, 0, none⟩) (ns - 1) sc)).cell? ⟨w.heap.size + 1, 3, none⟩ = W4.cell? ⟨w.heap.size + 1, 3, none⟩ from World.cell?_setCell_far _ _ _ _ (by simp; omega)).trans r3
  have rf3' := (show (W4.setCell ⟨w2.heap.size, 2, none⟩ (.slice (some ⟨g, 0, none⟩) (ns - 1) sc)).frozen? ⟨w.heap.size + 1, 3, none⟩ = W4.frozen? ⟨w.heap.size + 1, 3, none⟩ from World.frozen?_setCell _ _ _ _).trans rf3
  have r4' := (show (W4.setCell ⟨w2.heap.size, 2, none⟩ (.slice (some ⟨g, 0, none⟩) (ns - 1) sc)).cell? ⟨w.heap.size + 1, 4, none⟩ = W4.cell? ⟨w.heap.size + 1, 4, none⟩ from World.cell?_setCell_far _ _ _ _ (by simp; omega)).trans r4
  have rf4' := (show (W4.setCell ⟨w2.heap.size, 2, none⟩ (.slice (some ⟨g, 0, none⟩) (ns - 1) sc)).frozen? ⟨w.heap.size + 1, 4, none⟩ = W4.frozen? ⟨w.heap.size + 1, 4, none⟩ from World.frozen?_setCell _ _ _ _).trans rf4
  clear r0 r1 r2 r3 r4 rf0 rf1 rf2 rf3 rf4 x3 y0 y1 y2 y3 y4 yf HR4 HL4 HBU4
  generalize W4.setCell ⟨w2.heap.size, 2, none⟩ (.slice (some ⟨g, 0, none⟩) (ns - 1) sc) = W5 at e0 e1 e2 e3 e4 hb5 HR5 HL5 HBU5 hz5 x3' r0' r1' r2' r3' r4' rf0' rf1' rf2' rf3' rf4' ⊢
  have r0 := r0'
  have rf0 := rf0'
  have r1 := r1'
  have rf1 := rf1'
  have r2 := r2'
  have rf2 := rf2'
  have r3 := r3'
  have rf3 := rf3'
  have r4 := r4'
  have rf4 := rf4'
  have x3 := x3'
  clear r0' r1' r2' r3' r4' rf0' rf1' rf2' rf3' rf4' x3'
  obtain ⟨ao, cap, e, hc, hz⟩ := HLA.out
  simp only [Value.slice.injEq] at e
  obtain ⟨rfl, -, rfl⟩ := e
  have HZ := Lib.hid hz; clear hz hc
  have HL6 := Lib.hid (show W5.ownsRow hi 98 2 (.slice la nl lc) nl (pairCells (lbX (hidLabs 0 (k : Int) ls)) (lbY (hidLabs 0 (k : Int) ls)) nl) by
    have e := hidLabs_zero (k : Int) ls
    rw [HNL.out] at e
    rw [e]
    exact HL5.out)
  have zW := hb5.size
  have hneqL : ∀ q, q < hi → some q ≠ (Value.slice la nl lc).ownBlock := fun q hq e => by have := (HL5.out.lt q e.symm).1; omega
  have hneHL : some w2.heap.size ≠ (Value.slice la nl lc).ownBlock := fun e => by have := HLH.out _ e.symm; omega
  have HNQ := Lib.hid (And.intro hneqL hneHL); clear hneqL hneHL
  go_wp2_with fail
  go_loopw [38] (fun i wr => ∃ j : Nat, j ≤ nl ∧ i = .int .i64 j ∧ Hid (wr.ownsRow hi 98 2 (.slice la nl lc) nl (pairCells (lbX (hidLabs j (k : Int) ls)) (lbY (hidLabs j (k : Int) ls)) nl)) ∧ Hid (W5.grownBy wr (Value.slice la nl lc).ownBlock)) (fun i _ => nl - (intOf i).toNat)
  case atStart => exact ⟨0, Nat.zero_le _, rfl, HL6, ⟨rfl, rfl, rfl, Nat.le_refl _, fun _ _ _ => rfl⟩⟩
  case round =>
    obtain ⟨j, hj, rfl, hown, hgrow⟩ := hrel
    have zz := hgrow.out.size
    have hwr : Below w.heap.size w wr := hb5.grown hgrow.out hb5.size (fun b hb => by have := (HL6.out.lt b hb).1; omega)
    have rf0 := frozen_grown hgrow.out rf0 (by show w.heap.size + 1 < W5.heap.size; omega) (HNQ.out.1 _ (by show w.heap.size + 1 < hi; omega))
    have r0 := hgrow.out.cell r0 (HNQ.out.1 _ (by show w.heap.size + 1 < hi; omega))
    have rf1 := frozen_grown hgrow.out rf1 (by show w.heap.size + 1 < W5.heap.size; omega) (HNQ.out.1 _ (by show w.heap.size + 1 < hi; omega))
    have r1 := hgrow.out.cell r1 (HNQ.out.1 _ (by show w.heap.size + 1 < hi; omega))
    have rf2 := frozen_grown hgrow.out rf2 (by show w.heap.size + 1 < W5.heap.size; omega) (HNQ.out.1 _ (by show w.heap.size + 1 < hi; omega))
    have r2 := hgrow.out.cell r2 (HNQ.out.1 _ (by show w.heap.size + 1 < hi; omega))
    have rf3 := frozen_grown hgrow.out rf3 (by show w.heap.size + 1 < W5.heap.size; omega) (HNQ.out.1 _ (by show w.heap.size + 1 < hi; omega))
    have r3 := hgrow.out.cell r3 (HNQ.out.1 _ (by show w.heap.size + 1 < hi; omega))
    have rf4 := frozen_grown hgrow.out rf4 (by show w.heap.size + 1 < W5.heap.size; omega) (HNQ.out.1 _ (by show w.heap.size + 1 < hi; omega))
    have r4 := hgrow.out.cell r4 (HNQ.out.1 _ (by show w.heap.size + 1 < hi; omega))
    have e0 := hgrow.out.cell e0 HNQ.out.2
    have e1 := hgrow.out.cell e1 HNQ.out.2
    have e2 := hgrow.out.cell e2 HNQ.out.2
    have e3 := hgrow.out.cell e3 HNQ.out.2
    have e4 := hgrow.out.cell e4 HNQ.out.2
    by_cases hlt : j < nl
    · rcases HZ.out with h0 | ⟨b, off, rfl, hlo, hcell⟩
      · have := HNL.out; omega
      obtain ⟨d0, d1⟩ := hcell j (by have := HNL.out; omega)
      have hb0 : b < w.heap.size := cell_old d0
      have d0 := hgrow.out.cell (Carries.of lo hb5 _ _ hlo d0) (HNQ.out.1 b (by omega))
      have d1 := hgrow.out.cell (Carries.of lo hb5 _ _ hlo d1) (HNQ.out.1 b (by omega))
      try dsimp only at d0 d1
      clear hcell
      have hst0 := hidLabs_step (g := (k : Int)) (ls := ls) (j := j) (by rw [HNL.out]; exact hlt)
      rw [HNL.out] at hst0
      obtain ⟨q3, q4⟩ := HK.out j hlt
      generalize lbS ls j = lx at d0 hst0 q3 q4
      generalize lbU ls j = lu at d1 hst0
      have HA := World.ownsRow.alloc hown.out (.cells #[.int .i64 lx, .bool lu] 98)
      rcases HA.2 with ⟨e, hn0⟩ | ⟨gl, cap', cur, e, hglb, hgg, _⟩
      · omega
      simp only [Value.slice.injEq, true_and] at e
      obtain ⟨rfl, rfl⟩ := e
      have f0 := HA.frozenAt (j * 2)
      have f1 := HA.frozenAt (j * 2 + 1)
      have k0 := (HA.cellAt (j * 2) (by omega)).trans (pairCells_get _ _ nl j hlt).1
      have k1 := (HA.cellAt (j * 2 + 1) (by omega)).trans (pairCells_get _ _ nl j hlt).2
      have HA' := Lib.hid HA
      have hgr2 := Lib.grownBy_trans hgrow.out (World.grownBy_alloc wr (.cells #[.int .i64 lx, .bool lu] 98) (some gl))
      have HGR := Lib.hid hgr2; clear hgr2 HA hgg hown
      have hgl : gl < w2.heap.size := HLH.out gl rfl
      have HST0 := Lib.hid hst0; clear hst0
      generalize lbX (hidLabs j (k : Int) ls) j = ox at k0
      generalize lbY (hidLabs j (k : Int) ls) j = oy at k1
      have hwa : Below w.heap.size w (wr.alloc (.cells #[.int .i64 lx, .bool lu] 98)) := hwr.alloc hwr.size _
      have e3' := cell_carry e3 (Carries.alloc (Carries.refl 0 wr) (.cells #[.int .i64 lx, .bool lu] 98))
      go_wp2_with fail
      have t0 : (wr.alloc (.cells #[.int .i64 lx, .bool lu] 98)).cell? ⟨wr.heap.size, 0, none⟩ = some (.int .i64 lx) := by simp
      have t1 : (wr.alloc (.cells #[.int .i64 lx, .bool lu] 98)).cell? ⟨wr.heap.size, 1, none⟩ = some (.bool lu) := by simp
      have zA : (wr.alloc (.cells #[.int .i64 lx, .bool lu] 98)).heap.size = wr.heap.size + 1 := by simp
      generalize wr.alloc (.cells #[.int .i64 lx, .bool lu] 98) = WA at f0 f1 k0 k1 HA' HGR hwa e3' t0 t1 zA ⊢
      have HC := Lib.hid (fun (w' : World) => hiddenLabel_any lx (k : Int) lu w' q3 q4 q1)
      clear d0 d1 q3 q4
      have i0 : (0 : Int) ≤ (j : Int) := by omega
      have i1 : (j : Int) < (nl : Int) := by omega
      go_region_held3 (fun w' => w'.cell? ⟨w2.heap.size, 3, none⟩ = some (.slice (some ⟨gl, 0, none⟩) nl lc) ∧ w'.cell? ⟨wr.heap.size, 0, none⟩ = some (.int .i64 lx) ∧ w'.cell? ⟨wr.heap.size, 1, none⟩ = some (.bool lu))
        (first
          | exact ⟨e3', t0, t1⟩
          | exact ⟨cell_carry (w := WA.drew) e3' (Carries.of 0 hb6), cell_carry (w := WA.drew) t0 (Carries.of 0 hb6), cell_carry (w := WA.drew) t1 (Carries.of 0 hb6)⟩
          | exact ⟨((World.cell?_setCell_far _ _ _ _ (by simp; omega)).trans ((World.cell?_setCell_far _ _ _ _ (by simp; omega)).trans (cell_carry (w := WA.drew) e3' (Carries.of 0 hb6)))), ((World.cell?_setCell_far _ _ _ _ (by simp; omega)).trans ((World.cell?_setCell_far _ _ _ _ (by simp; omega)).trans (cell_carry (w := WA.drew) t0 (Carries.of 0 hb6)))), ((World.cell?_setCell_far _ _ _ _ (by simp; omega)).trans ((World.cell?_setCell_far _ _ _ _ (by simp; omega)).trans (cell_carry (w := WA.drew) t1 (Carries.of 0 hb6))))⟩)
        ((go_at_call 77; refine (HC.out _).mono ?_; rintro e w6 ⟨rfl, hb6⟩; have k0' := cell_carry (w := WA.drew) k0 (Carries.of 0 hb6); have k1' := cell_carry (w := WA.drew) k1 (Carries.of 0 hb6); have f0' := (hb6.frozen (p := ⟨gl, j * 2, none⟩) (by show gl < WA.heap.size; omega)).trans f0; have f1' := (hb6.frozen (p := ⟨gl, j * 2 + 1, none⟩) (by show gl < WA.heap.size; omega)).trans f1))
      have hrow6 := owns_after (World.ownsRow.kept HA'.out (World.grownBy_of_drew WA none) (Or.inr (by simp [Value.ownBlock]))) hb6
      have s1 := hrow6.stored (j * 2) (.int .i64 (hidA (k : Int) lx))
      have s2 := s1.1.stored (j * 2 + 1) (.bool (hidU (k : Int) lx lu))
      have gr := Lib.grownBy_trans (Lib.grownBy_trans (Lib.grownBy_trans (Lib.grownBy_trans HGR.out (World.grownBy_of_drew WA (some gl))) ⟨hb6.os, hb6.tape, hb6.output, hb6.size, fun q hq _ => hb6.block q hq⟩) s1.2) s2.2
      rw [HST0.out] at s2
      have HS2 := Lib.hid (And.intro s2.1 gr); clear s1 s2 gr hrow6 hb6
      go_wp2_with fail
      go_roundw
      case rel => exact ⟨j + 1, by omega, by go_num, HS2.out.1, HS2.out.2⟩
      case measure => simp [intOf]; omega
    · have hjj : j = nl := by omega
      subst hjj
      have e1_ := HB.out
      rw [HY.out] at e1_
      have e2_ := HR.out
      rw [hidR_yes HY.out, ← HSS.out.1, ← HSS.out.2, ← HP.out.2.2.2.2, HNL.out, Int.toNat_natCast] at e2_
      subst e1_; subst e2_
      have HR6 := Lib.hid (HR5.out.kept hgrow.out (Or.inr (fun e => by
        rcases HAP.out with h | h
        · rw [h] at e; cases e
        · exact h e.symm)))
      have HBU6 := Lib.hid (HBU5.out.trans (But.of2 hgrow.out))
      go_wp2_with fail
      generalize hWX : (((((wr.setCell ⟨w.heap.size + 1, 0, none⟩ (.int .i64 p)).setCell ⟨w.heap.size + 1, 1, none⟩ (.slice ta m tc)).setCell ⟨w.heap.size + 1, 2, none⟩ (.slice (some ⟨g, 0, none⟩) (ns - 1) sc)).setCell ⟨w.heap.size + 1, 3, none⟩ (.slice la j lc)).setCell ⟨w.heap.size + 1, 4, none⟩ (.string st)) = WX
      obtain ⟨q0, q1', q2', q3, q4⟩ := put5_cells hWX r0 r1 r2 r3 r4
      have hbf := put5_below hWX hwr (by omega)
      have hrow := put5_owns hWX HR6.out (by omega)
      have hlab := put5_owns hWX hown.out (by omega)
      have hbut := put5_but hWX HBU6.out (by omega)
      clear hWX
      refine bodyPost_ret (v := .tuple #[.agg #[.int .i64 p, .slice ta m tc, .slice (some ⟨g, 0, none⟩) (ns - 1) sc, .slice la j lc, .string st], .bool true]) (by simp [results, Try.results19, go_sem, q0, q1', q2', q3, q4]) rfl ?_
      have hcs := hidSigs_cells k ss
      rw [HNS.out] at hcs
      have hG := HCL.out _ (.slice (some ⟨g, 0, none⟩) (ns - 1) sc) (.slice la j lc) (hidSigs k ss) (hidLabs j (k : Int) ls) hbut (by rw [hidSigs_length, HNS.out, hcs]; exact hrow) (fun q hq => by have e : g = q := (by simpa [Value.ownBlock] using hq); subst e; exact hgH) (by rw [hidLabs_length, HNL.out]; exact hlab) HLH.out
      exact ⟨_, rfl, hG.wide (by omega) hbut.1 (Nat.le_refl _), hbf⟩

end Go.Proofs.Ytkkfglolameogaa
