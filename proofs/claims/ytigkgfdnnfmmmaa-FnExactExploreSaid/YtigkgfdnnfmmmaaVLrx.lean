/- WALKS: l2Good, IsValidSTG of the model.
   WALK: Explore of the model. -/
import Derived.Test.YtigkgfdnnfmmmaaVStgj
import Derived.Test.YtigkgfdnnfmmmaaVLrb
namespace Go.Proofs.Ytigkgfdnnfmmmaa
open Go.RowKit

set_option maxRecDepth 100000 in
set_option maxHeartbeats 2000000 in
theorem l2Good_any (v : Value) (s : StgD) (w : World) (lo : Nat) (hv : StgAt lo w v s) (hs : SmallStg s) :
    Calls Try.prog 43 #[v] w (RetB w (goodS s)) := by
  generalize hG : goodS s = g
  unfold goodS at hG
  obtain ⟨a0, c0, a1, c1, a2, c2, rfl, hn, hsg, hl⟩ := hv.form
  clear hv
  obtain ⟨n, ss, ls, st⟩ := s
  obtain ⟨k1, k2, k3, k4⟩ := hs
  simp only at hn hsg hl k1 k2 k3 k4 hG ⊢
  generalize hgN : goodN n = gN at hG
  generalize hgM : markB n st = gM at hG
  generalize hgS : sigsB ss = gS at hG
  generalize hgL : labsB ss.length ls = gL at hG
  generalize hgE : decide (ls.length = n.ts.length) = gE at hG
  have GN := Lib.hid hgN; clear hgN
  have GM := Lib.hid hgM; clear hgM
  have GS := Lib.hid hgS; clear hgS
  have GL := Lib.hid hgL; clear hgL
  have GE := Lib.hid hgE; clear hgE
  have HG := Lib.hid hG; clear hG
  obtain ⟨p, hp⟩ : ∃ p, p = n.places := ⟨_, rfl⟩
  obtain ⟨m, hm⟩ : ∃ m, m = n.ts.length := ⟨_, rfl⟩
  have hmm : m ≤ 1048576 := by rw [hm]; exact k1.1
  have hss : ss.length ≤ 1048576 := k2.1
  rw [← hp, ← hm] at hn ⊢
  rw [← hm] at GE
  clear hp hm
  have HN := Lib.hid hn; clear hn
  have HS := Lib.hid hsg; clear hsg
  have K1 := Lib.hid k1; clear k1
  have K2 := Lib.hid k2; clear k2
  obtain ⟨al, capl, hal, hcl, hzl⟩ := hl
  simp only [Value.slice.injEq, true_and] at hal
  obtain ⟨rfl, rfl⟩ := hal
  have HF := Lib.hid hzl; clear hzl
  go_enter Try.func43, Try.ntmps43
  go_wp2_with fail
  go_loopw [8] (fun i wr => ∃ k : Nat, k ≤ ls.length ∧ i = .int .i64 k ∧ Hid (LabTo ss.length ls k) ∧ Below w.heap.size w wr ∧ w.heap.size < wr.heap.size ∧ wr.cell? ⟨w.heap.size, 0, none⟩ = some (.int .i64 p) ∧ wr.cell? ⟨w.heap.size, 1, none⟩ = some (.slice a0 m c0) ∧ wr.cell? ⟨w.heap.size, 2, none⟩ = some (.slice a1 ss.length c1) ∧ wr.cell? ⟨w.heap.size, 3, none⟩ = some (.slice a2 ls.length c2) ∧ wr.cell? ⟨w.heap.size, 4, none⟩ = some (.string st)) (fun i _ => ls.length - (intOf i).toNat)
  case atStart =>
    refine ⟨0, Nat.zero_le _, rfl, fun i hi => absurd hi (Nat.not_lt_zero _), ?_, ?_, ?_, ?_, ?_, ?_, ?_⟩
    · (repeat' (first | (with_reducible exact Below.refl _ _) | (with_reducible assumption) | (with_reducible refine Below.alloc ?_ ?_ _) | (with_reducible refine Below.drew ?_) | (with_reducible refine below_drewN ?_ _) | (with_reducible refine Below.setCell ?_ ?_ _) | go_size))
    all_goals simp
  case round =>
    obtain ⟨k, hk, rfl, hall, hb1, z1, x0, x1, x2, x3, x4⟩ := hrel
    have zz1 := hb1.size
    by_cases hlt : k < ls.length
    · rcases HF.out with h0 | ⟨b, off, rfl, hlo, hcell⟩
      · omega
      obtain ⟨e0, e1⟩ := hcell k hlt
      have d0 := Carries.of lo hb1 _ _ hlo e0
      have d1 := Carries.of lo hb1 _ _ hlo e1
      clear hcell e0 e1
      have hbad := fun h => labsB_bad (m := ss.length) (ls := ls) hlt h
      rw [GL.out] at hbad
      have HB := Lib.hid hbad; clear hbad
      have y2 : (wr.alloc (.cells #[.int .i64 (lbS ls k), .bool (lbU ls k)] 124)).cell? ⟨w.heap.size, 2, none⟩ = some (.slice a1 ss.length c1) := cell_carry x2 (by (repeat' (first | (with_reducible exact Carries.refl _ _) | (with_reducible assumption) | (with_reducible refine Carries.alloc ?_ _) | (with_reducible refine Carries.drew ?_) | (with_reducible refine Carries.drewN ?_ _) | (with_reducible refine Carries.set ?_ ?_ _) | go_size)))
      go_wp2_with fail
      refine (l2Label_any ls k ss.length _ hss).mono ?_
      rintro e w1 ⟨rfl, hb2⟩
      have hw1 : Below w.heap.size w w1 := by
        refine Below.trans ?_ (hb2.mono ?_)
        · (repeat' (first | (with_reducible exact Below.refl _ _) | (with_reducible assumption) | (with_reducible refine Below.alloc ?_ ?_ _) | (with_reducible refine Below.drew ?_) | (with_reducible refine below_drewN ?_ _) | (with_reducible refine Below.setCell ?_ ?_ _) | go_size))
        · simpa using Nat.le_succ_of_le hb1.size
      have car : Carries 0 wr w1 := Carries.trans (by (repeat' (first | (with_reducible exact Carries.refl _ _) | (with_reducible assumption) | (with_reducible refine Carries.alloc ?_ _) | (with_reducible refine Carries.drew ?_) | (with_reducible refine Carries.drewN ?_ _) | (with_reducible refine Carries.set ?_ ?_ _) | go_size))) (Carries.of 0 hb2)
      have x0 := cell_carry x0 car
      have x1 := cell_carry x1 car
      have x2 := cell_carry x2 car
      have x3 := cell_carry x3 car
      have x4 := cell_carry x4 car
      have z2 : w.heap.size < w1.heap.size := by have := hb2.size; simp at this; omega
      clear car hb2 y2
      by_cases hok : LabOk ss.length ls k
      · rw [decide_eq_true hok]
        have H2 : Hid (LabTo ss.length ls (k + 1)) := by
          intro i hi
          by_cases e : i = k
          · subst e; exact hok
          · exact hall.out i (by omega)
        clear hok
        go_wp2_with fail
        go_roundw
        case rel => exact ⟨k + 1, by omega, by go_num, H2, hw1, z2, x0, x1, x2, x3, x4⟩
        case measure => simp [intOf]; omega
      · rw [decide_eq_false hok]
        have hfin := HB.out hok
        subst hfin
        have := HG.out
        simp only [Bool.false_and, Bool.and_false] at this
        subst this
        clear hok
        go_wp2_with fail
        go_ret
        exact ⟨rfl, hw1⟩
    · have hkk : k = ls.length := by omega
      subst hkk
      have hfin : labsB ss.length ls = true := decide_eq_true hall.out
      rw [GL.out] at hfin
      subst hfin
      go_wp2_with fail
      refine (l1Good_any _ n _ lo (HN.out.keep (Carries.of lo hb1)) K1.out).mono ?_
      rintro e w1 ⟨rfl, hb⟩
      have hw1 : Below w.heap.size w w1 := hb1.trans (hb.mono hb1.size)
      have x0 := cell_carry x0 (Carries.of 0 hb)
      have x1 := cell_carry x1 (Carries.of 0 hb)
      have x2 := cell_carry x2 (Carries.of 0 hb)
      have x3 := cell_carry x3 (Carries.of 0 hb)
      have x4 := cell_carry x4 (Carries.of 0 hb)
      clear hb hb1 z1
      rw [GN.out]
      cases gN with
      | false =>
        have := HG.out
        simp only [Bool.false_and, Bool.and_false] at this
        subst this
        go_wp2_with fail
        go_ret
        exact ⟨rfl, hw1⟩
      | true =>
      go_wp2_with fail
      refine (l2Signals_any _ ss _ lo (HS.out.keep (Carries.of lo hw1)) K2.out).mono ?_
      rintro e w2 ⟨rfl, hb⟩
      have hw2 : Below w.heap.size w w2 := hw1.trans (hb.mono hw1.size)
      have x0 := cell_carry x0 (Carries.of 0 hb)
      have x1 := cell_carry x1 (Carries.of 0 hb)
      have x3 := cell_carry x3 (Carries.of 0 hb)
      have x4 := cell_carry x4 (Carries.of 0 hb)
      clear hb hw1
      rw [GS.out]
      cases gS with
      | false =>
        have := HG.out
        simp only [Bool.false_and, Bool.and_false] at this
        subst this
        go_wp2_with fail
        go_ret
        exact ⟨rfl, hw2⟩
      | true =>
      cases gE with
      | false =>
        have := HG.out
        simp only [Bool.and_false] at this
        subst this
        have hne : ((ls.length : Int) == (m : Int)) = false := by have := of_decide_eq_false GE.out; rw [beq_eq_false_iff_ne]; omega
        go_wp2_with fail
        go_ret
        exact ⟨rfl, hw2⟩
      | true =>
      have hne : ((ls.length : Int) == (m : Int)) = true := by have := of_decide_eq_true GE.out; rw [beq_iff_eq]; omega
      go_wp2_with fail
      refine (l1Mark_any _ n st _ lo (HN.out.keep (Carries.of lo hw2)) k4).mono ?_
      rintro e w3 ⟨rfl, hb⟩
      have hw3 : Below w.heap.size w w3 := hw2.trans (hb.mono hw2.size)
      rw [GM.out]
      cases gM with
      | false =>
        have := HG.out
        simp only [Bool.and_true, Bool.and_false, Bool.true_and] at this
        subst this
        go_wp2_with fail
        go_ret
        exact ⟨rfl, hw3⟩
      | true =>
        have := HG.out
        simp only [Bool.and_true] at this
        subst this
        go_wp2_with fail
        go_ret
        exact ⟨rfl, hw3⟩

end Go.Proofs.Ytigkgfdnnfmmmaa

namespace Go.Proofs.Ytigkgfdnnfmmmaa
open Go.RowKit Go.Maps

set_option maxRecDepth 100000 in
set_option maxHeartbeats 2000000 in
theorem specExplore_any (v : Value) (s : StgD) (w : World) (lo : Nat) (hv : StgAt lo w v s) (hs : SmallStg s) :
    Calls Try.prog 11 #[v] w (RetXp w (xpV s) (xpB s)) := by
  obtain ⟨V, hV⟩ : ∃ q, q = xpV s := ⟨_, rfl⟩
  obtain ⟨G, hG⟩ : ∃ q, q = xpB s := ⟨_, rfl⟩
  rw [← hV, ← hG]
  have HVV := Lib.hid hV; have HGG := Lib.hid hG
  obtain ⟨a0, c0, a1, c1, a2, c2, rfl, hn, _, _⟩ := hv.form
  obtain ⟨p, hp⟩ : ∃ q, q = s.net.places := ⟨_, rfl⟩
  obtain ⟨m, hm⟩ : ∃ q, q = s.net.ts.length := ⟨_, rfl⟩
  obtain ⟨ns, hns⟩ : ∃ q, q = s.sigs.length := ⟨_, rfl⟩
  obtain ⟨nl, hnl⟩ : ∃ q, q = s.labs.length := ⟨_, rfl⟩
  obtain ⟨st, hst⟩ : ∃ q, q = s.start := ⟨_, rfl⟩
  rw [← hp, ← hm, ← hns, ← hnl, ← hst] at hv ⊢
  rw [← hp, ← hm] at hn
  have HV := Lib.hid hv; have HS := Lib.hid hs; have HNN := Lib.hid hn; have HP := Lib.hid hp; have HM := Lib.hid hm; have HST := Lib.hid hst
  clear hV hG hv hs hn hp hm hns hnl hst
  have W0 : Below w.heap.size w ((w.alloc (.cells #[.int .i64 p, .slice a0 m c0, .slice a1 ns c1, .slice a2 nl c2, .string st] 42)).alloc (.cells #[.slice none 0 0, .slice none 0 0] 33)) := by (repeat' (first | (with_reducible exact Below.refl _ _) | (with_reducible assumption) | (with_reducible refine Below.alloc ?_ ?_ _) | (with_reducible refine Below.drew ?_) | (with_reducible refine below_drewN ?_ _) | (with_reducible refine Below.setCell ?_ ?_ _) | go_size))
  have b0 : ((w.alloc (.cells #[.int .i64 p, .slice a0 m c0, .slice a1 ns c1, .slice a2 nl c2, .string st] 42)).alloc (.cells #[.slice none 0 0, .slice none 0 0] 33)).cell? ⟨w.heap.size, 0, none⟩ = some (.int .i64 p) := by simp [go_sem]
  have b1 : ((w.alloc (.cells #[.int .i64 p, .slice a0 m c0, .slice a1 ns c1, .slice a2 nl c2, .string st] 42)).alloc (.cells #[.slice none 0 0, .slice none 0 0] 33)).cell? ⟨w.heap.size, 1, none⟩ = some (.slice a0 m c0) := by simp [go_sem]
  have b2 : ((w.alloc (.cells #[.int .i64 p, .slice a0 m c0, .slice a1 ns c1, .slice a2 nl c2, .string st] 42)).alloc (.cells #[.slice none 0 0, .slice none 0 0] 33)).cell? ⟨w.heap.size, 2, none⟩ = some (.slice a1 ns c1) := by simp [go_sem]
  have b3 : ((w.alloc (.cells #[.int .i64 p, .slice a0 m c0, .slice a1 ns c1, .slice a2 nl c2, .string st] 42)).alloc (.cells #[.slice none 0 0, .slice none 0 0] 33)).cell? ⟨w.heap.size, 3, none⟩ = some (.slice a2 nl c2) := by simp [go_sem]
  have b4 : ((w.alloc (.cells #[.int .i64 p, .slice a0 m c0, .slice a1 ns c1, .slice a2 nl c2, .string st] 42)).alloc (.cells #[.slice none 0 0, .slice none 0 0] 33)).cell? ⟨w.heap.size, 4, none⟩ = some (.string st) := by simp [go_sem]
  have r0 : ((w.alloc (.cells #[.int .i64 p, .slice a0 m c0, .slice a1 ns c1, .slice a2 nl c2, .string st] 42)).alloc (.cells #[.slice none 0 0, .slice none 0 0] 33)).cell? ⟨w.heap.size + 1, 0, none⟩ = some (.slice none 0 0) := by simp [go_sem]
  have r1 : ((w.alloc (.cells #[.int .i64 p, .slice a0 m c0, .slice a1 ns c1, .slice a2 nl c2, .string st] 42)).alloc (.cells #[.slice none 0 0, .slice none 0 0] 33)).cell? ⟨w.heap.size + 1, 1, none⟩ = some (.slice none 0 0) := by simp [go_sem]
  have rf0 : ((w.alloc (.cells #[.int .i64 p, .slice a0 m c0, .slice a1 ns c1, .slice a2 nl c2, .string st] 42)).alloc (.cells #[.slice none 0 0, .slice none 0 0] 33)).frozen? ⟨w.heap.size + 1, 0, none⟩ = false := by simp [go_sem]
  have rf1 : ((w.alloc (.cells #[.int .i64 p, .slice a0 m c0, .slice a1 ns c1, .slice a2 nl c2, .string st] 42)).alloc (.cells #[.slice none 0 0, .slice none 0 0] 33)).frozen? ⟨w.heap.size + 1, 1, none⟩ = false := by simp [go_sem]
  have rT : TyAt ((w.alloc (.cells #[.int .i64 p, .slice a0 m c0, .slice a1 ns c1, .slice a2 nl c2, .string st] 42)).alloc (.cells #[.slice none 0 0, .slice none 0 0] 33)) (w.heap.size + 1) 33 := by
    have := TyAt.new (w.alloc (.cells #[.int .i64 p, .slice a0 m c0, .slice a1 ns c1, .slice a2 nl c2, .string st] 42)) #[.slice none 0 0, .slice none 0 0] 33
    rw [World.size_alloc] at this
    exact this
  go_enter Try.func11, Try.ntmps11
  go_wp2_with fail
  generalize (w.alloc (.cells #[.int .i64 p, .slice a0 m c0, .slice a1 ns c1, .slice a2 nl c2, .string st] 42)).alloc (.cells #[.slice none 0 0, .slice none 0 0] 33) = W at W0 b0 b1 b2 b3 b4 r0 r1 rf0 rf1 rT ⊢
  refine (l2Good_any _ s W lo (HV.out.keep (Carries.of lo W0)) HS.out).mono ?_
  rintro e w1 ⟨rfl, hb1⟩
  have hw1 : Below w.heap.size w w1 := W0.trans (hb1.mono W0.size)
  have zR : w.heap.size + 1 < w1.heap.size := Nat.lt_of_lt_of_le rT.lt hb1.size
  have b0 := cell_carry b0 (Carries.of 0 hb1)
  have b1 := cell_carry b1 (Carries.of 0 hb1)
  have b2 := cell_carry b2 (Carries.of 0 hb1)
  have b3 := cell_carry b3 (Carries.of 0 hb1)
  have b4 := cell_carry b4 (Carries.of 0 hb1)
  have r0 := cell_carry r0 (Carries.of 0 hb1)
  have r1 := cell_carry r1 (Carries.of 0 hb1)
  have rf0 := (hb1.frozen (p := ⟨w.heap.size + 1, 0, none⟩) rT.lt).trans rf0
  have rf1 := (hb1.frozen (p := ⟨w.heap.size + 1, 1, none⟩) rT.lt).trans rf1
  have rT := rT.keep hb1
  clear hb1 W0
  cases hq : goodS s with
  | false =>
    have e1 : G = false := by rw [HGG.out]; unfold xpB; rw [hq]; rfl
    have e2 : V = ⟨[], []⟩ := by rw [HVV.out]; unfold xpV; rw [hq]; rfl
    subst e1; subst e2
    clear hq
    go_wp2_with fail
    refine bodyPost_ret (v := .tuple #[.agg #[.slice none 0 0, .slice none 0 0], .bool false]) (by simp [results, Try.results11, go_sem, r0, r1]) rfl ?_
    exact ⟨_, _, rfl, World.ownsRow_nil _ _ _ _, MRow.nil _ _, (hw1.setCell (by simp) _).setCell (by simp) _⟩
  | true =>
  have HQ := Lib.hid hq
  clear hq
  go_wp2_with fail
  refine (l4Reach_any _ s w1 lo (HV.out.keep (Carries.of lo hw1)) HS.out HQ.out).mono ?_
  rintro e w2 ⟨hb2, vM, vV, vB, mk, bad, fu, rfl, ⟨aM, lM, cM, rfl⟩, ⟨aV, lV, cV, rfl⟩, ⟨aB, lB, cB, rfl⟩, hc⟩
  have hw2 : Below w.heap.size w w2 := hw1.trans (hb2.mono hw1.size)
  have r0 := cell_carry r0 (Carries.of 0 hb2)
  have r1 := cell_carry r1 (Carries.of 0 hb2)
  have rf0 := (hb2.frozen (p := ⟨w.heap.size + 1, 0, none⟩) zR).trans rf0
  have rf1 := (hb2.frozen (p := ⟨w.heap.size + 1, 1, none⟩) zR).trans rf1
  have rT := rT.keep hb2
  have zR2 : w.heap.size + 1 < w2.heap.size := rT.lt
  clear hb2 b0 b1 b2 b3 b4
  have hal : Below w2.heap.size w2 (w2.alloc (.cells #[.slice aM lM cM, .slice aV lV cV, .slice aB lB cB, .int .i64 mk, .int .i64 bad, .bool fu] 74)) := (Below.refl _ _).alloc (Nat.le_refl _) _
  have hw3 : Below w.heap.size w (w2.alloc (.cells #[.slice aM lM cM, .slice aV lV cV, .slice aB lB cB, .int .i64 mk, .int .i64 bad, .bool fu] 74)) := hw2.trans (hal.mono hw2.size)
  have s0 := cell_carry r0 (Carries.of 0 hal)
  have s1 := cell_carry r1 (Carries.of 0 hal)
  have sf0 := (hal.frozen (p := ⟨w.heap.size + 1, 0, none⟩) zR2).trans rf0
  have sf1 := (hal.frozen (p := ⟨w.heap.size + 1, 1, none⟩) zR2).trans rf1
  have sT := rT.keep hal
  clear r0 r1 rf0 rf1
  have n0 : (w2.alloc (.cells #[.slice aM lM cM, .slice aV lV cV, .slice aB lB cB, .int .i64 mk, .int .i64 bad, .bool fu] 74)).cell? ⟨w2.heap.size, 0, none⟩ = some (.slice aM lM cM) := by simp [go_sem]
  have n1 : (w2.alloc (.cells #[.slice aM lM cM, .slice aV lV cV, .slice aB lB cB, .int .i64 mk, .int .i64 bad, .bool fu] 74)).cell? ⟨w2.heap.size, 1, none⟩ = some (.slice aV lV cV) := by simp [go_sem]
  have n3 : (w2.alloc (.cells #[.slice aM lM cM, .slice aV lV cV, .slice aB lB cB, .int .i64 mk, .int .i64 bad, .bool fu] 74)).cell? ⟨w2.heap.size, 4, none⟩ = some (.int .i64 bad) := by simp [go_sem]
  have n4 : (w2.alloc (.cells #[.slice aM lM cM, .slice aV lV cV, .slice aB lB cB, .int .i64 mk, .int .i64 bad, .bool fu] 74)).cell? ⟨w2.heap.size, 5, none⟩ = some (.bool fu) := by simp [go_sem]
  go_upto_region 4 with fail
  generalize w2.alloc (.cells #[.slice aM lM cM, .slice aV lV cV, .slice aB lB cB, .int .i64 mk, .int .i64 bad, .bool fu] 74) = X at hal hw3 s0 s1 sf0 sf1 sT n0 n1 n3 n4 ⊢
  rcases hc with ⟨s', i, k, t, hf, rfl, rfl, ho, hrm, hrv⟩ | ⟨k, t, s', hf, rfl⟩ | ⟨hf, rfl⟩
  · have e1 : G = true := by rw [HGG.out]; unfold xpB; rw [HQ.out, hf]; rfl
    have e2 : V = ⟨s'.ms, s'.mv⟩ := by rw [HVV.out]; unfold xpV; rw [HQ.out, hf]; rfl
    subst e1; subst e2
    have HM := Lib.hid (Go.Joins.ownsRow_le (owns_after hrm hal) hw1.size); have HV2 := Lib.hid (Go.Joins.ownsRow_le (owns_after hrv hal) hw1.size)
    clear hf ho hrm hrv hal
    go_wp2_with fail
    refine bodyPost_ret (v := .tuple #[.agg #[.slice aM lM cM, .slice aV lV cV], .bool true]) (by simp [results, Try.results11, go_sem, s0, s1]) rfl ?_
    exact ⟨_, _, rfl, owns_setT (owns_setT HM.out (p := ⟨w.heap.size + 1, 0, none⟩) sT (by decide) _) (p := ⟨w.heap.size + 1, 1, none⟩) (sT.set _ _) (by decide) _, owns_setT (owns_setT HV2.out (p := ⟨w.heap.size + 1, 0, none⟩) sT (by decide) _) (p := ⟨w.heap.size + 1, 1, none⟩) (sT.set _ _) (by decide) _, (hw3.setCell (Nat.le_succ _) _).setCell (Nat.le_succ _) _⟩
  · have e1 : G = false := by rw [HGG.out]; unfold xpB; rw [HQ.out, hf]; rfl
    have e2 : V = ⟨[], []⟩ := by rw [HVV.out]; unfold xpV; rw [HQ.out, hf]; rfl
    subst e1; subst e2
    have tb : decide ((t : Int) ≥ 0) = true := decide_eq_true (by omega)
    clear hf
    go_wp2_with fail
    refine bodyPost_ret (v := .tuple #[.agg #[.slice none 0 0, .slice none 0 0], .bool false]) (by simp [results, Try.results11, go_sem, s0, s1]) rfl ?_
    exact ⟨_, _, rfl, World.ownsRow_nil _ _ _ _, MRow.nil _ _, (hw3.setCell (Nat.le_succ _) _).setCell (Nat.le_succ _) _⟩
  · have e1 : G = false := by rw [HGG.out]; unfold xpB; rw [HQ.out, hf]; rfl
    have e2 : V = ⟨[], []⟩ := by rw [HVV.out]; unfold xpV; rw [HQ.out, hf]; rfl
    subst e1; subst e2
    clear hf
    by_cases tb : bad ≥ 0
    · have tb1 : decide (bad ≥ 0) = true := decide_eq_true tb
      go_wp2_with fail
      refine bodyPost_ret (v := .tuple #[.agg #[.slice none 0 0, .slice none 0 0], .bool false]) (by simp [results, Try.results11, go_sem, s0, s1]) rfl ?_
      exact ⟨_, _, rfl, World.ownsRow_nil _ _ _ _, MRow.nil _ _, (hw3.setCell (Nat.le_succ _) _).setCell (Nat.le_succ _) _⟩
    · have tb1 : decide (bad ≥ 0) = false := by rw [decide_eq_false_iff_not]; exact tb
      go_wp2_with fail
      refine bodyPost_ret (v := .tuple #[.agg #[.slice none 0 0, .slice none 0 0], .bool false]) (by simp [results, Try.results11, go_sem, s0, s1]) rfl ?_
      exact ⟨_, _, rfl, World.ownsRow_nil _ _ _ _, MRow.nil _ _, (hw3.setCell (Nat.le_succ _) _).setCell (Nat.le_succ _) _⟩

end Go.Proofs.Ytigkgfdnnfmmmaa
