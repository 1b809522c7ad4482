/- WALK: UnionSTGs of the model. -/
import Derived.Test.YtgmnknlnlmcmfaaVUnse
import Derived.Test.YtgmnknlnlmcmfaaVUng
import Derived.Test.YtgmnknlnlmcmfaaVUnt
namespace Go.Proofs.Ytgmnknlnlmcmfaa
open Go.RowKit

theorem put5_ownsT {w W : World} {b : Nat} {v0 v1 v2 v3 v4 : Value} (hW : (((((w.setCell ⟨b, 0, none⟩ (v0)).setCell ⟨b, 1, none⟩ (v1)).setCell ⟨b, 2, none⟩ (v2)).setCell ⟨b, 3, none⟩ (v3)).setCell ⟨b, 4, none⟩ (v4)) = W) {B size n : Nat} {e t : TypeId} {v : Value} {xs : List Value} (h : w.ownsRow B e size v n xs) (hT : TyAt w b t) (hne : e ≠ t) : W.ownsRow B e size v n xs := by
  subst hW
  have h1 := owns_setT h (p := ⟨b, 0, none⟩) hT hne v0
  have t1 := hT.set ⟨b, 0, none⟩ v0
  have h2 := owns_setT h1 (p := ⟨b, 1, none⟩) t1 hne v1
  have t2 := t1.set ⟨b, 1, none⟩ v1
  have h3 := owns_setT h2 (p := ⟨b, 2, none⟩) t2 hne v2
  have t3 := t2.set ⟨b, 2, none⟩ v2
  have h4 := owns_setT h3 (p := ⟨b, 3, none⟩) t3 hne v3
  exact owns_setT h4 (p := ⟨b, 4, none⟩) (t3.set ⟨b, 3, none⟩ v3) hne v4
theorem put5_more {w W : World} {b : Nat} {v0 v1 v2 v3 v4 : Value} {t : TypeId} (hW : (((((w.setCell ⟨b, 0, none⟩ (v0)).setCell ⟨b, 1, none⟩ (v1)).setCell ⟨b, 2, none⟩ (v2)).setCell ⟨b, 3, none⟩ (v3)).setCell ⟨b, 4, none⟩ (v4)) = W)
    (f0 : w.frozen? ⟨b, 0, none⟩ = false) (f1 : w.frozen? ⟨b, 1, none⟩ = false) (f2 : w.frozen? ⟨b, 2, none⟩ = false) (f3 : w.frozen? ⟨b, 3, none⟩ = false) (f4 : w.frozen? ⟨b, 4, none⟩ = false) (hT : TyAt w b t) :
    W.frozen? ⟨b, 0, none⟩ = false ∧ W.frozen? ⟨b, 1, none⟩ = false ∧ W.frozen? ⟨b, 2, none⟩ = false ∧ W.frozen? ⟨b, 3, none⟩ = false ∧ W.frozen? ⟨b, 4, none⟩ = false ∧ TyAt W b t ∧ W.heap.size = w.heap.size := by
  subst hW
  refine ⟨?_, ?_, ?_, ?_, ?_, ((((hT.set _ _).set _ _).set _ _).set _ _).set _ _, by simp⟩ <;> simp only [World.frozen?_setCell] <;> assumption

set_option maxRecDepth 100000 in
set_option maxHeartbeats 4000000 in
theorem specUnionSTGs_any (va vb : Value) (s0 s1 : StgD) (w : World) (lo : Nat) (hva : StgAt lo w va s0) (hvb : StgAt lo w vb s1) (hs0 : SmallStg s0) (hs1 : SmallStg s1) :
    Calls Try.prog 36 #[va, vb] w (RetSB w (uniR s0 s1) (uniB s0 s1)) := by
  obtain ⟨a0, c0, a1, c1, a2, c2, rfl, hna, hsa, hla⟩ := hva.form
  obtain ⟨b0, d0, b1, d1, b2, d2, rfl, hnb, hsb, hlb⟩ := hvb.form
  have HV := Lib.hid hva; clear hva
  have HU := Lib.hid hvb; clear hvb
  have HNA := Lib.hid hna; clear hna
  have HNB := Lib.hid hnb; clear hnb
  have HSA := Lib.hid hsa; clear hsa
  have HSB := Lib.hid hsb; clear hsb
  have HLA := Lib.hid hla; clear hla
  have HLB := Lib.hid hlb; clear hlb
  have HS0 := Lib.hid hs0; clear hs0
  have HS1 := Lib.hid hs1; clear hs1
  obtain ⟨RR, hRR⟩ : ∃ R, R = (uniR s0 s1) := ⟨_, rfl⟩
  obtain ⟨BB, hBB⟩ : ∃ B, B = (uniB s0 s1) := ⟨_, rfl⟩
  rw [← hRR, ← hBB]
  have HR := Lib.hid hRR; clear hRR
  have HB := Lib.hid hBB; clear hBB
  obtain ⟨p0, hp⟩ : ∃ p, p = s0.net.places := ⟨_, rfl⟩
  obtain ⟨m0, hm⟩ : ∃ m, m = s0.net.ts.length := ⟨_, rfl⟩
  obtain ⟨n0, hns⟩ : ∃ ns, ns = s0.sigs.length := ⟨_, rfl⟩
  obtain ⟨l0, hnl⟩ : ∃ nl, nl = s0.labs.length := ⟨_, rfl⟩
  obtain ⟨t0, hst⟩ : ∃ st, st = s0.start := ⟨_, rfl⟩
  rw [← hp, ← hm, ← hns, ← hnl, ← hst] at HV ⊢
  rw [← hp, ← hm] at HNA
  rw [← hns] at HSA
  rw [← hnl] at HLA
  have HP0 := Lib.hid (And.intro hp (And.intro hm (And.intro hns (And.intro hnl hst)))); clear hp hm hns hnl hst
  obtain ⟨p1, hp⟩ : ∃ p, p = s1.net.places := ⟨_, rfl⟩
  obtain ⟨m1, hm⟩ : ∃ m, m = s1.net.ts.length := ⟨_, rfl⟩
  obtain ⟨n1, hns⟩ : ∃ ns, ns = s1.sigs.length := ⟨_, rfl⟩
  obtain ⟨l1, hnl⟩ : ∃ nl, nl = s1.labs.length := ⟨_, rfl⟩
  obtain ⟨t1, hst⟩ : ∃ st, st = s1.start := ⟨_, rfl⟩
  rw [← hp, ← hm, ← hns, ← hnl, ← hst] at HU ⊢
  rw [← hp, ← hm] at HNB
  rw [← hns] at HSB
  rw [← hnl] at HLB
  have HP1 := Lib.hid (And.intro hp (And.intro hm (And.intro hns (And.intro hnl hst)))); clear hp hm hns hnl hst
  go_enter Try.func36, Try.ntmps36
  go_wp2_with fail
  refine (specUnionNets_any _ _ s0.net s1.net _ lo (HNA.out.keep ?_) HS0.out.1 (HNB.out.keep ?_) HS1.out.1).mono ?_
  · (repeat' (first | (with_reducible exact Carries.refl _ _) | (with_reducible assumption) | (with_reducible refine Carries.alloc ?_ _) | (with_reducible refine Carries.drew ?_) | (with_reducible refine Carries.drewN ?_ _) | (with_reducible refine Carries.set ?_ ?_ _) | go_size))
  · (repeat' (first | (with_reducible exact Carries.refl _ _) | (with_reducible assumption) | (with_reducible refine Carries.alloc ?_ _) | (with_reducible refine Carries.drew ?_) | (with_reducible refine Carries.drewN ?_ _) | (with_reducible refine Carries.set ?_ ?_ _) | go_size))
  rintro e w1 ⟨u, rfl, htat, hb⟩
  have hw1 : Below w.heap.size w w1 := by
    refine Below.trans ?_ (hb.mono ?_)
    · (repeat' (first | (with_reducible exact Below.refl _ _) | (with_reducible assumption) | (with_reducible refine Below.alloc ?_ ?_ _) | (with_reducible refine Below.drew ?_) | (with_reducible refine below_drewN ?_ _) | (with_reducible refine Below.setCell ?_ ?_ _) | go_size))
    · simp; omega
  have x0 : w1.cell? ⟨w.heap.size, 0, none⟩ = some (.int .i64 p0) := cell_carry (by simp [go_sem]) (Carries.of 0 hb)
  have x1 : w1.cell? ⟨w.heap.size, 1, none⟩ = some (.slice a0 m0 c0) := cell_carry (by simp [go_sem]) (Carries.of 0 hb)
  have x2 : w1.cell? ⟨w.heap.size, 2, none⟩ = some (.slice a1 n0 c1) := cell_carry (by simp [go_sem]) (Carries.of 0 hb)
  have x3 : w1.cell? ⟨w.heap.size, 3, none⟩ = some (.slice a2 l0 c2) := cell_carry (by simp [go_sem]) (Carries.of 0 hb)
  have x4 : w1.cell? ⟨w.heap.size, 4, none⟩ = some (.string t0) := cell_carry (by simp [go_sem]) (Carries.of 0 hb)
  have y0 : w1.cell? ⟨w.heap.size + 1, 0, none⟩ = some (.int .i64 p1) := cell_carry (by simp [go_sem]) (Carries.of 0 hb)
  have y1 : w1.cell? ⟨w.heap.size + 1, 1, none⟩ = some (.slice b0 m1 d0) := cell_carry (by simp [go_sem]) (Carries.of 0 hb)
  have y2 : w1.cell? ⟨w.heap.size + 1, 2, none⟩ = some (.slice b1 n1 d1) := cell_carry (by simp [go_sem]) (Carries.of 0 hb)
  have y3 : w1.cell? ⟨w.heap.size + 1, 3, none⟩ = some (.slice b2 l1 d2) := cell_carry (by simp [go_sem]) (Carries.of 0 hb)
  have y4 : w1.cell? ⟨w.heap.size + 1, 4, none⟩ = some (.string t1) := cell_carry (by simp [go_sem]) (Carries.of 0 hb)
  have r0 : w1.cell? ⟨w.heap.size + 2, 0, none⟩ = some (.int .i64 0) := cell_carry (by simp [go_sem]) (Carries.of 0 hb)
  have r1 : w1.cell? ⟨w.heap.size + 2, 1, none⟩ = some (.slice none 0 0) := cell_carry (by simp [go_sem]) (Carries.of 0 hb)
  have r2 : w1.cell? ⟨w.heap.size + 2, 2, none⟩ = some (.slice none 0 0) := cell_carry (by simp [go_sem]) (Carries.of 0 hb)
  have r3 : w1.cell? ⟨w.heap.size + 2, 3, none⟩ = some (.slice none 0 0) := cell_carry (by simp [go_sem]) (Carries.of 0 hb)
  have r4 : w1.cell? ⟨w.heap.size + 2, 4, none⟩ = some (.string ⟨#[]⟩) := cell_carry (by simp [go_sem]) (Carries.of 0 hb)
  have rf0 : w1.frozen? ⟨w.heap.size + 2, 0, none⟩ = false := (hb.frozen (by simp)).trans (by simp [go_sem])
  have rf1 : w1.frozen? ⟨w.heap.size + 2, 1, none⟩ = false := (hb.frozen (by simp)).trans (by simp [go_sem])
  have rf2 : w1.frozen? ⟨w.heap.size + 2, 2, none⟩ = false := (hb.frozen (by simp)).trans (by simp [go_sem])
  have rf3 : w1.frozen? ⟨w.heap.size + 2, 3, none⟩ = false := (hb.frozen (by simp)).trans (by simp [go_sem])
  have rf4 : w1.frozen? ⟨w.heap.size + 2, 4, none⟩ = false := (hb.frozen (by simp)).trans (by simp [go_sem])
  have z1 : w.heap.size + 2 < w1.heap.size := by have := hb.size; simp at this; omega
  have htat : TrsAt (w.heap.size + 3) w1 u (unR s0.net s1.net).ts := htat.low (by simp)
  clear hb
  cases hg : unB s0.net s1.net with
  | false =>
    have eR : unR s0.net s1.net = ⟨0, []⟩ := by unfold unR; rw [hg]; rfl
    rw [eR] at htat ⊢
    obtain ⟨ua, uc, rfl, _⟩ := id htat
    have hno : uniB s0 s1 = false := uni3 hg
    have e1 := HB.out
    rw [hno] at e1
    have e2 := HR.out
    rw [uniR_no hno] at e2
    subst e1; subst e2
    clear hg
    go_wp2_with fail
    generalize hWX : (((((w1.setCell ⟨w.heap.size + 1 + 1, 0, none⟩ (.int .i64 0)).setCell ⟨w.heap.size + 1 + 1, 1, none⟩ (.slice none 0 0)).setCell ⟨w.heap.size + 1 + 1, 2, none⟩ (.slice none 0 0)).setCell ⟨w.heap.size + 1 + 1, 3, none⟩ (.slice none 0 0)).setCell ⟨w.heap.size + 1 + 1, 4, none⟩ (.string ⟨#[]⟩)) = WX
    obtain ⟨q0, q1, q2, q3, q4⟩ := put5_cells hWX r0 r1 r2 r3 r4
    have hbf := put5_below hWX hw1 (by omega)
    clear hWX
    have hb : Below WX.heap.size WX (WX.alloc (.cells #[.int .i64 0, .slice ua 0 uc] 60)) := (Below.refl _ _).alloc (Nat.le_refl _) _
    generalize WX.alloc (.cells #[.int .i64 0, .slice ua 0 uc] 60) = WZ at hb ⊢
    have q0 := cell_carry q0 (Carries.of 0 hb)
    have q1 := cell_carry q1 (Carries.of 0 hb)
    have q2 := cell_carry q2 (Carries.of 0 hb)
    have q3 := cell_carry q3 (Carries.of 0 hb)
    have q4 := cell_carry q4 (Carries.of 0 hb)
    have hbf := hbf.trans (hb.mono hbf.size)
    refine bodyPost_ret (v := .tuple #[.agg #[.int .i64 0, .slice none 0 0, .slice none 0 0, .slice none 0 0, .string ⟨#[]⟩], .bool false]) (by simp [results, Try.results36, go_sem, q0, q1, q2, q3, q4]) rfl ?_
    exact ⟨_, rfl, (SepStg.zero _).at.low hbf.size, hbf⟩
  | true =>
  have eR : unR s0.net s1.net = unN s0.net s1.net := by unfold unR; rw [hg]; rfl
  rw [eR] at htat ⊢
  obtain ⟨ua, uc, rfl, _⟩ := id htat
  have HGU := Lib.hid hg; clear hg eR
  obtain ⟨P, hP⟩ : ∃ P, P = (unN s0.net s1.net).places := ⟨_, rfl⟩
  obtain ⟨M, hM⟩ : ∃ M, M = (unN s0.net s1.net).ts.length := ⟨_, rfl⟩
  rw [← hP]
  rw [← hM] at htat ⊢
  have HPM := Lib.hid (And.intro hP hM); clear hP hM
  have HTAT := Lib.hid htat; clear htat
  have hal : Below w1.heap.size w1 (w1.alloc (.cells #[.int .i64 P, .slice ua M uc] 60)) := (Below.refl _ _).alloc (Nat.le_refl _) _
  have g0 : (w1.alloc (.cells #[.int .i64 P, .slice ua M uc] 60)).cell? ⟨w1.heap.size, 0, none⟩ = some (.int .i64 P) := by simp
  have g1 : (w1.alloc (.cells #[.int .i64 P, .slice ua M uc] 60)).cell? ⟨w1.heap.size, 1, none⟩ = some (.slice ua M uc) := by simp
  have gz : w1.heap.size < (w1.alloc (.cells #[.int .i64 P, .slice ua M uc] 60)).heap.size := by simp
  have hwU := hw1.trans (hal.mono hw1.size)
  have x0 := cell_carry x0 (Carries.of 0 hal)
  have x1 := cell_carry x1 (Carries.of 0 hal)
  have x2 := cell_carry x2 (Carries.of 0 hal)
  have x3 := cell_carry x3 (Carries.of 0 hal)
  have x4 := cell_carry x4 (Carries.of 0 hal)
  have y0 := cell_carry y0 (Carries.of 0 hal)
  have y1 := cell_carry y1 (Carries.of 0 hal)
  have y2 := cell_carry y2 (Carries.of 0 hal)
  have y3 := cell_carry y3 (Carries.of 0 hal)
  have y4 := cell_carry y4 (Carries.of 0 hal)
  have r0 := cell_carry r0 (Carries.of 0 hal)
  have r1 := cell_carry r1 (Carries.of 0 hal)
  have r2 := cell_carry r2 (Carries.of 0 hal)
  have r3 := cell_carry r3 (Carries.of 0 hal)
  have r4 := cell_carry r4 (Carries.of 0 hal)
  have rf0 := (hal.frozen (p := ⟨w.heap.size + 2, 0, none⟩) (by show w.heap.size + 2 < _; omega)).trans rf0
  have rf1 := (hal.frozen (p := ⟨w.heap.size + 2, 1, none⟩) (by show w.heap.size + 2 < _; omega)).trans rf1
  have rf2 := (hal.frozen (p := ⟨w.heap.size + 2, 2, none⟩) (by show w.heap.size + 2 < _; omega)).trans rf2
  have rf3 := (hal.frozen (p := ⟨w.heap.size + 2, 3, none⟩) (by show w.heap.size + 2 < _; omega)).trans rf3
  have rf4 := (hal.frozen (p := ⟨w.heap.size + 2, 4, none⟩) (by show w.heap.size + 2 < _; omega)).trans rf4
  go_wp2_with fail
  generalize w1.alloc (.cells #[.int .i64 P, .slice ua M uc] 60) = U at hal g0 g1 gz hwU x0 x1 x2 x3 x4 y0 y1 y2 y3 y4 r0 r1 r2 r3 r4 rf0 rf1 rf2 rf3 rf4 ⊢
  refine (l2Good_any _ s0 _ lo (HV.out.keep (Carries.of lo hwU)) HS0.out).mono ?_
  rintro e w2 ⟨rfl, hb⟩
  have hw2 : Below w.heap.size w w2 := hwU.trans (hb.mono hwU.size)
  have h12 : Below w1.heap.size w1 w2 := hal.trans (hb.mono hal.size)
  have x0 := cell_carry x0 (Carries.of 0 hb)
  have x1 := cell_carry x1 (Carries.of 0 hb)
  have x2 := cell_carry x2 (Carries.of 0 hb)
  have x3 := cell_carry x3 (Carries.of 0 hb)
  have x4 := cell_carry x4 (Carries.of 0 hb)
  have y0 := cell_carry y0 (Carries.of 0 hb)
  have y1 := cell_carry y1 (Carries.of 0 hb)
  have y2 := cell_carry y2 (Carries.of 0 hb)
  have y3 := cell_carry y3 (Carries.of 0 hb)
  have y4 := cell_carry y4 (Carries.of 0 hb)
  have r0 := cell_carry r0 (Carries.of 0 hb)
  have r1 := cell_carry r1 (Carries.of 0 hb)
  have r2 := cell_carry r2 (Carries.of 0 hb)
  have r3 := cell_carry r3 (Carries.of 0 hb)
  have r4 := cell_carry r4 (Carries.of 0 hb)
  have rf0 := (hb.frozen (p := ⟨w.heap.size + 2, 0, none⟩) (by show w.heap.size + 2 < _; omega)).trans rf0
  have rf1 := (hb.frozen (p := ⟨w.heap.size + 2, 1, none⟩) (by show w.heap.size + 2 < _; omega)).trans rf1
  have rf2 := (hb.frozen (p := ⟨w.heap.size + 2, 2, none⟩) (by show w.heap.size + 2 < _; omega)).trans rf2
  have rf3 := (hb.frozen (p := ⟨w.heap.size + 2, 3, none⟩) (by show w.heap.size + 2 < _; omega)).trans rf3
  have rf4 := (hb.frozen (p := ⟨w.heap.size + 2, 4, none⟩) (by show w.heap.size + 2 < _; omega)).trans rf4
  have g0 := cell_carry g0 (Carries.of 0 hb)
  have g1 := cell_carry g1 (Carries.of 0 hb)
  have z2 : w1.heap.size < w2.heap.size := by have := hb.size; omega
  clear hb hal
  cases hg : goodS s0 with
  | false =>
    have hno : uniB s0 s1 = false := uni1 hg
    have e1 := HB.out
    rw [hno] at e1
    have e2 := HR.out
    rw [uniR_no hno] at e2
    subst e1; subst e2
    clear hg
    go_wp2_with fail
    generalize hWX : (((((w2.setCell ⟨w.heap.size + 2, 0, none⟩ (.int .i64 0)).setCell ⟨w.heap.size + 2, 1, none⟩ (.slice none 0 0)).setCell ⟨w.heap.size + 2, 2, none⟩ (.slice none 0 0)).setCell ⟨w.heap.size + 2, 3, none⟩ (.slice none 0 0)).setCell ⟨w.heap.size + 2, 4, none⟩ (.string ⟨#[]⟩)) = WX
    obtain ⟨q0, q1, q2, q3, q4⟩ := put5_cells hWX r0 r1 r2 r3 r4
    have hbf := put5_below hWX hw2 (by omega)
    clear hWX
    refine bodyPost_ret (v := .tuple #[.agg #[.int .i64 0, .slice none 0 0, .slice none 0 0, .slice none 0 0, .string ⟨#[]⟩], .bool false]) (by simp [results, Try.results36, go_sem, q0, q1, q2, q3, q4]) rfl ?_
    exact ⟨_, rfl, (SepStg.zero _).at.low hbf.size, hbf⟩
  | true =>
  have HG0 := Lib.hid hg; clear hg
  go_wp2_with fail
  refine (l2Good_any _ s1 _ lo (HU.out.keep (Carries.of lo hw2)) HS1.out).mono ?_
  rintro e w3 ⟨rfl, hb⟩
  have hw3 : Below w.heap.size w w3 := hw2.trans (hb.mono hw2.size)
  have h13 : Below w1.heap.size w1 w3 := h12.trans (hb.mono h12.size)
  have x0 := cell_carry x0 (Carries.of 0 hb)
  have x1 := cell_carry x1 (Carries.of 0 hb)
  have x2 := cell_carry x2 (Carries.of 0 hb)
  have x3 := cell_carry x3 (Carries.of 0 hb)
  have x4 := cell_carry x4 (Carries.of 0 hb)
  have y0 := cell_carry y0 (Carries.of 0 hb)
  have y1 := cell_carry y1 (Carries.of 0 hb)
  have y2 := cell_carry y2 (Carries.of 0 hb)
  have y3 := cell_carry y3 (Carries.of 0 hb)
  have y4 := cell_carry y4 (Carries.of 0 hb)
  have r0 := cell_carry r0 (Carries.of 0 hb)
  have r1 := cell_carry r1 (Carries.of 0 hb)
  have r2 := cell_carry r2 (Carries.of 0 hb)
  have r3 := cell_carry r3 (Carries.of 0 hb)
  have r4 := cell_carry r4 (Carries.of 0 hb)
  have rf0 := (hb.frozen (p := ⟨w.heap.size + 2, 0, none⟩) (by show w.heap.size + 2 < _; omega)).trans rf0
  have rf1 := (hb.frozen (p := ⟨w.heap.size + 2, 1, none⟩) (by show w.heap.size + 2 < _; omega)).trans rf1
  have rf2 := (hb.frozen (p := ⟨w.heap.size + 2, 2, none⟩) (by show w.heap.size + 2 < _; omega)).trans rf2
  have rf3 := (hb.frozen (p := ⟨w.heap.size + 2, 3, none⟩) (by show w.heap.size + 2 < _; omega)).trans rf3
  have rf4 := (hb.frozen (p := ⟨w.heap.size + 2, 4, none⟩) (by show w.heap.size + 2 < _; omega)).trans rf4
  have g0 := cell_carry g0 (Carries.of 0 hb)
  have g1 := cell_carry g1 (Carries.of 0 hb)
  have z3 : w2.heap.size ≤ w3.heap.size := hb.size
  clear hb h12
  cases hg : goodS s1 with
  | false =>
    have hno : uniB s0 s1 = false := uni2 hg
    have e1 := HB.out
    rw [hno] at e1
    have e2 := HR.out
    rw [uniR_no hno] at e2
    subst e1; subst e2
    clear hg
    go_wp2_with fail
    generalize hWX : (((((w3.setCell ⟨w.heap.size + 2, 0, none⟩ (.int .i64 0)).setCell ⟨w.heap.size + 2, 1, none⟩ (.slice none 0 0)).setCell ⟨w.heap.size + 2, 2, none⟩ (.slice none 0 0)).setCell ⟨w.heap.size + 2, 3, none⟩ (.slice none 0 0)).setCell ⟨w.heap.size + 2, 4, none⟩ (.string ⟨#[]⟩)) = WX
    obtain ⟨q0, q1, q2, q3, q4⟩ := put5_cells hWX r0 r1 r2 r3 r4
    have hbf := put5_below hWX hw3 (by omega)
    clear hWX
    refine bodyPost_ret (v := .tuple #[.agg #[.int .i64 0, .slice none 0 0, .slice none 0 0, .slice none 0 0, .string ⟨#[]⟩], .bool false]) (by simp [results, Try.results36, go_sem, q0, q1, q2, q3, q4]) rfl ?_
    exact ⟨_, rfl, (SepStg.zero _).at.low hbf.size, hbf⟩
  | true =>
  have HG1 := Lib.hid hg; clear hg
  have HSM := Lib.hid (uniS_small HS0.out HS1.out HG0.out HG1.out HGU.out)
  have k8a := goodS_8 HG0.out
  have k8b := goodS_8 HG1.out
  rw [← HP0.out.2.2.1] at k8a
  rw [← HP1.out.2.2.1] at k8b
  have k24a := goodS_24' HG0.out
  have k24b := goodS_24' HG1.out
  rw [← goodS_len' HG0.out, ← HP0.out.2.2.2.1] at k24a
  rw [← goodS_len' HG1.out, ← HP1.out.2.2.2.1] at k24b
  have k30a := goodS_start HG0.out
  have k30b := goodS_start HG1.out
  rw [← HP0.out.2.2.2.2] at k30a
  rw [← HP1.out.2.2.2.2] at k30b
  clear x0 x1 y0 y1
  go_wp2_with fail
  rename_i K0 hK0
  have HK : ∀ (x_32 x_33 x_34 x_35 x_36 x_37 x_38 x_39 x_40 x_41 x_42 x_43 x_44 x_45 x_46 x_47 x_48 x_49 : Value) (tb : Nat) (WX : World) (a5 a7 : Option Addr) (k5 k7 : Nat), Below w3.heap.size w3 WX → w3.heap.size ≤ tb → tb < WX.heap.size → WX.cell? ⟨tb, 0, none⟩ = some (.int .i64 P) → WX.frozen? ⟨tb, 0, none⟩ = false → WX.cell? ⟨tb, 1, none⟩ = some (.slice ua M uc) → WX.frozen? ⟨tb, 1, none⟩ = false → WX.cell? ⟨tb, 2, none⟩ = some (.slice a5 (n0 + n1) k5) → WX.frozen? ⟨tb, 2, none⟩ = false → WX.cell? ⟨tb, 3, none⟩ = some (.slice a7 l0 k7) → WX.frozen? ⟨tb, 3, none⟩ = false → WX.cell? ⟨tb, 4, none⟩ = some (.string (t0 ++ t1)) → WX.frozen? ⟨tb, 4, none⟩ = false → Hid (TyAt WX tb 63) →
      Hid (WX.ownsRow w3.heap.size 118 2 (.slice a5 (n0 + n1) k5) (n0 + n1) (pairCells (sgX (s0.sigs ++ s1.sigs)) (sgY (s0.sigs ++ s1.sigs)) (n0 + n1))) →
      Hid (WX.ownsRow w3.heap.size 113 2 (.slice a7 l0 k7) l0 (pairCells (lbX s0.labs) (lbY s0.labs) l0)) →
      K0 { tmps := #[.agg #[.int .i64 p0, .slice a0 m0 c0, .slice a1 n0 c1, .slice a2 l0 c2, .string t0], .agg #[.int .i64 p1, .slice b0 m1 d0, .slice b1 n1 d1, .slice b2 l1 d2, .string t1], .pointer (some ⟨w.heap.size, 0, none⟩), .pointer (some ⟨w.heap.size + 1, 0, none⟩), .pointer (some ⟨w.heap.size + 1 + 1, 0, none⟩), .bool false, .pointer (some ⟨w1.heap.size, 0, none⟩), .bool true, .pointer (some ⟨tb, 0, none⟩), undef, undef, .tuple #[.agg #[.int .i64 P, .slice ua M uc], .bool true], .pointer (some ⟨w.heap.size, 0, none⟩), .agg #[.int .i64 p0, .slice a0 m0 c0], .pointer (some ⟨w.heap.size + 1, 0, none⟩), .agg #[.int .i64 p1, .slice b0 m1 d0], .tuple #[.agg #[.int .i64 P, .slice ua M uc], .bool true], .agg #[.int .i64 P, .slice ua M uc], .bool true, .bool true, .bool false, .bool false, .agg #[.int .i64 p0, .slice a0 m0 c0, .slice a1 n0 c1, .slice a2 l0 c2, .string t0], .bool true, .bool false, .bool false, .bool false, .agg #[.int .i64 p1, .slice b0 m1 d0, .slice b1 n1 d1, .slice b2 l1 d2, .string t1], .bool true, .bool false, .bool false, undef, x_32, x_33, x_34, x_35, x_36, x_37, x_38, x_39, x_40, x_41, x_42, x_43, x_44, x_45, x_46, x_47, x_48, x_49, undef, undef, undef, undef, undef, undef, undef, undef, undef, undef, undef, undef, undef, undef, undef, undef, undef, undef, undef, undef, undef, undef, undef, undef, undef, undef, undef, undef, undef], defers := [] } WX := by
    intro x_32 x_33 x_34 x_35 x_36 x_37 x_38 x_39 x_40 x_41 x_42 x_43 x_44 x_45 x_46 x_47 x_48 x_49 tb WX a5 a7 k5 k7 h3X htl htx u0 f0 u1 f1 u2 f2 u3 f3 u4 f4 HTY HRS HRL
    apply hK0
    clear hK0
    have hwX : Below w.heap.size w WX := hw3.trans (h3X.mono hw3.size)
    have y3X := cell_carry y3 (Carries.of 0 h3X)
    have zX := h3X.size
    obtain ⟨XS, hXS⟩ : ∃ XS, XS = pairCells (sgX (s0.sigs ++ s1.sigs)) (sgY (s0.sigs ++ s1.sigs)) (n0 + n1) := ⟨_, rfl⟩
    obtain ⟨LL, hLL⟩ : ∃ LL, LL = s0.labs ++ movL n0 l1 s1.labs := ⟨_, rfl⟩
    have HO0 : Hid (UnOut w3.heap.size tb P (.slice ua M uc) (.slice a5 (n0 + n1) k5) (n0 + n1) XS (t0 ++ t1) LL l0 (.slice a7 l0 k7) WX) := by
      refine ⟨⟨u0, u1, u2, u3, u4⟩, f3, HTY.out, by rw [hXS]; exact HRS.out, ?_⟩
      have e := uniL_zero s0.labs (movL n0 l1 s1.labs)
      rw [← HP0.out.2.2.2.1] at e
      rw [hLL, ← e]; exact HRL.out
    have HAL : Hid (∀ j : Nat, j < l1 → lbX LL (l0 + j) = .int .i64 (movA n0 (lbS s1.labs j) (lbU s1.labs j)) ∧ lbY LL (l0 + j) = .bool (lbU s1.labs j)) := fun j hj => by
      have e := uniL_at (s := s0.labs) (u := s1.labs) (n := n0) (j := j) (by rw [← HP1.out.2.2.2.1]; exact hj)
      rw [← HP0.out.2.2.2.1, ← HP1.out.2.2.2.1] at e
      rw [hLL]; exact e
    have HXS := Lib.hid hXS
    have HLL := Lib.hid hLL
    clear u0 u1 u2 u3 u4 f0 f1 f2 f3 f4 HTY HRS HRL hXS hLL htx
    have hl24 : l0 ≤ 24 := by omega
    have hl24b : l1 ≤ 24 := by omega
    go_wp2_with fail
    go_loopw [10, 53] (fun _ c wr => ∃ (j : Nat) (a : Option Addr) (k : Nat), j ≤ l1 ∧ c = .int .i64 j ∧ Hid (UnOut w3.heap.size tb P (.slice ua M uc) (.slice a5 (n0 + n1) k5) (n0 + n1) XS (t0 ++ t1) LL (l0 + j) (.slice a (l0 + j) k) wr) ∧ Below w3.heap.size w3 wr) (fun _ c _ => l1 - (intOf c).toNat)
    case atStart => exact ⟨0, a7, k7, Nat.zero_le _, rfl, HO0.out, h3X⟩
    case round =>
      obtain ⟨j, a, k, hj, rfl, HO, hb1⟩ := hrel
      have zr := hb1.size
      by_cases hlt : j < l1
      · obtain ⟨ao, cap, hvv, hc, hz⟩ := HLB.out
        injection hvv with e1 e2 e3
        subst e1; subst e3; clear e2 hc
        rcases hz with h0 | ⟨b, off, rfl, hlo, hcell⟩
        · rw [← HP1.out.2.2.2.1] at h0; omega
        obtain ⟨p0, p1⟩ := hcell j (by rw [← HP1.out.2.2.2.1]; exact hlt)
        have d0 := Carries.of lo (hw3.trans (hb1.mono hw3.size)) _ _ hlo p0
        have d1 := Carries.of lo (hw3.trans (hb1.mono hw3.size)) _ _ hlo p1
        have HAT := Lib.hid (HAL.out j hlt)
        have hmv := goodS_mov HG1.out (i := j) (by rw [← HP1.out.2.2.2.1]; exact hlt) n0
        clear hcell p0 p1
        try dsimp only [lbX, lbY] at d0 d1
        generalize lbS s1.labs j = lx at d0 HAT hmv
        generalize lbU s1.labs j = lu at d1 HAT hmv
        have hl8 := hmv.2.2
        have HMV := Lib.hid hmv; clear hmv
        have hba : Below wr.heap.size wr (wr.alloc (.cells #[.int .i64 lx, .bool lu] 113)) := (Below.refl _ _).alloc (Nat.le_refl _) _
        have q0 : (wr.alloc (.cells #[.int .i64 lx, .bool lu] 113)).cell? ⟨wr.heap.size, 0, none⟩ = some (.int .i64 lx) := by simp
        have q1 : (wr.alloc (.cells #[.int .i64 lx, .bool lu] 113)).cell? ⟨wr.heap.size, 1, none⟩ = some (.bool lu) := by simp
        have x2a := cell_carry (cell_carry x2 (Carries.of 0 hb1)) (Carries.of 0 hba)
        by_cases hs : 0 ≤ lx
        · have hsum : IntKind.i64.wrap (lx + (n0 : Int)) = lx + (n0 : Int) := by rw [IntKind.wrap_i64]; omega
          have hbw : Below wr.heap.size wr (wr.alloc (.cells #[.int .i64 (lx + (n0 : Int)), .bool lu] 113)) := (Below.refl _ _).alloc (Nat.le_refl _) _
          have hb4 : Below w3.heap.size w3 (wr.alloc (.cells #[.int .i64 (lx + (n0 : Int)), .bool lu] 113)) := hb1.trans (hbw.mono zr)
          have k0 : (wr.alloc (.cells #[.int .i64 (lx + (n0 : Int)), .bool lu] 113)).cell? ⟨wr.heap.size, 0, none⟩ = some (.int .i64 (lx + (n0 : Int))) := by simp
          have k1 : (wr.alloc (.cells #[.int .i64 (lx + (n0 : Int)), .bool lu] 113)).cell? ⟨wr.heap.size, 1, none⟩ = some (.bool lu) := by simp
          have HO4 := Lib.hid (HO.out.after hbw)
          have t3 := HO4.out.1.2.2.2.1
          have HMV1 := Lib.hid (show movA n0 lx lu = (lx + (n0 : Int)) from HMV.out.1 hs)
          have HOc := Lib.hid (HO4.out.after (Below.alloc (a := (wr.alloc (.cells #[.int .i64 (lx + (n0 : Int)), .bool lu] 113))) (Below.refl _ _) (Nat.le_refl _) (.cells #[.int .i64 (lx + (n0 : Int)), .bool lu] 113)))
          have hb5 : Below w3.heap.size w3 ((wr.alloc (.cells #[.int .i64 (lx + (n0 : Int)), .bool lu] 113)).alloc (.cells #[.int .i64 (lx + (n0 : Int)), .bool lu] 113)) := hb4.alloc hb4.size _
          clear HMV hbw HO
          go_wp2_with (refine wpList_append_lab1 rfl (.tmp 68) (.tmp 70) rfl w3.heap.size _ (l0 + j) _ rfl (HOc.out.2.2.2.2) _ (lx + (n0 : Int)) lu rfl (by simp) (by simp) (by omega) hb5.size ?_; intro v' w' hown' hgrow; obtain ⟨g3, gf⟩ := HOc.out.mid hgrow; obtain ⟨a9, k9, rfl⟩ := owns_form hown')
          have hrow' := Lib.hid (show w'.ownsRow w3.heap.size 113 2 (.slice a9 (l0 + j + 1) k9) (l0 + j + 1) (pairCells (lbX LL) (lbY LL) (l0 + j + 1)) by
            rw [← HMV1.out] at hown'
            have e := HAT.out
            show w'.ownsRow w3.heap.size 113 2 (.slice a9 (l0 + j + 1) k9) (l0 + j + 1) (pairCells (lbX LL) (lbY LL) (l0 + j) ++ [lbX LL (l0 + j), lbY LL (l0 + j)])
            rw [e.1, e.2]; exact hown')
          have HO6 := Lib.hid (HOc.out.push hgrow hrow'.out)
          have hb6 : Below w3.heap.size w3 (w'.setCell ⟨tb, 3, none⟩ (.slice a9 (l0 + j + 1) k9)) := (hb5.grown hgrow hb5.size (fun g hg => (HOc.out.2.2.2.2.lt g hg).1)).setCell htl _
          clear hown' hgrow HOc HO4 hrow' g3 gf k0 k1 t3 q0 q1 HMV1 HAT
          go_wp2_with fail
          go_roundw
          case rel => exact ⟨j + 1, a9, k9, by omega, by go_num, HO6, hb6⟩
          case measure => simp [intOf]; omega
        · have hbw : Below wr.heap.size wr (wr.alloc (.cells #[.int .i64 lx, .bool lu] 113)) := hba
          have hb4 : Below w3.heap.size w3 (wr.alloc (.cells #[.int .i64 lx, .bool lu] 113)) := hb1.trans (hbw.mono zr)
          have k0 : (wr.alloc (.cells #[.int .i64 lx, .bool lu] 113)).cell? ⟨wr.heap.size, 0, none⟩ = some (.int .i64 lx) := q0
          have k1 : (wr.alloc (.cells #[.int .i64 lx, .bool lu] 113)).cell? ⟨wr.heap.size, 1, none⟩ = some (.bool lu) := q1
          have HO4 := Lib.hid (HO.out.after hbw)
          have t3 := HO4.out.1.2.2.2.1
          have HMV1 := Lib.hid (show movA n0 lx lu = lx from HMV.out.2.1 hs)
          have HOc := Lib.hid (HO4.out.after (Below.alloc (a := (wr.alloc (.cells #[.int .i64 lx, .bool lu] 113))) (Below.refl _ _) (Nat.le_refl _) (.cells #[.int .i64 lx, .bool lu] 113)))
          have hb5 : Below w3.heap.size w3 ((wr.alloc (.cells #[.int .i64 lx, .bool lu] 113)).alloc (.cells #[.int .i64 lx, .bool lu] 113)) := hb4.alloc hb4.size _
          clear HMV hbw HO
          go_wp2_with (refine wpList_append_lab1 rfl (.tmp 68) (.tmp 70) rfl w3.heap.size _ (l0 + j) _ rfl (HOc.out.2.2.2.2) _ lx lu rfl (by simp) (by simp) (by omega) hb5.size ?_; intro v' w' hown' hgrow; obtain ⟨g3, gf⟩ := HOc.out.mid hgrow; obtain ⟨a9, k9, rfl⟩ := owns_form hown')
          have hrow' := Lib.hid (show w'.ownsRow w3.heap.size 113 2 (.slice a9 (l0 + j + 1) k9) (l0 + j + 1) (pairCells (lbX LL) (lbY LL) (l0 + j + 1)) by
            rw [← HMV1.out] at hown'
            have e := HAT.out
            show w'.ownsRow w3.heap.size 113 2 (.slice a9 (l0 + j + 1) k9) (l0 + j + 1) (pairCells (lbX LL) (lbY LL) (l0 + j) ++ [lbX LL (l0 + j), lbY LL (l0 + j)])
            rw [e.1, e.2]; exact hown')
          have HO6 := Lib.hid (HOc.out.push hgrow hrow'.out)
          have hb6 : Below w3.heap.size w3 (w'.setCell ⟨tb, 3, none⟩ (.slice a9 (l0 + j + 1) k9)) := (hb5.grown hgrow hb5.size (fun g hg => (HOc.out.2.2.2.2.lt g hg).1)).setCell htl _
          clear hown' hgrow HOc HO4 hrow' g3 gf k0 k1 t3 q0 q1 HMV1 HAT
          go_wp2_with fail
          go_roundw
          case rel => exact ⟨j + 1, a9, k9, by omega, by go_num, HO6, hb6⟩
          case measure => simp [intOf]; omega
      · obtain rfl : j = l1 := by omega
        have hrl := HO.out.2.2.2.2
        have hrs := HO.out.2.2.2.1
        rw [HLL.out] at hrl
        rw [HXS.out] at hrs
        have hat : TrsAt (w.heap.size + 3) wr (.slice ua M uc) (unN s0.net s1.net).ts := HTAT.out.keep (Carries.of _ (h13.trans (hb1.mono h13.size)))
        have HST := Lib.hid (uni_at HP0.out.2.2.1 HP1.out.2.2.1 HP0.out.2.2.2.1 HP1.out.2.2.2.1 HP0.out.2.2.2.2 HP1.out.2.2.2.2 HPM.out.1 HPM.out.2 (by rw [HPM.out.1]; exact unB_places HGU.out) hat hrs (by omega) hrl)
        obtain ⟨⟨u0, u1, u2, u3, u4⟩, _⟩ := HO.out
        have hwR : Below w.heap.size w wr := hw3.trans (hb1.mono hw3.size)
        have r0 := cell_carry r0 (Carries.of 0 hb1)
        have r1 := cell_carry r1 (Carries.of 0 hb1)
        have r2 := cell_carry r2 (Carries.of 0 hb1)
        have r3 := cell_carry r3 (Carries.of 0 hb1)
        have r4 := cell_carry r4 (Carries.of 0 hb1)
        have rf0 := (hb1.frozen (p := ⟨w.heap.size + 2, 0, none⟩) (by show w.heap.size + 2 < _; omega)).trans rf0
        have rf1 := (hb1.frozen (p := ⟨w.heap.size + 2, 1, none⟩) (by show w.heap.size + 2 < _; omega)).trans rf1
        have rf2 := (hb1.frozen (p := ⟨w.heap.size + 2, 2, none⟩) (by show w.heap.size + 2 < _; omega)).trans rf2
        have rf3 := (hb1.frozen (p := ⟨w.heap.size + 2, 3, none⟩) (by show w.heap.size + 2 < _; omega)).trans rf3
        have rf4 := (hb1.frozen (p := ⟨w.heap.size + 2, 4, none⟩) (by show w.heap.size + 2 < _; omega)).trans rf4
        clear hrl hrs hat HO x2 x3 x4 y2 y3 y4 y3X
        go_wp2_with fail
        refine (l2Good_any _ (uniS s0 s1) _ _ HST.out HSM.out).mono ?_
        rintro e w9 ⟨rfl, hb⟩
        have hw9 := hwR.trans (hb.mono hwR.size)
        have u0 := cell_carry u0 (Carries.of 0 hb)
        have u1 := cell_carry u1 (Carries.of 0 hb)
        have u2 := cell_carry u2 (Carries.of 0 hb)
        have u3 := cell_carry u3 (Carries.of 0 hb)
        have u4 := cell_carry u4 (Carries.of 0 hb)
        have r0 := cell_carry r0 (Carries.of 0 hb)
        have r1 := cell_carry r1 (Carries.of 0 hb)
        have r2 := cell_carry r2 (Carries.of 0 hb)
        have r3 := cell_carry r3 (Carries.of 0 hb)
        have r4 := cell_carry r4 (Carries.of 0 hb)
        have rf0 := (hb.frozen (p := ⟨w.heap.size + 2, 0, none⟩) (by show w.heap.size + 2 < _; omega)).trans rf0
        have rf1 := (hb.frozen (p := ⟨w.heap.size + 2, 1, none⟩) (by show w.heap.size + 2 < _; omega)).trans rf1
        have rf2 := (hb.frozen (p := ⟨w.heap.size + 2, 2, none⟩) (by show w.heap.size + 2 < _; omega)).trans rf2
        have rf3 := (hb.frozen (p := ⟨w.heap.size + 2, 3, none⟩) (by show w.heap.size + 2 < _; omega)).trans rf3
        have rf4 := (hb.frozen (p := ⟨w.heap.size + 2, 4, none⟩) (by show w.heap.size + 2 < _; omega)).trans rf4
        have HST9 := Lib.hid (HST.out.keep (Carries.of _ hb))
        have z9 := hb.size
        clear hb HST
        cases hg : goodS (uniS s0 s1) with
        | false =>
          have hno : uniB s0 s1 = false := uni4 hg
          have e1 := HB.out
          rw [hno] at e1
          have e2 := HR.out
          rw [uniR_no hno] at e2
          subst e1; subst e2
          clear hg
          go_wp2_with fail
          generalize hWX : (((((w9.setCell ⟨w.heap.size + 2, 0, none⟩ (.int .i64 0)).setCell ⟨w.heap.size + 2, 1, none⟩ (.slice none 0 0)).setCell ⟨w.heap.size + 2, 2, none⟩ (.slice none 0 0)).setCell ⟨w.heap.size + 2, 3, none⟩ (.slice none 0 0)).setCell ⟨w.heap.size + 2, 4, none⟩ (.string ⟨#[]⟩)) = WX
          obtain ⟨q0, q1, q2, q3, q4⟩ := put5_cells hWX r0 r1 r2 r3 r4
          have hbf := put5_below hWX hw9 (by omega)
          clear hWX
          refine bodyPost_ret (v := .tuple #[.agg #[.int .i64 0, .slice none 0 0, .slice none 0 0, .slice none 0 0, .string ⟨#[]⟩], .bool false]) (by simp [results, Try.results36, go_sem, q0, q1, q2, q3, q4]) rfl ?_
          exact ⟨_, rfl, (SepStg.zero _).at.low hbf.size, hbf⟩
        | true =>
          have hyes := uni5 HG0.out HG1.out HGU.out hg
          have e1 := HB.out
          rw [hyes] at e1
          have e2 := HR.out
          rw [uniR_yes hyes] at e2
          subst e1; subst e2
          clear hg hyes
          go_wp2_with fail
          generalize hWY : (((((w9.setCell ⟨w.heap.size + 2, 0, none⟩ (.int .i64 P)).setCell ⟨w.heap.size + 2, 1, none⟩ (.slice ua M uc)).setCell ⟨w.heap.size + 2, 2, none⟩ (.slice a5 (n0 + n1) k5)).setCell ⟨w.heap.size + 2, 3, none⟩ (.slice a (l0 + j) k)).setCell ⟨w.heap.size + 2, 4, none⟩ (.string (t0 ++ t1))) = WY
          obtain ⟨q0, q1, q2, q3, q4⟩ := put5_cells hWY r0 r1 r2 r3 r4
          have hbf := put5_below hWY hw9 (by omega)
          have hsam := put5_same hWY (B := w.heap.size + 3) (by omega)
          clear hWY
          refine bodyPost_ret (v := .tuple #[.agg #[.int .i64 P, .slice ua M uc, .slice a5 (n0 + n1) k5, .slice a (l0 + j) k, .string (t0 ++ t1)], .bool true]) (by simp [results, Try.results36, go_sem, q0, q1, q2, q3, q4]) rfl ?_
          exact ⟨_, rfl, (HST9.out.keep hsam.carries).low (by omega), hbf⟩
  refine wp_region_held_drew (S := fun w' => w'.cell? ⟨w.heap.size, 2, none⟩ = some (.slice a1 n0 c1) ∧ w'.cell? ⟨w.heap.size, 3, none⟩ = some (.slice a2 l0 c2) ∧ w'.cell? ⟨w.heap.size, 4, none⟩ = some (.string t0) ∧ w'.cell? ⟨w.heap.size + 1, 2, none⟩ = some (.slice b1 n1 d1) ∧ w'.cell? ⟨w.heap.size + 1, 4, none⟩ = some (.string t1) ∧ w'.cell? ⟨w1.heap.size, 0, none⟩ = some (.int .i64 P) ∧ w'.cell? ⟨w1.heap.size, 1, none⟩ = some (.slice ua M uc)) (by kernel_rfl) ⟨x2, x3, x4, y2, y4, g0, g1⟩ (fun hHeld => ?_)
  have hd : Below w3.heap.size w3 w3.drew := (Below.refl _ _).drew
  generalize w3.drew = V at hd hHeld ⊢
  have x2V := cell_carry x2 (Carries.of 0 hd)
  have x3V := cell_carry x3 (Carries.of 0 hd)
  have x4V := cell_carry x4 (Carries.of 0 hd)
  have y2V := cell_carry y2 (Carries.of 0 hd)
  have y4V := cell_carry y4 (Carries.of 0 hd)
  have g0V := cell_carry g0 (Carries.of 0 hd)
  have g1V := cell_carry g1 (Carries.of 0 hd)
  have zdV := hd.size
  have belV : Below w3.heap.size w3 V := hd
  clear hd
  refine tk0 (v := ?_) (by kernel_rfl) (by kernel_rfl) (by kernel_rfl) (by first | exact fun _ _ _ h => h | exact fun _ _ _ h => absurd h.1 (by simp)) (Or.inl ⟨by rfl, ?_⟩) (by assumption) ?_
  rotate_left 1
  focus (intro wx hSw; (try dsimp only at hSw); go_simp; try (with_reducible rfl))
  try simp only [Act.put, List.setIfInBounds_toArray, List.set_cons_zero, List.set_cons_succ]
  refine tk2 (v := ?_) (by kernel_rfl) (by kernel_rfl) (by kernel_rfl) (by first | exact fun _ _ _ h => h | exact fun _ _ _ h => absurd h.1 (by simp)) (Or.inl ⟨by rfl, ?_⟩) (by assumption) ?_
  rotate_left 1
  focus (intro wx hSw; (try dsimp only at hSw); go_simp; try (with_reducible rfl))
  try simp only [Act.put, List.setIfInBounds_toArray, List.set_cons_zero, List.set_cons_succ]
  refine tk3 (v := ?_) (by kernel_rfl) (by kernel_rfl) (by kernel_rfl) (by first | exact fun _ _ _ h => h | exact fun _ _ _ h => absurd h.1 (by simp)) (Or.inl ⟨by rfl, ?_⟩) (by assumption) ?_
  rotate_left 1
  focus (intro wx hSw; (try dsimp only at hSw); go_simp; try (with_reducible rfl))
  try simp only [Act.put, List.setIfInBounds_toArray, List.set_cons_zero, List.set_cons_succ]
  refine tk5 (v := ?_) (by kernel_rfl) (by kernel_rfl) (by kernel_rfl) (by first | exact fun _ _ _ h => h | exact fun _ _ _ h => absurd h.1 (by simp)) (Or.inl ⟨by rfl, ?_⟩) (by assumption) ?_
  rotate_left 1
  focus (intro wx hSw; (try dsimp only at hSw); go_simp; try (with_reducible rfl))
  try simp only [Act.put, List.setIfInBounds_toArray, List.set_cons_zero, List.set_cons_succ]
  refine tk6 (v := ?_) (by kernel_rfl) (by kernel_rfl) (by kernel_rfl) (by first | exact fun _ _ _ h => h | exact fun _ _ _ h => absurd h.1 (by simp)) (Or.inl ⟨by rfl, ?_⟩) (by assumption) ?_
  rotate_left 1
  focus (intro wx hSw; (try dsimp only at hSw); go_simp; try (with_reducible rfl))
  try simp only [Act.put, List.setIfInBounds_toArray, List.set_cons_zero, List.set_cons_succ]
  refine tk9 (v := ?_) (by kernel_rfl) (by kernel_rfl) (by kernel_rfl) (by first | exact fun _ _ _ h => h | exact fun _ _ _ h => absurd h.1 (by simp)) (Or.inl ⟨by rfl, ?_⟩) (by assumption) ?_
  rotate_left 1
  focus (intro wx hSw; (try dsimp only at hSw); go_simp; try (with_reducible rfl))
  try simp only [Act.put, List.setIfInBounds_toArray, List.set_cons_zero, List.set_cons_succ]
  refine tk10 (v := ?_) (by kernel_rfl) (by kernel_rfl) (by kernel_rfl) (by first | exact fun _ _ _ h => h | exact fun _ _ _ h => absurd h.1 (by simp)) (Or.inl ⟨by rfl, ?_⟩) (by assumption) ?_
  rotate_left 1
  focus (intro wx hSw; (try dsimp only at hSw); go_simp; try (with_reducible rfl))
  try simp only [Act.put, List.setIfInBounds_toArray, List.set_cons_zero, List.set_cons_succ]
  refine tk12 (v := ?_) (by kernel_rfl) (by kernel_rfl) (by kernel_rfl) (by first | exact fun _ _ _ h => h | exact fun _ _ _ h => absurd h.1 (by simp)) (Or.inl ⟨by rfl, ?_⟩) (by assumption) ?_
  rotate_left 1
  focus (intro wx hSw; (try dsimp only at hSw); go_simp; try (with_reducible rfl))
  try simp only [Act.put, List.setIfInBounds_toArray, List.set_cons_zero, List.set_cons_succ]
  refine tk13 (v := ?_) (by kernel_rfl) (by kernel_rfl) (by kernel_rfl) (by first | exact fun _ _ _ h => h | exact fun _ _ _ h => absurd h.1 (by simp)) (Or.inl ⟨by rfl, ?_⟩) (by assumption) ?_
  rotate_left 1
  focus (intro wx hSw; (try dsimp only at hSw); go_simp; try (with_reducible rfl))
  try simp only [Act.put, List.setIfInBounds_toArray, List.set_cons_zero, List.set_cons_succ]
  refine tk14 (v := ?_) (by kernel_rfl) (by kernel_rfl) (by kernel_rfl) (by first | exact fun _ _ _ h => h | exact fun _ _ _ h => absurd h.1 (by simp)) (Or.inl ⟨by rfl, ?_⟩) (by assumption) ?_
  rotate_left 1
  focus (intro wx hSw; (try dsimp only at hSw); go_simp; try (with_reducible rfl))
  try simp only [Act.put, List.setIfInBounds_toArray, List.set_cons_zero, List.set_cons_succ]
  refine tk15 (v := ?_) (by kernel_rfl) (by kernel_rfl) (by kernel_rfl) (by first | exact fun _ _ _ h => h | exact fun _ _ _ h => absurd h.1 (by simp)) (Or.inl ⟨by rfl, ?_⟩) (by assumption) ?_
  rotate_left 1
  focus (intro wx hSw; (try dsimp only at hSw); go_simp; try (with_reducible rfl))
  try simp only [Act.put, List.setIfInBounds_toArray, List.set_cons_zero, List.set_cons_succ]
  refine tk16 (v := ?_) (by kernel_rfl) (by kernel_rfl) (by kernel_rfl) (by first | exact fun _ _ _ h => h | exact fun _ _ _ h => absurd h.1 (by simp)) (Or.inl ⟨by rfl, ?_⟩) (by assumption) ?_
  rotate_left 1
  focus (intro wx hSw; (try dsimp only at hSw); go_simp; rw [if_neg (by omega)])
  try simp only [Act.put, List.setIfInBounds_toArray, List.set_cons_zero, List.set_cons_succ]
  refine wpAnyH_ready (rs := [1, 8, 18]) (by kernel_rfl) (by simp) ?_
  refine ar1 (fun K hK => ?_) ?_
  · go_simp
    have hbb : Below V.heap.size V (V.alloc (.cells #[] 118)) := (Below.refl _ _).alloc (Nat.le_refl _) _
    have hown : (V.alloc (.cells #[] 118)).ownsRow w3.heap.size 118 2 (.slice (some ⟨V.heap.size, 0, none⟩) 0 0) 0 [] :=
      ⟨rfl, Or.inr ⟨V.heap.size, 0, #[], rfl, belV.size, heap_alloc_new V _, Nat.le_refl _, Nat.zero_le _, rfl, rfl⟩⟩
    generalize V.alloc (.cells #[] 118) = W1 at hbb hown ⊢
    have belW1 := belV.trans (hbb.mono belV.size)
    have zdW1 := hbb.size
    have x2W1 := cell_carry x2 (Carries.of 0 belW1)
    have x3W1 := cell_carry x3 (Carries.of 0 belW1)
    have x4W1 := cell_carry x4 (Carries.of 0 belW1)
    have y2W1 := cell_carry y2 (Carries.of 0 belW1)
    have y4W1 := cell_carry y4 (Carries.of 0 belW1)
    have g0W1 := cell_carry g0 (Carries.of 0 belW1)
    have g1W1 := cell_carry g1 (Carries.of 0 belW1)
    have HRSW1 := Lib.hid hown
    clear hown hbb
    refine hK.out _ _ ⟨x2W1, x3W1, x4W1, y2W1, y4W1, g0W1, g1W1⟩ (fun hHeld => ?_)
    clear hK K
    try simp only [Act.put, List.setIfInBounds_toArray, List.set_cons_zero, List.set_cons_succ]
    refine wpAnyH_ready (rs := [4, 8, 18]) (by kernel_rfl) (by simp) ?_
    refine ar4 (fun K hK => ?_) ?_
    · rw [if_pos (by rfl)]
      refine wp_append_sigs (.tmp 33) (.tmp 35) rfl w3.heap.size lo _ 0 [] rfl HRSW1.out _ s0.sigs rfl (HSA.out.keep (Carries.of lo (hw3.trans (belW1.mono hw3.size)))) (by rw [← HP0.out.2.2.1]; omega) belW1.size ?_
      intro v' W2 hown hgrow
      simp only [Nat.zero_add, List.nil_append] at hown
      rw [← HP0.out.2.2.1] at hown
      obtain ⟨a4, k4, rfl⟩ := owns_form hown
      have belW2 := belW1.grown hgrow belW1.size (fun g hg => (HRSW1.out.lt g hg).1)
      have zdW2 := hgrow.size
      have x2W2 := cell_carry x2 (Carries.of 0 belW2)
      have x3W2 := cell_carry x3 (Carries.of 0 belW2)
      have x4W2 := cell_carry x4 (Carries.of 0 belW2)
      have y2W2 := cell_carry y2 (Carries.of 0 belW2)
      have y4W2 := cell_carry y4 (Carries.of 0 belW2)
      have g0W2 := cell_carry g0 (Carries.of 0 belW2)
      have g1W2 := cell_carry g1 (Carries.of 0 belW2)
      have HRSW2 := Lib.hid hown
      clear hown hgrow
      refine hK.out _ _ ⟨x2W2, x3W2, x4W2, y2W2, y4W2, g0W2, g1W2⟩ (fun hHeld => ?_)
      clear hK K
      try simp only [Act.put, List.setIfInBounds_toArray, List.set_cons_zero, List.set_cons_succ]
      refine wpAnyH_ready (rs := [7, 8, 18]) (by kernel_rfl) (by simp) ?_
      refine ar7 (fun K hK => ?_) ?_
      · rw [if_pos (by rfl)]
        refine wp_append_sigs (.tmp 36) (.tmp 38) rfl w3.heap.size lo _ n0 _ rfl HRSW2.out _ s1.sigs rfl (HSB.out.keep (Carries.of lo (hw3.trans (belW2.mono hw3.size)))) (by rw [← HP1.out.2.2.1]; omega) belW2.size ?_
        intro v' W3 hown hgrow
        have hown : W3.ownsRow w3.heap.size 118 2 v' (n0 + n1) (pairCells (sgX (s0.sigs ++ s1.sigs)) (sgY (s0.sigs ++ s1.sigs)) (n0 + n1)) := by
          have e := sigs_app s0.sigs s1.sigs
          rw [← HP0.out.2.2.1, ← HP1.out.2.2.1] at e
          rw [← e]; rw [← HP1.out.2.2.1] at hown; exact hown
        obtain ⟨a5, k5, rfl⟩ := owns_form hown
        have belW3 := belW2.grown hgrow belW2.size (fun g hg => (HRSW2.out.lt g hg).1)
        have zdW3 := hgrow.size
        have x2W3 := cell_carry x2 (Carries.of 0 belW3)
        have x3W3 := cell_carry x3 (Carries.of 0 belW3)
        have x4W3 := cell_carry x4 (Carries.of 0 belW3)
        have y2W3 := cell_carry y2 (Carries.of 0 belW3)
        have y4W3 := cell_carry y4 (Carries.of 0 belW3)
        have g0W3 := cell_carry g0 (Carries.of 0 belW3)
        have g1W3 := cell_carry g1 (Carries.of 0 belW3)
        have HRSW3 := Lib.hid hown
        clear hown hgrow
        refine hK.out _ _ ⟨x2W3, x3W3, x4W3, y2W3, y4W3, g0W3, g1W3⟩ (fun hHeld => ?_)
        clear hK K
        try simp only [Act.put, List.setIfInBounds_toArray, List.set_cons_zero, List.set_cons_succ]
        refine wpAnyH_ready (rs := [8, 18]) (by kernel_rfl) (by simp) ?_
        refine ar8 (fun K hK => ?_) ?_
        · go_simp
          have hbb : Below W3.heap.size W3 (W3.alloc (.cells #[] 113)) := (Below.refl _ _).alloc (Nat.le_refl _) _
          have hown : (W3.alloc (.cells #[] 113)).ownsRow w3.heap.size 113 2 (.slice (some ⟨W3.heap.size, 0, none⟩) 0 0) 0 [] :=
            ⟨rfl, Or.inr ⟨W3.heap.size, 0, #[], rfl, belW3.size, heap_alloc_new W3 _, Nat.le_refl _, Nat.zero_le _, rfl, rfl⟩⟩
          generalize W3.alloc (.cells #[] 113) = W4 at hbb hown ⊢
          have belW4 := belW3.trans (hbb.mono belW3.size)
          have zdW4 := hbb.size
          have x2W4 := cell_carry x2 (Carries.of 0 belW4)
          have x3W4 := cell_carry x3 (Carries.of 0 belW4)
          have x4W4 := cell_carry x4 (Carries.of 0 belW4)
          have y2W4 := cell_carry y2 (Carries.of 0 belW4)
          have y4W4 := cell_carry y4 (Carries.of 0 belW4)
          have g0W4 := cell_carry g0 (Carries.of 0 belW4)
          have g1W4 := cell_carry g1 (Carries.of 0 belW4)
          have HRSW4 := Lib.hid (owns_after HRSW3.out hbb)
          have HRLW4 := Lib.hid hown
          clear hown hbb
          refine hK.out _ _ ⟨x2W4, x3W4, x4W4, y2W4, y4W4, g0W4, g1W4⟩ (fun hHeld => ?_)
          clear hK K
          try simp only [Act.put, List.setIfInBounds_toArray, List.set_cons_zero, List.set_cons_succ]
          refine wpAnyH_ready (rs := [11, 18]) (by kernel_rfl) (by simp) ?_
          refine ar11 (fun K hK => ?_) ?_
          · rw [if_pos (by rfl)]
            refine wp_append_labs (.tmp 40) (.tmp 42) rfl w3.heap.size lo _ 0 [] rfl HRLW4.out _ s0.labs rfl (HLA.out.keep (Carries.of lo (hw3.trans (belW4.mono hw3.size)))) (by rw [← HP0.out.2.2.2.1]; omega) belW4.size ?_
            intro v' W5 hown hgrow
            simp only [Nat.zero_add, List.nil_append] at hown
            rw [← HP0.out.2.2.2.1] at hown
            obtain ⟨a7, k7, rfl⟩ := owns_form hown
            have belW5 := belW4.grown hgrow belW4.size (fun g hg => (HRLW4.out.lt g hg).1)
            have zdW5 := hgrow.size
            have x2W5 := cell_carry x2 (Carries.of 0 belW5)
            have x3W5 := cell_carry x3 (Carries.of 0 belW5)
            have x4W5 := cell_carry x4 (Carries.of 0 belW5)
            have y2W5 := cell_carry y2 (Carries.of 0 belW5)
            have y4W5 := cell_carry y4 (Carries.of 0 belW5)
            have g0W5 := cell_carry g0 (Carries.of 0 belW5)
            have g1W5 := cell_carry g1 (Carries.of 0 belW5)
            have HRSW5 := Lib.hid (HRSW4.out.kept hgrow (rows_apartT HRSW4.out HRLW4.out (by decide)))
            have HRLW5 := Lib.hid hown
            clear hown hgrow
            refine hK.out _ _ ⟨x2W5, x3W5, x4W5, y2W5, y4W5, g0W5, g1W5⟩ (fun hHeld => ?_)
            clear hK K
            try simp only [Act.put, List.setIfInBounds_toArray, List.set_cons_zero, List.set_cons_succ]
            refine tk17 (v := ?_) (by kernel_rfl) (by kernel_rfl) (by kernel_rfl) (by first | exact fun _ _ _ h => h | exact fun _ _ _ h => absurd h.1 (by simp)) (Or.inl ⟨by rfl, ?_⟩) (by assumption) ?_
            rotate_left 1
            focus (intro wx hSw; (try dsimp only at hSw); go_simp; try (with_reducible rfl))
            try simp only [Act.put, List.setIfInBounds_toArray, List.set_cons_zero, List.set_cons_succ]
            refine rd18 (by kernel_rfl) (fun K hK => ?_)
            go_simp
            have hbb : Below W5.heap.size W5 (W5.alloc (.cells #[.int .i64 0, .slice none 0 0, .slice none 0 0, .slice none 0 0, .string ⟨#[]⟩] 63)) := (Below.refl _ _).alloc (Nat.le_refl _) _
            have zt : W5.heap.size < (W5.alloc (.cells #[.int .i64 0, .slice none 0 0, .slice none 0 0, .slice none 0 0, .string ⟨#[]⟩] 63)).heap.size := by simp
            have hty : TyAt (W5.alloc (.cells #[.int .i64 0, .slice none 0 0, .slice none 0 0, .slice none 0 0, .string ⟨#[]⟩] 63)) W5.heap.size 63 := TyAt.new _ _ _
            have e0 : (W5.alloc (.cells #[.int .i64 0, .slice none 0 0, .slice none 0 0, .slice none 0 0, .string ⟨#[]⟩] 63)).cell? ⟨W5.heap.size, 0, none⟩ = some (.int .i64 0) := by simp
            have e1 : (W5.alloc (.cells #[.int .i64 0, .slice none 0 0, .slice none 0 0, .slice none 0 0, .string ⟨#[]⟩] 63)).cell? ⟨W5.heap.size, 1, none⟩ = some (.slice none 0 0) := by simp
            have e2 : (W5.alloc (.cells #[.int .i64 0, .slice none 0 0, .slice none 0 0, .slice none 0 0, .string ⟨#[]⟩] 63)).cell? ⟨W5.heap.size, 2, none⟩ = some (.slice none 0 0) := by simp
            have e3 : (W5.alloc (.cells #[.int .i64 0, .slice none 0 0, .slice none 0 0, .slice none 0 0, .string ⟨#[]⟩] 63)).cell? ⟨W5.heap.size, 3, none⟩ = some (.slice none 0 0) := by simp
            have e4 : (W5.alloc (.cells #[.int .i64 0, .slice none 0 0, .slice none 0 0, .slice none 0 0, .string ⟨#[]⟩] 63)).cell? ⟨W5.heap.size, 4, none⟩ = some (.string ⟨#[]⟩) := by simp
            have f0 : (W5.alloc (.cells #[.int .i64 0, .slice none 0 0, .slice none 0 0, .slice none 0 0, .string ⟨#[]⟩] 63)).frozen? ⟨W5.heap.size, 0, none⟩ = false := by simp
            have f1 : (W5.alloc (.cells #[.int .i64 0, .slice none 0 0, .slice none 0 0, .slice none 0 0, .string ⟨#[]⟩] 63)).frozen? ⟨W5.heap.size, 1, none⟩ = false := by simp
            have f2 : (W5.alloc (.cells #[.int .i64 0, .slice none 0 0, .slice none 0 0, .slice none 0 0, .string ⟨#[]⟩] 63)).frozen? ⟨W5.heap.size, 2, none⟩ = false := by simp
            have f3 : (W5.alloc (.cells #[.int .i64 0, .slice none 0 0, .slice none 0 0, .slice none 0 0, .string ⟨#[]⟩] 63)).frozen? ⟨W5.heap.size, 3, none⟩ = false := by simp
            have f4 : (W5.alloc (.cells #[.int .i64 0, .slice none 0 0, .slice none 0 0, .slice none 0 0, .string ⟨#[]⟩] 63)).frozen? ⟨W5.heap.size, 4, none⟩ = false := by simp
            generalize W5.alloc (.cells #[.int .i64 0, .slice none 0 0, .slice none 0 0, .slice none 0 0, .string ⟨#[]⟩] 63) = W6 at hbb zt hty e0 e1 e2 e3 e4 f0 f1 f2 f3 f4 ⊢
            obtain ⟨tb, htb⟩ : ∃ t, t = W5.heap.size := ⟨_, rfl⟩
            rw [← htb] at zt hty e0 e1 e2 e3 e4 f0 f1 f2 f3 f4 ⊢
            have htl : w3.heap.size ≤ tb := by have := belW5.size; omega
            clear htb
            have belW6 := belW5.trans (hbb.mono belW5.size)
            have zdW6 := hbb.size
            have x2W6 := cell_carry x2 (Carries.of 0 belW6)
            have x3W6 := cell_carry x3 (Carries.of 0 belW6)
            have x4W6 := cell_carry x4 (Carries.of 0 belW6)
            have y2W6 := cell_carry y2 (Carries.of 0 belW6)
            have y4W6 := cell_carry y4 (Carries.of 0 belW6)
            have g0W6 := cell_carry g0 (Carries.of 0 belW6)
            have g1W6 := cell_carry g1 (Carries.of 0 belW6)
            have HRSW6 := Lib.hid (owns_after HRSW5.out hbb)
            have HRLW6 := Lib.hid (owns_after HRLW5.out hbb)
            have TBW6 := Lib.hid (show Tb5 tb W6 from ⟨⟨e0, e1, e2, e3, e4⟩, ⟨f0, f1, f2, f3, f4⟩, hty⟩)
            clear hbb zt hty e0 e1 e2 e3 e4 f0 f1 f2 f3 f4
            refine hK.out _ _ ⟨x2W6, x3W6, x4W6, y2W6, y4W6, g0W6, g1W6⟩ (fun hHeld => ?_)
            clear hK K
            try simp only [Act.put, List.setIfInBounds_toArray, List.set_cons_zero, List.set_cons_succ]
            obtain ⟨⟨cz0, cz1, cz2, cz3, cz4⟩, ⟨fz0, fz1, fz2, fz3, fz4⟩, hty⟩ := TBW6.out
            have zt := hty.lt
            refine rd19 (by kernel_rfl) (fun K hK => ?_)
            go_simp
            generalize hWX : (((((W6.setCell ⟨tb, 0, none⟩ (.int .i64 P)).setCell ⟨tb, 1, none⟩ (.slice ua M uc)).setCell ⟨tb, 2, none⟩ (.slice a5 (n0 + n1) k5)).setCell ⟨tb, 3, none⟩ (.slice a7 l0 k7)).setCell ⟨tb, 4, none⟩ (.string (t0 ++ t1))) = WX
            obtain ⟨u0, u1, u2, u3, u4⟩ := put5_cells hWX cz0 cz1 cz2 cz3 cz4
            obtain ⟨h0, h1, h2, h3, h4, hTX, hzX⟩ := put5_more hWX fz0 fz1 fz2 fz3 fz4 hty
            have belX := put5_below hWX belW6 htl
            have HRSX := Lib.hid (put5_ownsT hWX HRSW6.out hty (by decide))
            have HRLX := Lib.hid (put5_ownsT hWX HRLW6.out hty (by decide))
            clear hWX
            refine hK.out _ _ ⟨cell_carry x2 (Carries.of 0 belX), cell_carry x3 (Carries.of 0 belX), cell_carry x4 (Carries.of 0 belX), cell_carry y2 (Carries.of 0 belX), cell_carry y4 (Carries.of 0 belX), cell_carry g0 (Carries.of 0 belX), cell_carry g1 (Carries.of 0 belX)⟩ (fun hHeld => ?_)
            clear hK K
            try simp only [Act.put, List.setIfInBounds_toArray, List.set_cons_zero, List.set_cons_succ]
            refine wpAnyH_done (by kernel_rfl) ?_ _
            exact HK _ _ _ _ _ _ _ _ _ _ _ _ _ _ _ _ _ _ tb WX a5 a7 k5 k7 belX htl (by omega) u0 h0 u1 h1 u2 h2 u3 h3 u4 h4 (Lib.hid hTX) HRSX HRLX
          refine ar18 (fun K hK => ?_) AllReadyH.nil
          go_simp
          have hbb : Below W4.heap.size W4 (W4.alloc (.cells #[.int .i64 0, .slice none 0 0, .slice none 0 0, .slice none 0 0, .string ⟨#[]⟩] 63)) := (Below.refl _ _).alloc (Nat.le_refl _) _
          have zt : W4.heap.size < (W4.alloc (.cells #[.int .i64 0, .slice none 0 0, .slice none 0 0, .slice none 0 0, .string ⟨#[]⟩] 63)).heap.size := by simp
          have hty : TyAt (W4.alloc (.cells #[.int .i64 0, .slice none 0 0, .slice none 0 0, .slice none 0 0, .string ⟨#[]⟩] 63)) W4.heap.size 63 := TyAt.new _ _ _
          have e0 : (W4.alloc (.cells #[.int .i64 0, .slice none 0 0, .slice none 0 0, .slice none 0 0, .string ⟨#[]⟩] 63)).cell? ⟨W4.heap.size, 0, none⟩ = some (.int .i64 0) := by simp
          have e1 : (W4.alloc (.cells #[.int .i64 0, .slice none 0 0, .slice none 0 0, .slice none 0 0, .string ⟨#[]⟩] 63)).cell? ⟨W4.heap.size, 1, none⟩ = some (.slice none 0 0) := by simp
          have e2 : (W4.alloc (.cells #[.int .i64 0, .slice none 0 0, .slice none 0 0, .slice none 0 0, .string ⟨#[]⟩] 63)).cell? ⟨W4.heap.size, 2, none⟩ = some (.slice none 0 0) := by simp
          have e3 : (W4.alloc (.cells #[.int .i64 0, .slice none 0 0, .slice none 0 0, .slice none 0 0, .string ⟨#[]⟩] 63)).cell? ⟨W4.heap.size, 3, none⟩ = some (.slice none 0 0) := by simp
          have e4 : (W4.alloc (.cells #[.int .i64 0, .slice none 0 0, .slice none 0 0, .slice none 0 0, .string ⟨#[]⟩] 63)).cell? ⟨W4.heap.size, 4, none⟩ = some (.string ⟨#[]⟩) := by simp
          have f0 : (W4.alloc (.cells #[.int .i64 0, .slice none 0 0, .slice none 0 0, .slice none 0 0, .string ⟨#[]⟩] 63)).frozen? ⟨W4.heap.size, 0, none⟩ = false := by simp
          have f1 : (W4.alloc (.cells #[.int .i64 0, .slice none 0 0, .slice none 0 0, .slice none 0 0, .string ⟨#[]⟩] 63)).frozen? ⟨W4.heap.size, 1, none⟩ = false := by simp
          have f2 : (W4.alloc (.cells #[.int .i64 0, .slice none 0 0, .slice none 0 0, .slice none 0 0, .string ⟨#[]⟩] 63)).frozen? ⟨W4.heap.size, 2, none⟩ = false := by simp
          have f3 : (W4.alloc (.cells #[.int .i64 0, .slice none 0 0, .slice none 0 0, .slice none 0 0, .string ⟨#[]⟩] 63)).frozen? ⟨W4.heap.size, 3, none⟩ = false := by simp
          have f4 : (W4.alloc (.cells #[.int .i64 0, .slice none 0 0, .slice none 0 0, .slice none 0 0, .string ⟨#[]⟩] 63)).frozen? ⟨W4.heap.size, 4, none⟩ = false := by simp
          generalize W4.alloc (.cells #[.int .i64 0, .slice none 0 0, .slice none 0 0, .slice none 0 0, .string ⟨#[]⟩] 63) = W7 at hbb zt hty e0 e1 e2 e3 e4 f0 f1 f2 f3 f4 ⊢
          obtain ⟨tb, htb⟩ : ∃ t, t = W4.heap.size := ⟨_, rfl⟩
          rw [← htb] at zt hty e0 e1 e2 e3 e4 f0 f1 f2 f3 f4 ⊢
          have htl : w3.heap.size ≤ tb := by have := belW4.size; omega
          clear htb
          have belW7 := belW4.trans (hbb.mono belW4.size)
          have zdW7 := hbb.size
          have x2W7 := cell_carry x2 (Carries.of 0 belW7)
          have x3W7 := cell_carry x3 (Carries.of 0 belW7)
          have x4W7 := cell_carry x4 (Carries.of 0 belW7)
          have y2W7 := cell_carry y2 (Carries.of 0 belW7)
          have y4W7 := cell_carry y4 (Carries.of 0 belW7)
          have g0W7 := cell_carry g0 (Carries.of 0 belW7)
          have g1W7 := cell_carry g1 (Carries.of 0 belW7)
          have HRSW7 := Lib.hid (owns_after HRSW4.out hbb)
          have HRLW7 := Lib.hid (owns_after HRLW4.out hbb)
          have TBW7 := Lib.hid (show Tb5 tb W7 from ⟨⟨e0, e1, e2, e3, e4⟩, ⟨f0, f1, f2, f3, f4⟩, hty⟩)
          clear hbb zt hty e0 e1 e2 e3 e4 f0 f1 f2 f3 f4
          refine hK.out _ _ ⟨x2W7, x3W7, x4W7, y2W7, y4W7, g0W7, g1W7⟩ (fun hHeld => ?_)
          clear hK K
          try simp only [Act.put, List.setIfInBounds_toArray, List.set_cons_zero, List.set_cons_succ]
          refine rd11 (by kernel_rfl) (fun K hK => ?_)
          rw [if_pos (by rfl)]
          refine wp_append_labs (.tmp 40) (.tmp 42) rfl w3.heap.size lo _ 0 [] rfl HRLW7.out _ s0.labs rfl (HLA.out.keep (Carries.of lo (hw3.trans (belW7.mono hw3.size)))) (by rw [← HP0.out.2.2.2.1]; omega) belW7.size ?_
          intro v' W8 hown hgrow
          simp only [Nat.zero_add, List.nil_append] at hown
          rw [← HP0.out.2.2.2.1] at hown
          obtain ⟨a7, k7, rfl⟩ := owns_form hown
          have belW8 := belW7.grown hgrow belW7.size (fun g hg => (HRLW7.out.lt g hg).1)
          have zdW8 := hgrow.size
          have x2W8 := cell_carry x2 (Carries.of 0 belW8)
          have x3W8 := cell_carry x3 (Carries.of 0 belW8)
          have x4W8 := cell_carry x4 (Carries.of 0 belW8)
          have y2W8 := cell_carry y2 (Carries.of 0 belW8)
          have y4W8 := cell_carry y4 (Carries.of 0 belW8)
          have g0W8 := cell_carry g0 (Carries.of 0 belW8)
          have g1W8 := cell_carry g1 (Carries.of 0 belW8)
          have HRSW8 := Lib.hid (HRSW7.out.kept hgrow (rows_apartT HRSW7.out HRLW7.out (by decide)))
          have TBW8 := Lib.hid (TBW7.out.grown HRLW7.out hgrow (by decide))
          have HRLW8 := Lib.hid hown
          clear hown hgrow
          refine hK.out _ _ ⟨x2W8, x3W8, x4W8, y2W8, y4W8, g0W8, g1W8⟩ (fun hHeld => ?_)
          clear hK K
          try simp only [Act.put, List.setIfInBounds_toArray, List.set_cons_zero, List.set_cons_succ]
          obtain ⟨⟨cz0, cz1, cz2, cz3, cz4⟩, ⟨fz0, fz1, fz2, fz3, fz4⟩, hty⟩ := TBW8.out
          have zt := hty.lt
          refine tk17 (v := ?_) (by kernel_rfl) (by kernel_rfl) (by kernel_rfl) (by first | exact fun _ _ _ h => h | exact fun _ _ _ h => absurd h.1 (by simp)) (Or.inl ⟨by rfl, ?_⟩) (by assumption) ?_
          rotate_left 1
          focus (intro wx hSw; (try dsimp only at hSw); go_simp; try (with_reducible rfl))
          try simp only [Act.put, List.setIfInBounds_toArray, List.set_cons_zero, List.set_cons_succ]
          refine rd19 (by kernel_rfl) (fun K hK => ?_)
          go_simp
          generalize hWX : (((((W8.setCell ⟨tb, 0, none⟩ (.int .i64 P)).setCell ⟨tb, 1, none⟩ (.slice ua M uc)).setCell ⟨tb, 2, none⟩ (.slice a5 (n0 + n1) k5)).setCell ⟨tb, 3, none⟩ (.slice a7 l0 k7)).setCell ⟨tb, 4, none⟩ (.string (t0 ++ t1))) = WX
          obtain ⟨u0, u1, u2, u3, u4⟩ := put5_cells hWX cz0 cz1 cz2 cz3 cz4
          obtain ⟨h0, h1, h2, h3, h4, hTX, hzX⟩ := put5_more hWX fz0 fz1 fz2 fz3 fz4 hty
          have belX := put5_below hWX belW8 htl
          have HRSX := Lib.hid (put5_ownsT hWX HRSW8.out hty (by decide))
          have HRLX := Lib.hid (put5_ownsT hWX HRLW8.out hty (by decide))
          clear hWX
          refine hK.out _ _ ⟨cell_carry x2 (Carries.of 0 belX), cell_carry x3 (Carries.of 0 belX), cell_carry x4 (Carries.of 0 belX), cell_carry y2 (Carries.of 0 belX), cell_carry y4 (Carries.of 0 belX), cell_carry g0 (Carries.of 0 belX), cell_carry g1 (Carries.of 0 belX)⟩ (fun hHeld => ?_)
          clear hK K
          try simp only [Act.put, List.setIfInBounds_toArray, List.set_cons_zero, List.set_cons_succ]
          refine wpAnyH_done (by kernel_rfl) ?_ _
          exact HK _ _ _ _ _ _ _ _ _ _ _ _ _ _ _ _ _ _ tb WX a5 a7 k5 k7 belX htl (by omega) u0 h0 u1 h1 u2 h2 u3 h3 u4 h4 (Lib.hid hTX) HRSX HRLX
        refine ar18 (fun K hK => ?_) AllReadyH.nil
        go_simp
        have hbb : Below W3.heap.size W3 (W3.alloc (.cells #[.int .i64 0, .slice none 0 0, .slice none 0 0, .slice none 0 0, .string ⟨#[]⟩] 63)) := (Below.refl _ _).alloc (Nat.le_refl _) _
        have zt : W3.heap.size < (W3.alloc (.cells #[.int .i64 0, .slice none 0 0, .slice none 0 0, .slice none 0 0, .string ⟨#[]⟩] 63)).heap.size := by simp
        have hty : TyAt (W3.alloc (.cells #[.int .i64 0, .slice none 0 0, .slice none 0 0, .slice none 0 0, .string ⟨#[]⟩] 63)) W3.heap.size 63 := TyAt.new _ _ _
        have e0 : (W3.alloc (.cells #[.int .i64 0, .slice none 0 0, .slice none 0 0, .slice none 0 0, .string ⟨#[]⟩] 63)).cell? ⟨W3.heap.size, 0, none⟩ = some (.int .i64 0) := by simp
        have e1 : (W3.alloc (.cells #[.int .i64 0, .slice none 0 0, .slice none 0 0, .slice none 0 0, .string ⟨#[]⟩] 63)).cell? ⟨W3.heap.size, 1, none⟩ = some (.slice none 0 0) := by simp
        have e2 : (W3.alloc (.cells #[.int .i64 0, .slice none 0 0, .slice none 0 0, .slice none 0 0, .string ⟨#[]⟩] 63)).cell? ⟨W3.heap.size, 2, none⟩ = some (.slice none 0 0) := by simp
        have e3 : (W3.alloc (.cells #[.int .i64 0, .slice none 0 0, .slice none 0 0, .slice none 0 0, .string ⟨#[]⟩] 63)).cell? ⟨W3.heap.size, 3, none⟩ = some (.slice none 0 0) := by simp
        have e4 : (W3.alloc (.cells #[.int .i64 0, .slice none 0 0, .slice none 0 0, .slice none 0 0, .string ⟨#[]⟩] 63)).cell? ⟨W3.heap.size, 4, none⟩ = some (.string ⟨#[]⟩) := by simp
        have f0 : (W3.alloc (.cells #[.int .i64 0, .slice none 0 0, .slice none 0 0, .slice none 0 0, .string ⟨#[]⟩] 63)).frozen? ⟨W3.heap.size, 0, none⟩ = false := by simp
        have f1 : (W3.alloc (.cells #[.int .i64 0, .slice none 0 0, .slice none 0 0, .slice none 0 0, .string ⟨#[]⟩] 63)).frozen? ⟨W3.heap.size, 1, none⟩ = false := by simp
        have f2 : (W3.alloc (.cells #[.int .i64 0, .slice none 0 0, .slice none 0 0, .slice none 0 0, .string ⟨#[]⟩] 63)).frozen? ⟨W3.heap.size, 2, none⟩ = false := by simp
        have f3 : (W3.alloc (.cells #[.int .i64 0, .slice none 0 0, .slice none 0 0, .slice none 0 0, .string ⟨#[]⟩] 63)).frozen? ⟨W3.heap.size, 3, none⟩ = false := by simp
        have f4 : (W3.alloc (.cells #[.int .i64 0, .slice none 0 0, .slice none 0 0, .slice none 0 0, .string ⟨#[]⟩] 63)).frozen? ⟨W3.heap.size, 4, none⟩ = false := by simp
        generalize W3.alloc (.cells #[.int .i64 0, .slice none 0 0, .slice none 0 0, .slice none 0 0, .string ⟨#[]⟩] 63) = W9 at hbb zt hty e0 e1 e2 e3 e4 f0 f1 f2 f3 f4 ⊢
        obtain ⟨tb, htb⟩ : ∃ t, t = W3.heap.size := ⟨_, rfl⟩
        rw [← htb] at zt hty e0 e1 e2 e3 e4 f0 f1 f2 f3 f4 ⊢
        have htl : w3.heap.size ≤ tb := by have := belW3.size; omega
        clear htb
        have belW9 := belW3.trans (hbb.mono belW3.size)
        have zdW9 := hbb.size
        have x2W9 := cell_carry x2 (Carries.of 0 belW9)
        have x3W9 := cell_carry x3 (Carries.of 0 belW9)
        have x4W9 := cell_carry x4 (Carries.of 0 belW9)
        have y2W9 := cell_carry y2 (Carries.of 0 belW9)
        have y4W9 := cell_carry y4 (Carries.of 0 belW9)
        have g0W9 := cell_carry g0 (Carries.of 0 belW9)
        have g1W9 := cell_carry g1 (Carries.of 0 belW9)
        have HRSW9 := Lib.hid (owns_after HRSW3.out hbb)
        have TBW9 := Lib.hid (show Tb5 tb W9 from ⟨⟨e0, e1, e2, e3, e4⟩, ⟨f0, f1, f2, f3, f4⟩, hty⟩)
        clear hbb zt hty e0 e1 e2 e3 e4 f0 f1 f2 f3 f4
        refine hK.out _ _ ⟨x2W9, x3W9, x4W9, y2W9, y4W9, g0W9, g1W9⟩ (fun hHeld => ?_)
        clear hK K
        try simp only [Act.put, List.setIfInBounds_toArray, List.set_cons_zero, List.set_cons_succ]
        refine rd8 (by kernel_rfl) (fun K hK => ?_)
        go_simp
        have hbb : Below W9.heap.size W9 (W9.alloc (.cells #[] 113)) := (Below.refl _ _).alloc (Nat.le_refl _) _
        have hown : (W9.alloc (.cells #[] 113)).ownsRow w3.heap.size 113 2 (.slice (some ⟨W9.heap.size, 0, none⟩) 0 0) 0 [] :=
          ⟨rfl, Or.inr ⟨W9.heap.size, 0, #[], rfl, belW9.size, heap_alloc_new W9 _, Nat.le_refl _, Nat.zero_le _, rfl, rfl⟩⟩
        generalize W9.alloc (.cells #[] 113) = W10 at hbb hown ⊢
        have belW10 := belW9.trans (hbb.mono belW9.size)
        have zdW10 := hbb.size
        have x2W10 := cell_carry x2 (Carries.of 0 belW10)
        have x3W10 := cell_carry x3 (Carries.of 0 belW10)
        have x4W10 := cell_carry x4 (Carries.of 0 belW10)
        have y2W10 := cell_carry y2 (Carries.of 0 belW10)
        have y4W10 := cell_carry y4 (Carries.of 0 belW10)
        have g0W10 := cell_carry g0 (Carries.of 0 belW10)
        have g1W10 := cell_carry g1 (Carries.of 0 belW10)
        have HRSW10 := Lib.hid (owns_after HRSW9.out hbb)
        have TBW10 := Lib.hid (TBW9.out.after hbb)
        have HRLW10 := Lib.hid hown
        clear hown hbb
        refine hK.out _ _ ⟨x2W10, x3W10, x4W10, y2W10, y4W10, g0W10, g1W10⟩ (fun hHeld => ?_)
        clear hK K
        try simp only [Act.put, List.setIfInBounds_toArray, List.set_cons_zero, List.set_cons_succ]
        refine rd11 (by kernel_rfl) (fun K hK => ?_)
        rw [if_pos (by rfl)]
        refine wp_append_labs (.tmp 40) (.tmp 42) rfl w3.heap.size lo _ 0 [] rfl HRLW10.out _ s0.labs rfl (HLA.out.keep (Carries.of lo (hw3.trans (belW10.mono hw3.size)))) (by rw [← HP0.out.2.2.2.1]; omega) belW10.size ?_
        intro v' W11 hown hgrow
        simp only [Nat.zero_add, List.nil_append] at hown
        rw [← HP0.out.2.2.2.1] at hown
        obtain ⟨a7, k7, rfl⟩ := owns_form hown
        have belW11 := belW10.grown hgrow belW10.size (fun g hg => (HRLW10.out.lt g hg).1)
        have zdW11 := hgrow.size
        have x2W11 := cell_carry x2 (Carries.of 0 belW11)
        have x3W11 := cell_carry x3 (Carries.of 0 belW11)
        have x4W11 := cell_carry x4 (Carries.of 0 belW11)
        have y2W11 := cell_carry y2 (Carries.of 0 belW11)
        have y4W11 := cell_carry y4 (Carries.of 0 belW11)
        have g0W11 := cell_carry g0 (Carries.of 0 belW11)
        have g1W11 := cell_carry g1 (Carries.of 0 belW11)
        have HRSW11 := Lib.hid (HRSW10.out.kept hgrow (rows_apartT HRSW10.out HRLW10.out (by decide)))
        have TBW11 := Lib.hid (TBW10.out.grown HRLW10.out hgrow (by decide))
        have HRLW11 := Lib.hid hown
        clear hown hgrow
        refine hK.out _ _ ⟨x2W11, x3W11, x4W11, y2W11, y4W11, g0W11, g1W11⟩ (fun hHeld => ?_)
        clear hK K
        try simp only [Act.put, List.setIfInBounds_toArray, List.set_cons_zero, List.set_cons_succ]
        obtain ⟨⟨cz0, cz1, cz2, cz3, cz4⟩, ⟨fz0, fz1, fz2, fz3, fz4⟩, hty⟩ := TBW11.out
        have zt := hty.lt
        refine tk17 (v := ?_) (by kernel_rfl) (by kernel_rfl) (by kernel_rfl) (by first | exact fun _ _ _ h => h | exact fun _ _ _ h => absurd h.1 (by simp)) (Or.inl ⟨by rfl, ?_⟩) (by assumption) ?_
        rotate_left 1
        focus (intro wx hSw; (try dsimp only at hSw); go_simp; try (with_reducible rfl))
        try simp only [Act.put, List.setIfInBounds_toArray, List.set_cons_zero, List.set_cons_succ]
        refine rd19 (by kernel_rfl) (fun K hK => ?_)
        go_simp
        generalize hWX : (((((W11.setCell ⟨tb, 0, none⟩ (.int .i64 P)).setCell ⟨tb, 1, none⟩ (.slice ua M uc)).setCell ⟨tb, 2, none⟩ (.slice a5 (n0 + n1) k5)).setCell ⟨tb, 3, none⟩ (.slice a7 l0 k7)).setCell ⟨tb, 4, none⟩ (.string (t0 ++ t1))) = WX
        obtain ⟨u0, u1, u2, u3, u4⟩ := put5_cells hWX cz0 cz1 cz2 cz3 cz4
        obtain ⟨h0, h1, h2, h3, h4, hTX, hzX⟩ := put5_more hWX fz0 fz1 fz2 fz3 fz4 hty
        have belX := put5_below hWX belW11 htl
        have HRSX := Lib.hid (put5_ownsT hWX HRSW11.out hty (by decide))
        have HRLX := Lib.hid (put5_ownsT hWX HRLW11.out hty (by decide))
        clear hWX
        refine hK.out _ _ ⟨cell_carry x2 (Carries.of 0 belX), cell_carry x3 (Carries.of 0 belX), cell_carry x4 (Carries.of 0 belX), cell_carry y2 (Carries.of 0 belX), cell_carry y4 (Carries.of 0 belX), cell_carry g0 (Carries.of 0 belX), cell_carry g1 (Carries.of 0 belX)⟩ (fun hHeld => ?_)
        clear hK K
        try simp only [Act.put, List.setIfInBounds_toArray, List.set_cons_zero, List.set_cons_succ]
        refine wpAnyH_done (by kernel_rfl) ?_ _
        exact HK _ _ _ _ _ _ _ _ _ _ _ _ _ _ _ _ _ _ tb WX a5 a7 k5 k7 belX htl (by omega) u0 h0 u1 h1 u2 h2 u3 h3 u4 h4 (Lib.hid hTX) HRSX HRLX
      refine ar8 (fun K hK => ?_) ?_
      · go_simp
        have hbb : Below W2.heap.size W2 (W2.alloc (.cells #[] 113)) := (Below.refl _ _).alloc (Nat.le_refl _) _
        have hown : (W2.alloc (.cells #[] 113)).ownsRow w3.heap.size 113 2 (.slice (some ⟨W2.heap.size, 0, none⟩) 0 0) 0 [] :=
          ⟨rfl, Or.inr ⟨W2.heap.size, 0, #[], rfl, belW2.size, heap_alloc_new W2 _, Nat.le_refl _, Nat.zero_le _, rfl, rfl⟩⟩
        generalize W2.alloc (.cells #[] 113) = W12 at hbb hown ⊢
        have belW12 := belW2.trans (hbb.mono belW2.size)
        have zdW12 := hbb.size
        have x2W12 := cell_carry x2 (Carries.of 0 belW12)
        have x3W12 := cell_carry x3 (Carries.of 0 belW12)
        have x4W12 := cell_carry x4 (Carries.of 0 belW12)
        have y2W12 := cell_carry y2 (Carries.of 0 belW12)
        have y4W12 := cell_carry y4 (Carries.of 0 belW12)
        have g0W12 := cell_carry g0 (Carries.of 0 belW12)
        have g1W12 := cell_carry g1 (Carries.of 0 belW12)
        have HRSW12 := Lib.hid (owns_after HRSW2.out hbb)
        have HRLW12 := Lib.hid hown
        clear hown hbb
        refine hK.out _ _ ⟨x2W12, x3W12, x4W12, y2W12, y4W12, g0W12, g1W12⟩ (fun hHeld => ?_)
        clear hK K
        try simp only [Act.put, List.setIfInBounds_toArray, List.set_cons_zero, List.set_cons_succ]
        refine wpAnyH_ready (rs := [7, 18]) (by kernel_rfl) (by simp) ?_
        refine ar7 (fun K hK => ?_) ?_
        · rw [if_pos (by rfl)]
          refine wp_append_sigs (.tmp 36) (.tmp 38) rfl w3.heap.size lo _ n0 _ rfl HRSW12.out _ s1.sigs rfl (HSB.out.keep (Carries.of lo (hw3.trans (belW12.mono hw3.size)))) (by rw [← HP1.out.2.2.1]; omega) belW12.size ?_
          intro v' W13 hown hgrow
          have hown : W13.ownsRow w3.heap.size 118 2 v' (n0 + n1) (pairCells (sgX (s0.sigs ++ s1.sigs)) (sgY (s0.sigs ++ s1.sigs)) (n0 + n1)) := by
            have e := sigs_app s0.sigs s1.sigs
            rw [← HP0.out.2.2.1, ← HP1.out.2.2.1] at e
            rw [← e]; rw [← HP1.out.2.2.1] at hown; exact hown
          obtain ⟨a5, k5, rfl⟩ := owns_form hown
          have belW13 := belW12.grown hgrow belW12.size (fun g hg => (HRSW12.out.lt g hg).1)
          have zdW13 := hgrow.size
          have x2W13 := cell_carry x2 (Carries.of 0 belW13)
          have x3W13 := cell_carry x3 (Carries.of 0 belW13)
          have x4W13 := cell_carry x4 (Carries.of 0 belW13)
          have y2W13 := cell_carry y2 (Carries.of 0 belW13)
          have y4W13 := cell_carry y4 (Carries.of 0 belW13)
          have g0W13 := cell_carry g0 (Carries.of 0 belW13)
          have g1W13 := cell_carry g1 (Carries.of 0 belW13)
          have HRLW13 := Lib.hid (HRLW12.out.kept hgrow (rows_apartT HRLW12.out HRSW12.out (by decide)))
          have HRSW13 := Lib.hid hown
          clear hown hgrow
          refine hK.out _ _ ⟨x2W13, x3W13, x4W13, y2W13, y4W13, g0W13, g1W13⟩ (fun hHeld => ?_)
          clear hK K
          try simp only [Act.put, List.setIfInBounds_toArray, List.set_cons_zero, List.set_cons_succ]
          refine wpAnyH_ready (rs := [11, 18]) (by kernel_rfl) (by simp) ?_
          refine ar11 (fun K hK => ?_) ?_
          · rw [if_pos (by rfl)]
            refine wp_append_labs (.tmp 40) (.tmp 42) rfl w3.heap.size lo _ 0 [] rfl HRLW13.out _ s0.labs rfl (HLA.out.keep (Carries.of lo (hw3.trans (belW13.mono hw3.size)))) (by rw [← HP0.out.2.2.2.1]; omega) belW13.size ?_
            intro v' W14 hown hgrow
            simp only [Nat.zero_add, List.nil_append] at hown
            rw [← HP0.out.2.2.2.1] at hown
            obtain ⟨a7, k7, rfl⟩ := owns_form hown
            have belW14 := belW13.grown hgrow belW13.size (fun g hg => (HRLW13.out.lt g hg).1)
            have zdW14 := hgrow.size
            have x2W14 := cell_carry x2 (Carries.of 0 belW14)
            have x3W14 := cell_carry x3 (Carries.of 0 belW14)
            have x4W14 := cell_carry x4 (Carries.of 0 belW14)
            have y2W14 := cell_carry y2 (Carries.of 0 belW14)
            have y4W14 := cell_carry y4 (Carries.of 0 belW14)
            have g0W14 := cell_carry g0 (Carries.of 0 belW14)
            have g1W14 := cell_carry g1 (Carries.of 0 belW14)
            have HRSW14 := Lib.hid (HRSW13.out.kept hgrow (rows_apartT HRSW13.out HRLW13.out (by decide)))
            have HRLW14 := Lib.hid hown
            clear hown hgrow
            refine hK.out _ _ ⟨x2W14, x3W14, x4W14, y2W14, y4W14, g0W14, g1W14⟩ (fun hHeld => ?_)
            clear hK K
            try simp only [Act.put, List.setIfInBounds_toArray, List.set_cons_zero, List.set_cons_succ]
            refine tk17 (v := ?_) (by kernel_rfl) (by kernel_rfl) (by kernel_rfl) (by first | exact fun _ _ _ h => h | exact fun _ _ _ h => absurd h.1 (by simp)) (Or.inl ⟨by rfl, ?_⟩) (by assumption) ?_
            rotate_left 1
            focus (intro wx hSw; (try dsimp only at hSw); go_simp; try (with_reducible rfl))
            try simp only [Act.put, List.setIfInBounds_toArray, List.set_cons_zero, List.set_cons_succ]
            refine rd18 (by kernel_rfl) (fun K hK => ?_)
            go_simp
            have hbb : Below W14.heap.size W14 (W14.alloc (.cells #[.int .i64 0, .slice none 0 0, .slice none 0 0, .slice none 0 0, .string ⟨#[]⟩] 63)) := (Below.refl _ _).alloc (Nat.le_refl _) _
            have zt : W14.heap.size < (W14.alloc (.cells #[.int .i64 0, .slice none 0 0, .slice none 0 0, .slice none 0 0, .string ⟨#[]⟩] 63)).heap.size := by simp
            have hty : TyAt (W14.alloc (.cells #[.int .i64 0, .slice none 0 0, .slice none 0 0, .slice none 0 0, .string ⟨#[]⟩] 63)) W14.heap.size 63 := TyAt.new _ _ _
            have e0 : (W14.alloc (.cells #[.int .i64 0, .slice none 0 0, .slice none 0 0, .slice none 0 0, .string ⟨#[]⟩] 63)).cell? ⟨W14.heap.size, 0, none⟩ = some (.int .i64 0) := by simp
            have e1 : (W14.alloc (.cells #[.int .i64 0, .slice none 0 0, .slice none 0 0, .slice none 0 0, .string ⟨#[]⟩] 63)).cell? ⟨W14.heap.size, 1, none⟩ = some (.slice none 0 0) := by simp
            have e2 : (W14.alloc (.cells #[.int .i64 0, .slice none 0 0, .slice none 0 0, .slice none 0 0, .string ⟨#[]⟩] 63)).cell? ⟨W14.heap.size, 2, none⟩ = some (.slice none 0 0) := by simp
            have e3 : (W14.alloc (.cells #[.int .i64 0, .slice none 0 0, .slice none 0 0, .slice none 0 0, .string ⟨#[]⟩] 63)).cell? ⟨W14.heap.size, 3, none⟩ = some (.slice none 0 0) := by simp
            have e4 : (W14.alloc (.cells #[.int .i64 0, .slice none 0 0, .slice none 0 0, .slice none 0 0, .string ⟨#[]⟩] 63)).cell? ⟨W14.heap.size, 4, none⟩ = some (.string ⟨#[]⟩) := by simp
            have f0 : (W14.alloc (.cells #[.int .i64 0, .slice none 0 0, .slice none 0 0, .slice none 0 0, .string ⟨#[]⟩] 63)).frozen? ⟨W14.heap.size, 0, none⟩ = false := by simp
            have f1 : (W14.alloc (.cells #[.int .i64 0, .slice none 0 0, .slice none 0 0, .slice none 0 0, .string ⟨#[]⟩] 63)).frozen? ⟨W14.heap.size, 1, none⟩ = false := by simp
            have f2 : (W14.alloc (.cells #[.int .i64 0, .slice none 0 0, .slice none 0 0, .slice none 0 0, .string ⟨#[]⟩] 63)).frozen? ⟨W14.heap.size, 2, none⟩ = false := by simp
            have f3 : (W14.alloc (.cells #[.int .i64 0, .slice none 0 0, .slice none 0 0, .slice none 0 0, .string ⟨#[]⟩] 63)).frozen? ⟨W14.heap.size, 3, none⟩ = false := by simp
            have f4 : (W14.alloc (.cells #[.int .i64 0, .slice none 0 0, .slice none 0 0, .slice none 0 0, .string ⟨#[]⟩] 63)).frozen? ⟨W14.heap.size, 4, none⟩ = false := by simp
            generalize W14.alloc (.cells #[.int .i64 0, .slice none 0 0, .slice none 0 0, .slice none 0 0, .string ⟨#[]⟩] 63) = W15 at hbb zt hty e0 e1 e2 e3 e4 f0 f1 f2 f3 f4 ⊢
            obtain ⟨tb, htb⟩ : ∃ t, t = W14.heap.size := ⟨_, rfl⟩
            rw [← htb] at zt hty e0 e1 e2 e3 e4 f0 f1 f2 f3 f4 ⊢
            have htl : w3.heap.size ≤ tb := by have := belW14.size; omega
            clear htb
            have belW15 := belW14.trans (hbb.mono belW14.size)
            have zdW15 := hbb.size
            have x2W15 := cell_carry x2 (Carries.of 0 belW15)
            have x3W15 := cell_carry x3 (Carries.of 0 belW15)
            have x4W15 := cell_carry x4 (Carries.of 0 belW15)
            have y2W15 := cell_carry y2 (Carries.of 0 belW15)
            have y4W15 := cell_carry y4 (Carries.of 0 belW15)
            have g0W15 := cell_carry g0 (Carries.of 0 belW15)
            have g1W15 := cell_carry g1 (Carries.of 0 belW15)
            have HRSW15 := Lib.hid (owns_after HRSW14.out hbb)
            have HRLW15 := Lib.hid (owns_after HRLW14.out hbb)
            have TBW15 := Lib.hid (show Tb5 tb W15 from ⟨⟨e0, e1, e2, e3, e4⟩, ⟨f0, f1, f2, f3, f4⟩, hty⟩)
            clear hbb zt hty e0 e1 e2 e3 e4 f0 f1 f2 f3 f4
            refine hK.out _ _ ⟨x2W15, x3W15, x4W15, y2W15, y4W15, g0W15, g1W15⟩ (fun hHeld => ?_)
            clear hK K
            try simp only [Act.put, List.setIfInBounds_toArray, List.set_cons_zero, List.set_cons_succ]
            obtain ⟨⟨cz0, cz1, cz2, cz3, cz4⟩, ⟨fz0, fz1, fz2, fz3, fz4⟩, hty⟩ := TBW15.out
            have zt := hty.lt
            refine rd19 (by kernel_rfl) (fun K hK => ?_)
            go_simp
            generalize hWX : (((((W15.setCell ⟨tb, 0, none⟩ (.int .i64 P)).setCell ⟨tb, 1, none⟩ (.slice ua M uc)).setCell ⟨tb, 2, none⟩ (.slice a5 (n0 + n1) k5)).setCell ⟨tb, 3, none⟩ (.slice a7 l0 k7)).setCell ⟨tb, 4, none⟩ (.string (t0 ++ t1))) = WX
            obtain ⟨u0, u1, u2, u3, u4⟩ := put5_cells hWX cz0 cz1 cz2 cz3 cz4
            obtain ⟨h0, h1, h2, h3, h4, hTX, hzX⟩ := put5_more hWX fz0 fz1 fz2 fz3 fz4 hty
            have belX := put5_below hWX belW15 htl
            have HRSX := Lib.hid (put5_ownsT hWX HRSW15.out hty (by decide))
            have HRLX := Lib.hid (put5_ownsT hWX HRLW15.out hty (by decide))
            clear hWX
            refine hK.out _ _ ⟨cell_carry x2 (Carries.of 0 belX), cell_carry x3 (Carries.of 0 belX), cell_carry x4 (Carries.of 0 belX), cell_carry y2 (Carries.of 0 belX), cell_carry y4 (Carries.of 0 belX), cell_carry g0 (Carries.of 0 belX), cell_carry g1 (Carries.of 0 belX)⟩ (fun hHeld => ?_)
            clear hK K
            try simp only [Act.put, List.setIfInBounds_toArray, List.set_cons_zero, List.set_cons_succ]
            refine wpAnyH_done (by kernel_rfl) ?_ _
            exact HK _ _ _ _ _ _ _ _ _ _ _ _ _ _ _ _ _ _ tb WX a5 a7 k5 k7 belX htl (by omega) u0 h0 u1 h1 u2 h2 u3 h3 u4 h4 (Lib.hid hTX) HRSX HRLX
          refine ar18 (fun K hK => ?_) AllReadyH.nil
          go_simp
          have hbb : Below W13.heap.size W13 (W13.alloc (.cells #[.int .i64 0, .slice none 0 0, .slice none 0 0, .slice none 0 0, .string ⟨#[]⟩] 63)) := (Below.refl _ _).alloc (Nat.le_refl _) _
          have zt : W13.heap.size < (W13.alloc (.cells #[.int .i64 0, .slice none 0 0, .slice none 0 0, .slice none 0 0, .string ⟨#[]⟩] 63)).heap.size := by simp
          have hty : TyAt (W13.alloc (.cells #[.int .i64 0, .slice none 0 0, .slice none 0 0, .slice none 0 0, .string ⟨#[]⟩] 63)) W13.heap.size 63 := TyAt.new _ _ _
          have e0 : (W13.alloc (.cells #[.int .i64 0, .slice none 0 0, .slice none 0 0, .slice none 0 0, .string ⟨#[]⟩] 63)).cell? ⟨W13.heap.size, 0, none⟩ = some (.int .i64 0) := by simp
          have e1 : (W13.alloc (.cells #[.int .i64 0, .slice none 0 0, .slice none 0 0, .slice none 0 0, .string ⟨#[]⟩] 63)).cell? ⟨W13.heap.size, 1, none⟩ = some (.slice none 0 0) := by simp
          have e2 : (W13.alloc (.cells #[.int .i64 0, .slice none 0 0, .slice none 0 0, .slice none 0 0, .string ⟨#[]⟩] 63)).cell? ⟨W13.heap.size, 2, none⟩ = some (.slice none 0 0) := by simp
          have e3 : (W13.alloc (.cells #[.int .i64 0, .slice none 0 0, .slice none 0 0, .slice none 0 0, .string ⟨#[]⟩] 63)).cell? ⟨W13.heap.size, 3, none⟩ = some (.slice none 0 0) := by simp
          have e4 : (W13.alloc (.cells #[.int .i64 0, .slice none 0 0, .slice none 0 0, .slice none 0 0, .string ⟨#[]⟩] 63)).cell? ⟨W13.heap.size, 4, none⟩ = some (.string ⟨#[]⟩) := by simp
          have f0 : (W13.alloc (.cells #[.int .i64 0, .slice none 0 0, .slice none 0 0, .slice none 0 0, .string ⟨#[]⟩] 63)).frozen? ⟨W13.heap.size, 0, none⟩ = false := by simp
          have f1 : (W13.alloc (.cells #[.int .i64 0, .slice none 0 0, .slice none 0 0, .slice none 0 0, .string ⟨#[]⟩] 63)).frozen? ⟨W13.heap.size, 1, none⟩ = false := by simp
          have f2 : (W13.alloc (.cells #[.int .i64 0, .slice none 0 0, .slice none 0 0, .slice none 0 0, .string ⟨#[]⟩] 63)).frozen? ⟨W13.heap.size, 2, none⟩ = false := by simp
          have f3 : (W13.alloc (.cells #[.int .i64 0, .slice none 0 0, .slice none 0 0, .slice none 0 0, .string ⟨#[]⟩] 63)).frozen? ⟨W13.heap.size, 3, none⟩ = false := by simp
          have f4 : (W13.alloc (.cells #[.int .i64 0, .slice none 0 0, .slice none 0 0, .slice none 0 0, .string ⟨#[]⟩] 63)).frozen? ⟨W13.heap.size, 4, none⟩ = false := by simp
          generalize W13.alloc (.cells #[.int .i64 0, .slice none 0 0, .slice none 0 0, .slice none 0 0, .string ⟨#[]⟩] 63) = W16 at hbb zt hty e0 e1 e2 e3 e4 f0 f1 f2 f3 f4 ⊢
          obtain ⟨tb, htb⟩ : ∃ t, t = W13.heap.size := ⟨_, rfl⟩
          rw [← htb] at zt hty e0 e1 e2 e3 e4 f0 f1 f2 f3 f4 ⊢
          have htl : w3.heap.size ≤ tb := by have := belW13.size; omega
          clear htb
          have belW16 := belW13.trans (hbb.mono belW13.size)
          have zdW16 := hbb.size
          have x2W16 := cell_carry x2 (Carries.of 0 belW16)
          have x3W16 := cell_carry x3 (Carries.of 0 belW16)
          have x4W16 := cell_carry x4 (Carries.of 0 belW16)
          have y2W16 := cell_carry y2 (Carries.of 0 belW16)
          have y4W16 := cell_carry y4 (Carries.of 0 belW16)
          have g0W16 := cell_carry g0 (Carries.of 0 belW16)
          have g1W16 := cell_carry g1 (Carries.of 0 belW16)
          have HRSW16 := Lib.hid (owns_after HRSW13.out hbb)
          have HRLW16 := Lib.hid (owns_after HRLW13.out hbb)
          have TBW16 := Lib.hid (show Tb5 tb W16 from ⟨⟨e0, e1, e2, e3, e4⟩, ⟨f0, f1, f2, f3, f4⟩, hty⟩)
          clear hbb zt hty e0 e1 e2 e3 e4 f0 f1 f2 f3 f4
          refine hK.out _ _ ⟨x2W16, x3W16, x4W16, y2W16, y4W16, g0W16, g1W16⟩ (fun hHeld => ?_)
          clear hK K
          try simp only [Act.put, List.setIfInBounds_toArray, List.set_cons_zero, List.set_cons_succ]
          refine rd11 (by kernel_rfl) (fun K hK => ?_)
          rw [if_pos (by rfl)]
          refine wp_append_labs (.tmp 40) (.tmp 42) rfl w3.heap.size lo _ 0 [] rfl HRLW16.out _ s0.labs rfl (HLA.out.keep (Carries.of lo (hw3.trans (belW16.mono hw3.size)))) (by rw [← HP0.out.2.2.2.1]; omega) belW16.size ?_
          intro v' W17 hown hgrow
          simp only [Nat.zero_add, List.nil_append] at hown
          rw [← HP0.out.2.2.2.1] at hown
          obtain ⟨a7, k7, rfl⟩ := owns_form hown
          have belW17 := belW16.grown hgrow belW16.size (fun g hg => (HRLW16.out.lt g hg).1)
          have zdW17 := hgrow.size
          have x2W17 := cell_carry x2 (Carries.of 0 belW17)
          have x3W17 := cell_carry x3 (Carries.of 0 belW17)
          have x4W17 := cell_carry x4 (Carries.of 0 belW17)
          have y2W17 := cell_carry y2 (Carries.of 0 belW17)
          have y4W17 := cell_carry y4 (Carries.of 0 belW17)
          have g0W17 := cell_carry g0 (Carries.of 0 belW17)
          have g1W17 := cell_carry g1 (Carries.of 0 belW17)
          have HRSW17 := Lib.hid (HRSW16.out.kept hgrow (rows_apartT HRSW16.out HRLW16.out (by decide)))
          have TBW17 := Lib.hid (TBW16.out.grown HRLW16.out hgrow (by decide))
          have HRLW17 := Lib.hid hown
          clear hown hgrow
          refine hK.out _ _ ⟨x2W17, x3W17, x4W17, y2W17, y4W17, g0W17, g1W17⟩ (fun hHeld => ?_)
          clear hK K
          try simp only [Act.put, List.setIfInBounds_toArray, List.set_cons_zero, List.set_cons_succ]
          obtain ⟨⟨cz0, cz1, cz2, cz3, cz4⟩, ⟨fz0, fz1, fz2, fz3, fz4⟩, hty⟩ := TBW17.out
          have zt := hty.lt
          refine tk17 (v := ?_) (by kernel_rfl) (by kernel_rfl) (by kernel_rfl) (by first | exact fun _ _ _ h => h | exact fun _ _ _ h => absurd h.1 (by simp)) (Or.inl ⟨by rfl, ?_⟩) (by assumption) ?_
          rotate_left 1
          focus (intro wx hSw; (try dsimp only at hSw); go_simp; try (with_reducible rfl))
          try simp only [Act.put, List.setIfInBounds_toArray, List.set_cons_zero, List.set_cons_succ]
          refine rd19 (by kernel_rfl) (fun K hK => ?_)
          go_simp
          generalize hWX : (((((W17.setCell ⟨tb, 0, none⟩ (.int .i64 P)).setCell ⟨tb, 1, none⟩ (.slice ua M uc)).setCell ⟨tb, 2, none⟩ (.slice a5 (n0 + n1) k5)).setCell ⟨tb, 3, none⟩ (.slice a7 l0 k7)).setCell ⟨tb, 4, none⟩ (.string (t0 ++ t1))) = WX
          obtain ⟨u0, u1, u2, u3, u4⟩ := put5_cells hWX cz0 cz1 cz2 cz3 cz4
          obtain ⟨h0, h1, h2, h3, h4, hTX, hzX⟩ := put5_more hWX fz0 fz1 fz2 fz3 fz4 hty
          have belX := put5_below hWX belW17 htl
          have HRSX := Lib.hid (put5_ownsT hWX HRSW17.out hty (by decide))
          have HRLX := Lib.hid (put5_ownsT hWX HRLW17.out hty (by decide))
          clear hWX
          refine hK.out _ _ ⟨cell_carry x2 (Carries.of 0 belX), cell_carry x3 (Carries.of 0 belX), cell_carry x4 (Carries.of 0 belX), cell_carry y2 (Carries.of 0 belX), cell_carry y4 (Carries.of 0 belX), cell_carry g0 (Carries.of 0 belX), cell_carry g1 (Carries.of 0 belX)⟩ (fun hHeld => ?_)
          clear hK K
          try simp only [Act.put, List.setIfInBounds_toArray, List.set_cons_zero, List.set_cons_succ]
          refine wpAnyH_done (by kernel_rfl) ?_ _
          exact HK _ _ _ _ _ _ _ _ _ _ _ _ _ _ _ _ _ _ tb WX a5 a7 k5 k7 belX htl (by omega) u0 h0 u1 h1 u2 h2 u3 h3 u4 h4 (Lib.hid hTX) HRSX HRLX
        refine ar18 (fun K hK => ?_) AllReadyH.nil
        go_simp
        have hbb : Below W12.heap.size W12 (W12.alloc (.cells #[.int .i64 0, .slice none 0 0, .slice none 0 0, .slice none 0 0, .string ⟨#[]⟩] 63)) := (Below.refl _ _).alloc (Nat.le_refl _) _
        have zt : W12.heap.size < (W12.alloc (.cells #[.int .i64 0, .slice none 0 0, .slice none 0 0, .slice none 0 0, .string ⟨#[]⟩] 63)).heap.size := by simp
        have hty : TyAt (W12.alloc (.cells #[.int .i64 0, .slice none 0 0, .slice none 0 0, .slice none 0 0, .string ⟨#[]⟩] 63)) W12.heap.size 63 := TyAt.new _ _ _
        have e0 : (W12.alloc (.cells #[.int .i64 0, .slice none 0 0, .slice none 0 0, .slice none 0 0, .string ⟨#[]⟩] 63)).cell? ⟨W12.heap.size, 0, none⟩ = some (.int .i64 0) := by simp
        have e1 : (W12.alloc (.cells #[.int .i64 0, .slice none 0 0, .slice none 0 0, .slice none 0 0, .string ⟨#[]⟩] 63)).cell? ⟨W12.heap.size, 1, none⟩ = some (.slice none 0 0) := by simp
        have e2 : (W12.alloc (.cells #[.int .i64 0, .slice none 0 0, .slice none 0 0, .slice none 0 0, .string ⟨#[]⟩] 63)).cell? ⟨W12.heap.size, 2, none⟩ = some (.slice none 0 0) := by simp
        have e3 : (W12.alloc (.cells #[.int .i64 0, .slice none 0 0, .slice none 0 0, .slice none 0 0, .string ⟨#[]⟩] 63)).cell? ⟨W12.heap.size, 3, none⟩ = some (.slice none 0 0) := by simp
        have e4 : (W12.alloc (.cells #[.int .i64 0, .slice none 0 0, .slice none 0 0, .slice none 0 0, .string ⟨#[]⟩] 63)).cell? ⟨W12.heap.size, 4, none⟩ = some (.string ⟨#[]⟩) := by simp
        have f0 : (W12.alloc (.cells #[.int .i64 0, .slice none 0 0, .slice none 0 0, .slice none 0 0, .string ⟨#[]⟩] 63)).frozen? ⟨W12.heap.size, 0, none⟩ = false := by simp
        have f1 : (W12.alloc (.cells #[.int .i64 0, .slice none 0 0, .slice none 0 0, .slice none 0 0, .string ⟨#[]⟩] 63)).frozen? ⟨W12.heap.size, 1, none⟩ = false := by simp
        have f2 : (W12.alloc (.cells #[.int .i64 0, .slice none 0 0, .slice none 0 0, .slice none 0 0, .string ⟨#[]⟩] 63)).frozen? ⟨W12.heap.size, 2, none⟩ = false := by simp
        have f3 : (W12.alloc (.cells #[.int .i64 0, .slice none 0 0, .slice none 0 0, .slice none 0 0, .string ⟨#[]⟩] 63)).frozen? ⟨W12.heap.size, 3, none⟩ = false := by simp
        have f4 : (W12.alloc (.cells #[.int .i64 0, .slice none 0 0, .slice none 0 0, .slice none 0 0, .string ⟨#[]⟩] 63)).frozen? ⟨W12.heap.size, 4, none⟩ = false := by simp
        generalize W12.alloc (.cells #[.int .i64 0, .slice none 0 0, .slice none 0 0, .slice none 0 0, .string ⟨#[]⟩] 63) = W18 at hbb zt hty e0 e1 e2 e3 e4 f0 f1 f2 f3 f4 ⊢
        obtain ⟨tb, htb⟩ : ∃ t, t = W12.heap.size := ⟨_, rfl⟩
        rw [← htb] at zt hty e0 e1 e2 e3 e4 f0 f1 f2 f3 f4 ⊢
        have htl : w3.heap.size ≤ tb := by have := belW12.size; omega
        clear htb
        have belW18 := belW12.trans (hbb.mono belW12.size)
        have zdW18 := hbb.size
        have x2W18 := cell_carry x2 (Carries.of 0 belW18)
        have x3W18 := cell_carry x3 (Carries.of 0 belW18)
        have x4W18 := cell_carry x4 (Carries.of 0 belW18)
        have y2W18 := cell_carry y2 (Carries.of 0 belW18)
        have y4W18 := cell_carry y4 (Carries.of 0 belW18)
        have g0W18 := cell_carry g0 (Carries.of 0 belW18)
        have g1W18 := cell_carry g1 (Carries.of 0 belW18)
        have HRSW18 := Lib.hid (owns_after HRSW12.out hbb)
        have HRLW18 := Lib.hid (owns_after HRLW12.out hbb)
        have TBW18 := Lib.hid (show Tb5 tb W18 from ⟨⟨e0, e1, e2, e3, e4⟩, ⟨f0, f1, f2, f3, f4⟩, hty⟩)
        clear hbb zt hty e0 e1 e2 e3 e4 f0 f1 f2 f3 f4
        refine hK.out _ _ ⟨x2W18, x3W18, x4W18, y2W18, y4W18, g0W18, g1W18⟩ (fun hHeld => ?_)
        clear hK K
        try simp only [Act.put, List.setIfInBounds_toArray, List.set_cons_zero, List.set_cons_succ]
        refine rd7 (by kernel_rfl) (fun K hK => ?_)
        rw [if_pos (by rfl)]
        refine wp_append_sigs (.tmp 36) (.tmp 38) rfl w3.heap.size lo _ n0 _ rfl HRSW18.out _ s1.sigs rfl (HSB.out.keep (Carries.of lo (hw3.trans (belW18.mono hw3.size)))) (by rw [← HP1.out.2.2.1]; omega) belW18.size ?_
        intro v' W19 hown hgrow
        have hown : W19.ownsRow w3.heap.size 118 2 v' (n0 + n1) (pairCells (sgX (s0.sigs ++ s1.sigs)) (sgY (s0.sigs ++ s1.sigs)) (n0 + n1)) := by
          have e := sigs_app s0.sigs s1.sigs
          rw [← HP0.out.2.2.1, ← HP1.out.2.2.1] at e
          rw [← e]; rw [← HP1.out.2.2.1] at hown; exact hown
        obtain ⟨a5, k5, rfl⟩ := owns_form hown
        have belW19 := belW18.grown hgrow belW18.size (fun g hg => (HRSW18.out.lt g hg).1)
        have zdW19 := hgrow.size
        have x2W19 := cell_carry x2 (Carries.of 0 belW19)
        have x3W19 := cell_carry x3 (Carries.of 0 belW19)
        have x4W19 := cell_carry x4 (Carries.of 0 belW19)
        have y2W19 := cell_carry y2 (Carries.of 0 belW19)
        have y4W19 := cell_carry y4 (Carries.of 0 belW19)
        have g0W19 := cell_carry g0 (Carries.of 0 belW19)
        have g1W19 := cell_carry g1 (Carries.of 0 belW19)
        have HRLW19 := Lib.hid (HRLW18.out.kept hgrow (rows_apartT HRLW18.out HRSW18.out (by decide)))
        have TBW19 := Lib.hid (TBW18.out.grown HRSW18.out hgrow (by decide))
        have HRSW19 := Lib.hid hown
        clear hown hgrow
        refine hK.out _ _ ⟨x2W19, x3W19, x4W19, y2W19, y4W19, g0W19, g1W19⟩ (fun hHeld => ?_)
        clear hK K
        try simp only [Act.put, List.setIfInBounds_toArray, List.set_cons_zero, List.set_cons_succ]
        refine rd11 (by kernel_rfl) (fun K hK => ?_)
        rw [if_pos (by rfl)]
        refine wp_append_labs (.tmp 40) (.tmp 42) rfl w3.heap.size lo _ 0 [] rfl HRLW19.out _ s0.labs rfl (HLA.out.keep (Carries.of lo (hw3.trans (belW19.mono hw3.size)))) (by rw [← HP0.out.2.2.2.1]; omega) belW19.size ?_
        intro v' W20 hown hgrow
        simp only [Nat.zero_add, List.nil_append] at hown
        rw [← HP0.out.2.2.2.1] at hown
        obtain ⟨a7, k7, rfl⟩ := owns_form hown
        have belW20 := belW19.grown hgrow belW19.size (fun g hg => (HRLW19.out.lt g hg).1)
        have zdW20 := hgrow.size
        have x2W20 := cell_carry x2 (Carries.of 0 belW20)
        have x3W20 := cell_carry x3 (Carries.of 0 belW20)
        have x4W20 := cell_carry x4 (Carries.of 0 belW20)
        have y2W20 := cell_carry y2 (Carries.of 0 belW20)
        have y4W20 := cell_carry y4 (Carries.of 0 belW20)
        have g0W20 := cell_carry g0 (Carries.of 0 belW20)
        have g1W20 := cell_carry g1 (Carries.of 0 belW20)
        have HRSW20 := Lib.hid (HRSW19.out.kept hgrow (rows_apartT HRSW19.out HRLW19.out (by decide)))
        have TBW20 := Lib.hid (TBW19.out.grown HRLW19.out hgrow (by decide))
        have HRLW20 := Lib.hid hown
        clear hown hgrow
        refine hK.out _ _ ⟨x2W20, x3W20, x4W20, y2W20, y4W20, g0W20, g1W20⟩ (fun hHeld => ?_)
        clear hK K
        try simp only [Act.put, List.setIfInBounds_toArray, List.set_cons_zero, List.set_cons_succ]
        obtain ⟨⟨cz0, cz1, cz2, cz3, cz4⟩, ⟨fz0, fz1, fz2, fz3, fz4⟩, hty⟩ := TBW20.out
        have zt := hty.lt
        refine tk17 (v := ?_) (by kernel_rfl) (by kernel_rfl) (by kernel_rfl) (by first | exact fun _ _ _ h => h | exact fun _ _ _ h => absurd h.1 (by simp)) (Or.inl ⟨by rfl, ?_⟩) (by assumption) ?_
        rotate_left 1
        focus (intro wx hSw; (try dsimp only at hSw); go_simp; try (with_reducible rfl))
        try simp only [Act.put, List.setIfInBounds_toArray, List.set_cons_zero, List.set_cons_succ]
        refine rd19 (by kernel_rfl) (fun K hK => ?_)
        go_simp
        generalize hWX : (((((W20.setCell ⟨tb, 0, none⟩ (.int .i64 P)).setCell ⟨tb, 1, none⟩ (.slice ua M uc)).setCell ⟨tb, 2, none⟩ (.slice a5 (n0 + n1) k5)).setCell ⟨tb, 3, none⟩ (.slice a7 l0 k7)).setCell ⟨tb, 4, none⟩ (.string (t0 ++ t1))) = WX
        obtain ⟨u0, u1, u2, u3, u4⟩ := put5_cells hWX cz0 cz1 cz2 cz3 cz4
        obtain ⟨h0, h1, h2, h3, h4, hTX, hzX⟩ := put5_more hWX fz0 fz1 fz2 fz3 fz4 hty
        have belX := put5_below hWX belW20 htl
        have HRSX := Lib.hid (put5_ownsT hWX HRSW20.out hty (by decide))
        have HRLX := Lib.hid (put5_ownsT hWX HRLW20.out hty (by decide))
        clear hWX
        refine hK.out _ _ ⟨cell_carry x2 (Carries.of 0 belX), cell_carry x3 (Carries.of 0 belX), cell_carry x4 (Carries.of 0 belX), cell_carry y2 (Carries.of 0 belX), cell_carry y4 (Carries.of 0 belX), cell_carry g0 (Carries.of 0 belX), cell_carry g1 (Carries.of 0 belX)⟩ (fun hHeld => ?_)
        clear hK K
        try simp only [Act.put, List.setIfInBounds_toArray, List.set_cons_zero, List.set_cons_succ]
        refine wpAnyH_done (by kernel_rfl) ?_ _
        exact HK _ _ _ _ _ _ _ _ _ _ _ _ _ _ _ _ _ _ tb WX a5 a7 k5 k7 belX htl (by omega) u0 h0 u1 h1 u2 h2 u3 h3 u4 h4 (Lib.hid hTX) HRSX HRLX
      refine ar18 (fun K hK => ?_) AllReadyH.nil
      go_simp
      have hbb : Below W2.heap.size W2 (W2.alloc (.cells #[.int .i64 0, .slice none 0 0, .slice none 0 0, .slice none 0 0, .string ⟨#[]⟩] 63)) := (Below.refl _ _).alloc (Nat.le_refl _) _
      have zt : W2.heap.size < (W2.alloc (.cells #[.int .i64 0, .slice none 0 0, .slice none 0 0, .slice none 0 0, .string ⟨#[]⟩] 63)).heap.size := by simp
      have hty : TyAt (W2.alloc (.cells #[.int .i64 0, .slice none 0 0, .slice none 0 0, .slice none 0 0, .string ⟨#[]⟩] 63)) W2.heap.size 63 := TyAt.new _ _ _
      have e0 : (W2.alloc (.cells #[.int .i64 0, .slice none 0 0, .slice none 0 0, .slice none 0 0, .string ⟨#[]⟩] 63)).cell? ⟨W2.heap.size, 0, none⟩ = some (.int .i64 0) := by simp
      have e1 : (W2.alloc (.cells #[.int .i64 0, .slice none 0 0, .slice none 0 0, .slice none 0 0, .string ⟨#[]⟩] 63)).cell? ⟨W2.heap.size, 1, none⟩ = some (.slice none 0 0) := by simp
      have e2 : (W2.alloc (.cells #[.int .i64 0, .slice none 0 0, .slice none 0 0, .slice none 0 0, .string ⟨#[]⟩] 63)).cell? ⟨W2.heap.size, 2, none⟩ = some (.slice none 0 0) := by simp
      have e3 : (W2.alloc (.cells #[.int .i64 0, .slice none 0 0, .slice none 0 0, .slice none 0 0, .string ⟨#[]⟩] 63)).cell? ⟨W2.heap.size, 3, none⟩ = some (.slice none 0 0) := by simp
      have e4 : (W2.alloc (.cells #[.int .i64 0, .slice none 0 0, .slice none 0 0, .slice none 0 0, .string ⟨#[]⟩] 63)).cell? ⟨W2.heap.size, 4, none⟩ = some (.string ⟨#[]⟩) := by simp
      have f0 : (W2.alloc (.cells #[.int .i64 0, .slice none 0 0, .slice none 0 0, .slice none 0 0, .string ⟨#[]⟩] 63)).frozen? ⟨W2.heap.size, 0, none⟩ = false := by simp
      have f1 : (W2.alloc (.cells #[.int .i64 0, .slice none 0 0, .slice none 0 0, .slice none 0 0, .string ⟨#[]⟩] 63)).frozen? ⟨W2.heap.size, 1, none⟩ = false := by simp
      have f2 : (W2.alloc (.cells #[.int .i64 0, .slice none 0 0, .slice none 0 0, .slice none 0 0, .string ⟨#[]⟩] 63)).frozen? ⟨W2.heap.size, 2, none⟩ = false := by simp
      have f3 : (W2.alloc (.cells #[.int .i64 0, .slice none 0 0, .slice none 0 0, .slice none 0 0, .string ⟨#[]⟩] 63)).frozen? ⟨W2.heap.size, 3, none⟩ = false := by simp
      have f4 : (W2.alloc (.cells #[.int .i64 0, .slice none 0 0, .slice none 0 0, .slice none 0 0, .string ⟨#[]⟩] 63)).frozen? ⟨W2.heap.size, 4, none⟩ = false := by simp
      generalize W2.alloc (.cells #[.int .i64 0, .slice none 0 0, .slice none 0 0, .slice none 0 0, .string ⟨#[]⟩] 63) = W21 at hbb zt hty e0 e1 e2 e3 e4 f0 f1 f2 f3 f4 ⊢
      obtain ⟨tb, htb⟩ : ∃ t, t = W2.heap.size := ⟨_, rfl⟩
      rw [← htb] at zt hty e0 e1 e2 e3 e4 f0 f1 f2 f3 f4 ⊢
      have htl : w3.heap.size ≤ tb := by have := belW2.size; omega
      clear htb
      have belW21 := belW2.trans (hbb.mono belW2.size)
      have zdW21 := hbb.size
      have x2W21 := cell_carry x2 (Carries.of 0 belW21)
      have x3W21 := cell_carry x3 (Carries.of 0 belW21)
      have x4W21 := cell_carry x4 (Carries.of 0 belW21)
      have y2W21 := cell_carry y2 (Carries.of 0 belW21)
      have y4W21 := cell_carry y4 (Carries.of 0 belW21)
      have g0W21 := cell_carry g0 (Carries.of 0 belW21)
      have g1W21 := cell_carry g1 (Carries.of 0 belW21)
      have HRSW21 := Lib.hid (owns_after HRSW2.out hbb)
      have TBW21 := Lib.hid (show Tb5 tb W21 from ⟨⟨e0, e1, e2, e3, e4⟩, ⟨f0, f1, f2, f3, f4⟩, hty⟩)
      clear hbb zt hty e0 e1 e2 e3 e4 f0 f1 f2 f3 f4
      refine hK.out _ _ ⟨x2W21, x3W21, x4W21, y2W21, y4W21, g0W21, g1W21⟩ (fun hHeld => ?_)
      clear hK K
      try simp only [Act.put, List.setIfInBounds_toArray, List.set_cons_zero, List.set_cons_succ]
      refine wpAnyH_ready (rs := [7, 8]) (by kernel_rfl) (by simp) ?_
      refine ar7 (fun K hK => ?_) ?_
      · rw [if_pos (by rfl)]
        refine wp_append_sigs (.tmp 36) (.tmp 38) rfl w3.heap.size lo _ n0 _ rfl HRSW21.out _ s1.sigs rfl (HSB.out.keep (Carries.of lo (hw3.trans (belW21.mono hw3.size)))) (by rw [← HP1.out.2.2.1]; omega) belW21.size ?_
        intro v' W22 hown hgrow
        have hown : W22.ownsRow w3.heap.size 118 2 v' (n0 + n1) (pairCells (sgX (s0.sigs ++ s1.sigs)) (sgY (s0.sigs ++ s1.sigs)) (n0 + n1)) := by
          have e := sigs_app s0.sigs s1.sigs
          rw [← HP0.out.2.2.1, ← HP1.out.2.2.1] at e
          rw [← e]; rw [← HP1.out.2.2.1] at hown; exact hown
        obtain ⟨a5, k5, rfl⟩ := owns_form hown
        have belW22 := belW21.grown hgrow belW21.size (fun g hg => (HRSW21.out.lt g hg).1)
        have zdW22 := hgrow.size
        have x2W22 := cell_carry x2 (Carries.of 0 belW22)
        have x3W22 := cell_carry x3 (Carries.of 0 belW22)
        have x4W22 := cell_carry x4 (Carries.of 0 belW22)
        have y2W22 := cell_carry y2 (Carries.of 0 belW22)
        have y4W22 := cell_carry y4 (Carries.of 0 belW22)
        have g0W22 := cell_carry g0 (Carries.of 0 belW22)
        have g1W22 := cell_carry g1 (Carries.of 0 belW22)
        have TBW22 := Lib.hid (TBW21.out.grown HRSW21.out hgrow (by decide))
        have HRSW22 := Lib.hid hown
        clear hown hgrow
        refine hK.out _ _ ⟨x2W22, x3W22, x4W22, y2W22, y4W22, g0W22, g1W22⟩ (fun hHeld => ?_)
        clear hK K
        try simp only [Act.put, List.setIfInBounds_toArray, List.set_cons_zero, List.set_cons_succ]
        refine rd8 (by kernel_rfl) (fun K hK => ?_)
        go_simp
        have hbb : Below W22.heap.size W22 (W22.alloc (.cells #[] 113)) := (Below.refl _ _).alloc (Nat.le_refl _) _
        have hown : (W22.alloc (.cells #[] 113)).ownsRow w3.heap.size 113 2 (.slice (some ⟨W22.heap.size, 0, none⟩) 0 0) 0 [] :=
          ⟨rfl, Or.inr ⟨W22.heap.size, 0, #[], rfl, belW22.size, heap_alloc_new W22 _, Nat.le_refl _, Nat.zero_le _, rfl, rfl⟩⟩
        generalize W22.alloc (.cells #[] 113) = W23 at hbb hown ⊢
        have belW23 := belW22.trans (hbb.mono belW22.size)
        have zdW23 := hbb.size
        have x2W23 := cell_carry x2 (Carries.of 0 belW23)
        have x3W23 := cell_carry x3 (Carries.of 0 belW23)
        have x4W23 := cell_carry x4 (Carries.of 0 belW23)
        have y2W23 := cell_carry y2 (Carries.of 0 belW23)
        have y4W23 := cell_carry y4 (Carries.of 0 belW23)
        have g0W23 := cell_carry g0 (Carries.of 0 belW23)
        have g1W23 := cell_carry g1 (Carries.of 0 belW23)
        have HRSW23 := Lib.hid (owns_after HRSW22.out hbb)
        have TBW23 := Lib.hid (TBW22.out.after hbb)
        have HRLW23 := Lib.hid hown
        clear hown hbb
        refine hK.out _ _ ⟨x2W23, x3W23, x4W23, y2W23, y4W23, g0W23, g1W23⟩ (fun hHeld => ?_)
        clear hK K
        try simp only [Act.put, List.setIfInBounds_toArray, List.set_cons_zero, List.set_cons_succ]
        refine rd11 (by kernel_rfl) (fun K hK => ?_)
        rw [if_pos (by rfl)]
        refine wp_append_labs (.tmp 40) (.tmp 42) rfl w3.heap.size lo _ 0 [] rfl HRLW23.out _ s0.labs rfl (HLA.out.keep (Carries.of lo (hw3.trans (belW23.mono hw3.size)))) (by rw [← HP0.out.2.2.2.1]; omega) belW23.size ?_
        intro v' W24 hown hgrow
        simp only [Nat.zero_add, List.nil_append] at hown
        rw [← HP0.out.2.2.2.1] at hown
        obtain ⟨a7, k7, rfl⟩ := owns_form hown
        have belW24 := belW23.grown hgrow belW23.size (fun g hg => (HRLW23.out.lt g hg).1)
        have zdW24 := hgrow.size
        have x2W24 := cell_carry x2 (Carries.of 0 belW24)
        have x3W24 := cell_carry x3 (Carries.of 0 belW24)
        have x4W24 := cell_carry x4 (Carries.of 0 belW24)
        have y2W24 := cell_carry y2 (Carries.of 0 belW24)
        have y4W24 := cell_carry y4 (Carries.of 0 belW24)
        have g0W24 := cell_carry g0 (Carries.of 0 belW24)
        have g1W24 := cell_carry g1 (Carries.of 0 belW24)
        have HRSW24 := Lib.hid (HRSW23.out.kept hgrow (rows_apartT HRSW23.out HRLW23.out (by decide)))
        have TBW24 := Lib.hid (TBW23.out.grown HRLW23.out hgrow (by decide))
        have HRLW24 := Lib.hid hown
        clear hown hgrow
        refine hK.out _ _ ⟨x2W24, x3W24, x4W24, y2W24, y4W24, g0W24, g1W24⟩ (fun hHeld => ?_)
        clear hK K
        try simp only [Act.put, List.setIfInBounds_toArray, List.set_cons_zero, List.set_cons_succ]
        obtain ⟨⟨cz0, cz1, cz2, cz3, cz4⟩, ⟨fz0, fz1, fz2, fz3, fz4⟩, hty⟩ := TBW24.out
        have zt := hty.lt
        refine tk17 (v := ?_) (by kernel_rfl) (by kernel_rfl) (by kernel_rfl) (by first | exact fun _ _ _ h => h | exact fun _ _ _ h => absurd h.1 (by simp)) (Or.inl ⟨by rfl, ?_⟩) (by assumption) ?_
        rotate_left 1
        focus (intro wx hSw; (try dsimp only at hSw); go_simp; try (with_reducible rfl))
        try simp only [Act.put, List.setIfInBounds_toArray, List.set_cons_zero, List.set_cons_succ]
        refine rd19 (by kernel_rfl) (fun K hK => ?_)
        go_simp
        generalize hWX : (((((W24.setCell ⟨tb, 0, none⟩ (.int .i64 P)).setCell ⟨tb, 1, none⟩ (.slice ua M uc)).setCell ⟨tb, 2, none⟩ (.slice a5 (n0 + n1) k5)).setCell ⟨tb, 3, none⟩ (.slice a7 l0 k7)).setCell ⟨tb, 4, none⟩ (.string (t0 ++ t1))) = WX
        obtain ⟨u0, u1, u2, u3, u4⟩ := put5_cells hWX cz0 cz1 cz2 cz3 cz4
        obtain ⟨h0, h1, h2, h3, h4, hTX, hzX⟩ := put5_more hWX fz0 fz1 fz2 fz3 fz4 hty
        have belX := put5_below hWX belW24 htl
        have HRSX := Lib.hid (put5_ownsT hWX HRSW24.out hty (by decide))
        have HRLX := Lib.hid (put5_ownsT hWX HRLW24.out hty (by decide))
        clear hWX
        refine hK.out _ _ ⟨cell_carry x2 (Carries.of 0 belX), cell_carry x3 (Carries.of 0 belX), cell_carry x4 (Carries.of 0 belX), cell_carry y2 (Carries.of 0 belX), cell_carry y4 (Carries.of 0 belX), cell_carry g0 (Carries.of 0 belX), cell_carry g1 (Carries.of 0 belX)⟩ (fun hHeld => ?_)
        clear hK K
        try simp only [Act.put, List.setIfInBounds_toArray, List.set_cons_zero, List.set_cons_succ]
        refine wpAnyH_done (by kernel_rfl) ?_ _
        exact HK _ _ _ _ _ _ _ _ _ _ _ _ _ _ _ _ _ _ tb WX a5 a7 k5 k7 belX htl (by omega) u0 h0 u1 h1 u2 h2 u3 h3 u4 h4 (Lib.hid hTX) HRSX HRLX
      refine ar8 (fun K hK => ?_) AllReadyH.nil
      go_simp
      have hbb : Below W21.heap.size W21 (W21.alloc (.cells #[] 113)) := (Below.refl _ _).alloc (Nat.le_refl _) _
      have hown : (W21.alloc (.cells #[] 113)).ownsRow w3.heap.size 113 2 (.slice (some ⟨W21.heap.size, 0, none⟩) 0 0) 0 [] :=
        ⟨rfl, Or.inr ⟨W21.heap.size, 0, #[], rfl, belW21.size, heap_alloc_new W21 _, Nat.le_refl _, Nat.zero_le _, rfl, rfl⟩⟩
      generalize W21.alloc (.cells #[] 113) = W25 at hbb hown ⊢
      have belW25 := belW21.trans (hbb.mono belW21.size)
      have zdW25 := hbb.size
      have x2W25 := cell_carry x2 (Carries.of 0 belW25)
      have x3W25 := cell_carry x3 (Carries.of 0 belW25)
      have x4W25 := cell_carry x4 (Carries.of 0 belW25)
      have y2W25 := cell_carry y2 (Carries.of 0 belW25)
      have y4W25 := cell_carry y4 (Carries.of 0 belW25)
      have g0W25 := cell_carry g0 (Carries.of 0 belW25)
      have g1W25 := cell_carry g1 (Carries.of 0 belW25)
      have HRSW25 := Lib.hid (owns_after HRSW21.out hbb)
      have TBW25 := Lib.hid (TBW21.out.after hbb)
      have HRLW25 := Lib.hid hown
      clear hown hbb
      refine hK.out _ _ ⟨x2W25, x3W25, x4W25, y2W25, y4W25, g0W25, g1W25⟩ (fun hHeld => ?_)
      clear hK K
      try simp only [Act.put, List.setIfInBounds_toArray, List.set_cons_zero, List.set_cons_succ]
      refine rd7 (by kernel_rfl) (fun K hK => ?_)
      rw [if_pos (by rfl)]
      refine wp_append_sigs (.tmp 36) (.tmp 38) rfl w3.heap.size lo _ n0 _ rfl HRSW25.out _ s1.sigs rfl (HSB.out.keep (Carries.of lo (hw3.trans (belW25.mono hw3.size)))) (by rw [← HP1.out.2.2.1]; omega) belW25.size ?_
      intro v' W26 hown hgrow
      have hown : W26.ownsRow w3.heap.size 118 2 v' (n0 + n1) (pairCells (sgX (s0.sigs ++ s1.sigs)) (sgY (s0.sigs ++ s1.sigs)) (n0 + n1)) := by
        have e := sigs_app s0.sigs s1.sigs
        rw [← HP0.out.2.2.1, ← HP1.out.2.2.1] at e
        rw [← e]; rw [← HP1.out.2.2.1] at hown; exact hown
      obtain ⟨a5, k5, rfl⟩ := owns_form hown
      have belW26 := belW25.grown hgrow belW25.size (fun g hg => (HRSW25.out.lt g hg).1)
      have zdW26 := hgrow.size
      have x2W26 := cell_carry x2 (Carries.of 0 belW26)
      have x3W26 := cell_carry x3 (Carries.of 0 belW26)
      have x4W26 := cell_carry x4 (Carries.of 0 belW26)
      have y2W26 := cell_carry y2 (Carries.of 0 belW26)
      have y4W26 := cell_carry y4 (Carries.of 0 belW26)
      have g0W26 := cell_carry g0 (Carries.of 0 belW26)
      have g1W26 := cell_carry g1 (Carries.of 0 belW26)
      have TBW26 := Lib.hid (TBW25.out.grown HRSW25.out hgrow (by decide))
      have HRLW26 := Lib.hid (HRLW25.out.kept hgrow (rows_apartT HRLW25.out HRSW25.out (by decide)))
      have HRSW26 := Lib.hid hown
      clear hown hgrow
      refine hK.out _ _ ⟨x2W26, x3W26, x4W26, y2W26, y4W26, g0W26, g1W26⟩ (fun hHeld => ?_)
      clear hK K
      try simp only [Act.put, List.setIfInBounds_toArray, List.set_cons_zero, List.set_cons_succ]
      refine rd11 (by kernel_rfl) (fun K hK => ?_)
      rw [if_pos (by rfl)]
      refine wp_append_labs (.tmp 40) (.tmp 42) rfl w3.heap.size lo _ 0 [] rfl HRLW26.out _ s0.labs rfl (HLA.out.keep (Carries.of lo (hw3.trans (belW26.mono hw3.size)))) (by rw [← HP0.out.2.2.2.1]; omega) belW26.size ?_
      intro v' W27 hown hgrow
      simp only [Nat.zero_add, List.nil_append] at hown
      rw [← HP0.out.2.2.2.1] at hown
      obtain ⟨a7, k7, rfl⟩ := owns_form hown
      have belW27 := belW26.grown hgrow belW26.size (fun g hg => (HRLW26.out.lt g hg).1)
      have zdW27 := hgrow.size
      have x2W27 := cell_carry x2 (Carries.of 0 belW27)
      have x3W27 := cell_carry x3 (Carries.of 0 belW27)
      have x4W27 := cell_carry x4 (Carries.of 0 belW27)
      have y2W27 := cell_carry y2 (Carries.of 0 belW27)
      have y4W27 := cell_carry y4 (Carries.of 0 belW27)
      have g0W27 := cell_carry g0 (Carries.of 0 belW27)
      have g1W27 := cell_carry g1 (Carries.of 0 belW27)
      have HRSW27 := Lib.hid (HRSW26.out.kept hgrow (rows_apartT HRSW26.out HRLW26.out (by decide)))
      have TBW27 := Lib.hid (TBW26.out.grown HRLW26.out hgrow (by decide))
      have HRLW27 := Lib.hid hown
      clear hown hgrow
      refine hK.out _ _ ⟨x2W27, x3W27, x4W27, y2W27, y4W27, g0W27, g1W27⟩ (fun hHeld => ?_)
      clear hK K
      try simp only [Act.put, List.setIfInBounds_toArray, List.set_cons_zero, List.set_cons_succ]
      obtain ⟨⟨cz0, cz1, cz2, cz3, cz4⟩, ⟨fz0, fz1, fz2, fz3, fz4⟩, hty⟩ := TBW27.out
      have zt := hty.lt
      refine tk17 (v := ?_) (by kernel_rfl) (by kernel_rfl) (by kernel_rfl) (by first | exact fun _ _ _ h => h | exact fun _ _ _ h => absurd h.1 (by simp)) (Or.inl ⟨by rfl, ?_⟩) (by assumption) ?_
      rotate_left 1
      focus (intro wx hSw; (try dsimp only at hSw); go_simp; try (with_reducible rfl))
      try simp only [Act.put, List.setIfInBounds_toArray, List.set_cons_zero, List.set_cons_succ]
      refine rd19 (by kernel_rfl) (fun K hK => ?_)
      go_simp
      generalize hWX : (((((W27.setCell ⟨tb, 0, none⟩ (.int .i64 P)).setCell ⟨tb, 1, none⟩ (.slice ua M uc)).setCell ⟨tb, 2, none⟩ (.slice a5 (n0 + n1) k5)).setCell ⟨tb, 3, none⟩ (.slice a7 l0 k7)).setCell ⟨tb, 4, none⟩ (.string (t0 ++ t1))) = WX
      obtain ⟨u0, u1, u2, u3, u4⟩ := put5_cells hWX cz0 cz1 cz2 cz3 cz4
      obtain ⟨h0, h1, h2, h3, h4, hTX, hzX⟩ := put5_more hWX fz0 fz1 fz2 fz3 fz4 hty
      have belX := put5_below hWX belW27 htl
      have HRSX := Lib.hid (put5_ownsT hWX HRSW27.out hty (by decide))
      have HRLX := Lib.hid (put5_ownsT hWX HRLW27.out hty (by decide))
      clear hWX
      refine hK.out _ _ ⟨cell_carry x2 (Carries.of 0 belX), cell_carry x3 (Carries.of 0 belX), cell_carry x4 (Carries.of 0 belX), cell_carry y2 (Carries.of 0 belX), cell_carry y4 (Carries.of 0 belX), cell_carry g0 (Carries.of 0 belX), cell_carry g1 (Carries.of 0 belX)⟩ (fun hHeld => ?_)
      clear hK K
      try simp only [Act.put, List.setIfInBounds_toArray, List.set_cons_zero, List.set_cons_succ]
      refine wpAnyH_done (by kernel_rfl) ?_ _
      exact HK _ _ _ _ _ _ _ _ _ _ _ _ _ _ _ _ _ _ tb WX a5 a7 k5 k7 belX htl (by omega) u0 h0 u1 h1 u2 h2 u3 h3 u4 h4 (Lib.hid hTX) HRSX HRLX
    refine ar8 (fun K hK => ?_) ?_
    · go_simp
      have hbb : Below W1.heap.size W1 (W1.alloc (.cells #[] 113)) := (Below.refl _ _).alloc (Nat.le_refl _) _
      have hown : (W1.alloc (.cells #[] 113)).ownsRow w3.heap.size 113 2 (.slice (some ⟨W1.heap.size, 0, none⟩) 0 0) 0 [] :=
        ⟨rfl, Or.inr ⟨W1.heap.size, 0, #[], rfl, belW1.size, heap_alloc_new W1 _, Nat.le_refl _, Nat.zero_le _, rfl, rfl⟩⟩
      generalize W1.alloc (.cells #[] 113) = W28 at hbb hown ⊢
      have belW28 := belW1.trans (hbb.mono belW1.size)
      have zdW28 := hbb.size
      have x2W28 := cell_carry x2 (Carries.of 0 belW28)
      have x3W28 := cell_carry x3 (Carries.of 0 belW28)
      have x4W28 := cell_carry x4 (Carries.of 0 belW28)
      have y2W28 := cell_carry y2 (Carries.of 0 belW28)
      have y4W28 := cell_carry y4 (Carries.of 0 belW28)
      have g0W28 := cell_carry g0 (Carries.of 0 belW28)
      have g1W28 := cell_carry g1 (Carries.of 0 belW28)
      have HRSW28 := Lib.hid (owns_after HRSW1.out hbb)
      have HRLW28 := Lib.hid hown
      clear hown hbb
      refine hK.out _ _ ⟨x2W28, x3W28, x4W28, y2W28, y4W28, g0W28, g1W28⟩ (fun hHeld => ?_)
      clear hK K
      try simp only [Act.put, List.setIfInBounds_toArray, List.set_cons_zero, List.set_cons_succ]
      refine wpAnyH_ready (rs := [4, 18]) (by kernel_rfl) (by simp) ?_
      refine ar4 (fun K hK => ?_) ?_
      · rw [if_pos (by rfl)]
        refine wp_append_sigs (.tmp 33) (.tmp 35) rfl w3.heap.size lo _ 0 [] rfl HRSW28.out _ s0.sigs rfl (HSA.out.keep (Carries.of lo (hw3.trans (belW28.mono hw3.size)))) (by rw [← HP0.out.2.2.1]; omega) belW28.size ?_
        intro v' W29 hown hgrow
        simp only [Nat.zero_add, List.nil_append] at hown
        rw [← HP0.out.2.2.1] at hown
        obtain ⟨a4, k4, rfl⟩ := owns_form hown
        have belW29 := belW28.grown hgrow belW28.size (fun g hg => (HRSW28.out.lt g hg).1)
        have zdW29 := hgrow.size
        have x2W29 := cell_carry x2 (Carries.of 0 belW29)
        have x3W29 := cell_carry x3 (Carries.of 0 belW29)
        have x4W29 := cell_carry x4 (Carries.of 0 belW29)
        have y2W29 := cell_carry y2 (Carries.of 0 belW29)
        have y4W29 := cell_carry y4 (Carries.of 0 belW29)
        have g0W29 := cell_carry g0 (Carries.of 0 belW29)
        have g1W29 := cell_carry g1 (Carries.of 0 belW29)
        have HRLW29 := Lib.hid (HRLW28.out.kept hgrow (rows_apartT HRLW28.out HRSW28.out (by decide)))
        have HRSW29 := Lib.hid hown
        clear hown hgrow
        refine hK.out _ _ ⟨x2W29, x3W29, x4W29, y2W29, y4W29, g0W29, g1W29⟩ (fun hHeld => ?_)
        clear hK K
        try simp only [Act.put, List.setIfInBounds_toArray, List.set_cons_zero, List.set_cons_succ]
        refine wpAnyH_ready (rs := [7, 18]) (by kernel_rfl) (by simp) ?_
        refine ar7 (fun K hK => ?_) ?_
        · rw [if_pos (by rfl)]
          refine wp_append_sigs (.tmp 36) (.tmp 38) rfl w3.heap.size lo _ n0 _ rfl HRSW29.out _ s1.sigs rfl (HSB.out.keep (Carries.of lo (hw3.trans (belW29.mono hw3.size)))) (by rw [← HP1.out.2.2.1]; omega) belW29.size ?_
          intro v' W30 hown hgrow
          have hown : W30.ownsRow w3.heap.size 118 2 v' (n0 + n1) (pairCells (sgX (s0.sigs ++ s1.sigs)) (sgY (s0.sigs ++ s1.sigs)) (n0 + n1)) := by
            have e := sigs_app s0.sigs s1.sigs
            rw [← HP0.out.2.2.1, ← HP1.out.2.2.1] at e
            rw [← e]; rw [← HP1.out.2.2.1] at hown; exact hown
          obtain ⟨a5, k5, rfl⟩ := owns_form hown
          have belW30 := belW29.grown hgrow belW29.size (fun g hg => (HRSW29.out.lt g hg).1)
          have zdW30 := hgrow.size
          have x2W30 := cell_carry x2 (Carries.of 0 belW30)
          have x3W30 := cell_carry x3 (Carries.of 0 belW30)
          have x4W30 := cell_carry x4 (Carries.of 0 belW30)
          have y2W30 := cell_carry y2 (Carries.of 0 belW30)
          have y4W30 := cell_carry y4 (Carries.of 0 belW30)
          have g0W30 := cell_carry g0 (Carries.of 0 belW30)
          have g1W30 := cell_carry g1 (Carries.of 0 belW30)
          have HRLW30 := Lib.hid (HRLW29.out.kept hgrow (rows_apartT HRLW29.out HRSW29.out (by decide)))
          have HRSW30 := Lib.hid hown
          clear hown hgrow
          refine hK.out _ _ ⟨x2W30, x3W30, x4W30, y2W30, y4W30, g0W30, g1W30⟩ (fun hHeld => ?_)
          clear hK K
          try simp only [Act.put, List.setIfInBounds_toArray, List.set_cons_zero, List.set_cons_succ]
          refine wpAnyH_ready (rs := [11, 18]) (by kernel_rfl) (by simp) ?_
          refine ar11 (fun K hK => ?_) ?_
          · rw [if_pos (by rfl)]
            refine wp_append_labs (.tmp 40) (.tmp 42) rfl w3.heap.size lo _ 0 [] rfl HRLW30.out _ s0.labs rfl (HLA.out.keep (Carries.of lo (hw3.trans (belW30.mono hw3.size)))) (by rw [← HP0.out.2.2.2.1]; omega) belW30.size ?_
            intro v' W31 hown hgrow
            simp only [Nat.zero_add, List.nil_append] at hown
            rw [← HP0.out.2.2.2.1] at hown
            obtain ⟨a7, k7, rfl⟩ := owns_form hown
            have belW31 := belW30.grown hgrow belW30.size (fun g hg => (HRLW30.out.lt g hg).1)
            have zdW31 := hgrow.size
            have x2W31 := cell_carry x2 (Carries.of 0 belW31)
            have x3W31 := cell_carry x3 (Carries.of 0 belW31)
            have x4W31 := cell_carry x4 (Carries.of 0 belW31)
            have y2W31 := cell_carry y2 (Carries.of 0 belW31)
            have y4W31 := cell_carry y4 (Carries.of 0 belW31)
            have g0W31 := cell_carry g0 (Carries.of 0 belW31)
            have g1W31 := cell_carry g1 (Carries.of 0 belW31)
            have HRSW31 := Lib.hid (HRSW30.out.kept hgrow (rows_apartT HRSW30.out HRLW30.out (by decide)))
            have HRLW31 := Lib.hid hown
            clear hown hgrow
            refine hK.out _ _ ⟨x2W31, x3W31, x4W31, y2W31, y4W31, g0W31, g1W31⟩ (fun hHeld => ?_)
            clear hK K
            try simp only [Act.put, List.setIfInBounds_toArray, List.set_cons_zero, List.set_cons_succ]
            refine tk17 (v := ?_) (by kernel_rfl) (by kernel_rfl) (by kernel_rfl) (by first | exact fun _ _ _ h => h | exact fun _ _ _ h => absurd h.1 (by simp)) (Or.inl ⟨by rfl, ?_⟩) (by assumption) ?_
            rotate_left 1
            focus (intro wx hSw; (try dsimp only at hSw); go_simp; try (with_reducible rfl))
            try simp only [Act.put, List.setIfInBounds_toArray, List.set_cons_zero, List.set_cons_succ]
            refine rd18 (by kernel_rfl) (fun K hK => ?_)
            go_simp
            have hbb : Below W31.heap.size W31 (W31.alloc (.cells #[.int .i64 0, .slice none 0 0, .slice none 0 0, .slice none 0 0, .string ⟨#[]⟩] 63)) := (Below.refl _ _).alloc (Nat.le_refl _) _
            have zt : W31.heap.size < (W31.alloc (.cells #[.int .i64 0, .slice none 0 0, .slice none 0 0, .slice none 0 0, .string ⟨#[]⟩] 63)).heap.size := by simp
            have hty : TyAt (W31.alloc (.cells #[.int .i64 0, .slice none 0 0, .slice none 0 0, .slice none 0 0, .string ⟨#[]⟩] 63)) W31.heap.size 63 := TyAt.new _ _ _
            have e0 : (W31.alloc (.cells #[.int .i64 0, .slice none 0 0, .slice none 0 0, .slice none 0 0, .string ⟨#[]⟩] 63)).cell? ⟨W31.heap.size, 0, none⟩ = some (.int .i64 0) := by simp
            have e1 : (W31.alloc (.cells #[.int .i64 0, .slice none 0 0, .slice none 0 0, .slice none 0 0, .string ⟨#[]⟩] 63)).cell? ⟨W31.heap.size, 1, none⟩ = some (.slice none 0 0) := by simp
            have e2 : (W31.alloc (.cells #[.int .i64 0, .slice none 0 0, .slice none 0 0, .slice none 0 0, .string ⟨#[]⟩] 63)).cell? ⟨W31.heap.size, 2, none⟩ = some (.slice none 0 0) := by simp
            have e3 : (W31.alloc (.cells #[.int .i64 0, .slice none 0 0, .slice none 0 0, .slice none 0 0, .string ⟨#[]⟩] 63)).cell? ⟨W31.heap.size, 3, none⟩ = some (.slice none 0 0) := by simp
            have e4 : (W31.alloc (.cells #[.int .i64 0, .slice none 0 0, .slice none 0 0, .slice none 0 0, .string ⟨#[]⟩] 63)).cell? ⟨W31.heap.size, 4, none⟩ = some (.string ⟨#[]⟩) := by simp
            have f0 : (W31.alloc (.cells #[.int .i64 0, .slice none 0 0, .slice none 0 0, .slice none 0 0, .string ⟨#[]⟩] 63)).frozen? ⟨W31.heap.size, 0, none⟩ = false := by simp
            have f1 : (W31.alloc (.cells #[.int .i64 0, .slice none 0 0, .slice none 0 0, .slice none 0 0, .string ⟨#[]⟩] 63)).frozen? ⟨W31.heap.size, 1, none⟩ = false := by simp
            have f2 : (W31.alloc (.cells #[.int .i64 0, .slice none 0 0, .slice none 0 0, .slice none 0 0, .string ⟨#[]⟩] 63)).frozen? ⟨W31.heap.size, 2, none⟩ = false := by simp
            have f3 : (W31.alloc (.cells #[.int .i64 0, .slice none 0 0, .slice none 0 0, .slice none 0 0, .string ⟨#[]⟩] 63)).frozen? ⟨W31.heap.size, 3, none⟩ = false := by simp
            have f4 : (W31.alloc (.cells #[.int .i64 0, .slice none 0 0, .slice none 0 0, .slice none 0 0, .string ⟨#[]⟩] 63)).frozen? ⟨W31.heap.size, 4, none⟩ = false := by simp
            generalize W31.alloc (.cells #[.int .i64 0, .slice none 0 0, .slice none 0 0, .slice none 0 0, .string ⟨#[]⟩] 63) = W32 at hbb zt hty e0 e1 e2 e3 e4 f0 f1 f2 f3 f4 ⊢
            obtain ⟨tb, htb⟩ : ∃ t, t = W31.heap.size := ⟨_, rfl⟩
            rw [← htb] at zt hty e0 e1 e2 e3 e4 f0 f1 f2 f3 f4 ⊢
            have htl : w3.heap.size ≤ tb := by have := belW31.size; omega
            clear htb
            have belW32 := belW31.trans (hbb.mono belW31.size)
            have zdW32 := hbb.size
            have x2W32 := cell_carry x2 (Carries.of 0 belW32)
            have x3W32 := cell_carry x3 (Carries.of 0 belW32)
            have x4W32 := cell_carry x4 (Carries.of 0 belW32)
            have y2W32 := cell_carry y2 (Carries.of 0 belW32)
            have y4W32 := cell_carry y4 (Carries.of 0 belW32)
            have g0W32 := cell_carry g0 (Carries.of 0 belW32)
            have g1W32 := cell_carry g1 (Carries.of 0 belW32)
            have HRSW32 := Lib.hid (owns_after HRSW31.out hbb)
            have HRLW32 := Lib.hid (owns_after HRLW31.out hbb)
            have TBW32 := Lib.hid (show Tb5 tb W32 from ⟨⟨e0, e1, e2, e3, e4⟩, ⟨f0, f1, f2, f3, f4⟩, hty⟩)
            clear hbb zt hty e0 e1 e2 e3 e4 f0 f1 f2 f3 f4
            refine hK.out _ _ ⟨x2W32, x3W32, x4W32, y2W32, y4W32, g0W32, g1W32⟩ (fun hHeld => ?_)
            clear hK K
            try simp only [Act.put, List.setIfInBounds_toArray, List.set_cons_zero, List.set_cons_succ]
            obtain ⟨⟨cz0, cz1, cz2, cz3, cz4⟩, ⟨fz0, fz1, fz2, fz3, fz4⟩, hty⟩ := TBW32.out
            have zt := hty.lt
            refine rd19 (by kernel_rfl) (fun K hK => ?_)
            go_simp
            generalize hWX : (((((W32.setCell ⟨tb, 0, none⟩ (.int .i64 P)).setCell ⟨tb, 1, none⟩ (.slice ua M uc)).setCell ⟨tb, 2, none⟩ (.slice a5 (n0 + n1) k5)).setCell ⟨tb, 3, none⟩ (.slice a7 l0 k7)).setCell ⟨tb, 4, none⟩ (.string (t0 ++ t1))) = WX
            obtain ⟨u0, u1, u2, u3, u4⟩ := put5_cells hWX cz0 cz1 cz2 cz3 cz4
            obtain ⟨h0, h1, h2, h3, h4, hTX, hzX⟩ := put5_more hWX fz0 fz1 fz2 fz3 fz4 hty
            have belX := put5_below hWX belW32 htl
            have HRSX := Lib.hid (put5_ownsT hWX HRSW32.out hty (by decide))
            have HRLX := Lib.hid (put5_ownsT hWX HRLW32.out hty (by decide))
            clear hWX
            refine hK.out _ _ ⟨cell_carry x2 (Carries.of 0 belX), cell_carry x3 (Carries.of 0 belX), cell_carry x4 (Carries.of 0 belX), cell_carry y2 (Carries.of 0 belX), cell_carry y4 (Carries.of 0 belX), cell_carry g0 (Carries.of 0 belX), cell_carry g1 (Carries.of 0 belX)⟩ (fun hHeld => ?_)
            clear hK K
            try simp only [Act.put, List.setIfInBounds_toArray, List.set_cons_zero, List.set_cons_succ]
            refine wpAnyH_done (by kernel_rfl) ?_ _
            exact HK _ _ _ _ _ _ _ _ _ _ _ _ _ _ _ _ _ _ tb WX a5 a7 k5 k7 belX htl (by omega) u0 h0 u1 h1 u2 h2 u3 h3 u4 h4 (Lib.hid hTX) HRSX HRLX
          refine ar18 (fun K hK => ?_) AllReadyH.nil
          go_simp
          have hbb : Below W30.heap.size W30 (W30.alloc (.cells #[.int .i64 0, .slice none 0 0, .slice none 0 0, .slice none 0 0, .string ⟨#[]⟩] 63)) := (Below.refl _ _).alloc (Nat.le_refl _) _
          have zt : W30.heap.size < (W30.alloc (.cells #[.int .i64 0, .slice none 0 0, .slice none 0 0, .slice none 0 0, .string ⟨#[]⟩] 63)).heap.size := by simp
          have hty : TyAt (W30.alloc (.cells #[.int .i64 0, .slice none 0 0, .slice none 0 0, .slice none 0 0, .string ⟨#[]⟩] 63)) W30.heap.size 63 := TyAt.new _ _ _
          have e0 : (W30.alloc (.cells #[.int .i64 0, .slice none 0 0, .slice none 0 0, .slice none 0 0, .string ⟨#[]⟩] 63)).cell? ⟨W30.heap.size, 0, none⟩ = some (.int .i64 0) := by simp
          have e1 : (W30.alloc (.cells #[.int .i64 0, .slice none 0 0, .slice none 0 0, .slice none 0 0, .string ⟨#[]⟩] 63)).cell? ⟨W30.heap.size, 1, none⟩ = some (.slice none 0 0) := by simp
          have e2 : (W30.alloc (.cells #[.int .i64 0, .slice none 0 0, .slice none 0 0, .slice none 0 0, .string ⟨#[]⟩] 63)).cell? ⟨W30.heap.size, 2, none⟩ = some (.slice none 0 0) := by simp
          have e3 : (W30.alloc (.cells #[.int .i64 0, .slice none 0 0, .slice none 0 0, .slice none 0 0, .string ⟨#[]⟩] 63)).cell? ⟨W30.heap.size, 3, none⟩ = some (.slice none 0 0) := by simp
          have e4 : (W30.alloc (.cells #[.int .i64 0, .slice none 0 0, .slice none 0 0, .slice none 0 0, .string ⟨#[]⟩] 63)).cell? ⟨W30.heap.size, 4, none⟩ = some (.string ⟨#[]⟩) := by simp
          have f0 : (W30.alloc (.cells #[.int .i64 0, .slice none 0 0, .slice none 0 0, .slice none 0 0, .string ⟨#[]⟩] 63)).frozen? ⟨W30.heap.size, 0, none⟩ = false := by simp
          have f1 : (W30.alloc (.cells #[.int .i64 0, .slice none 0 0, .slice none 0 0, .slice none 0 0, .string ⟨#[]⟩] 63)).frozen? ⟨W30.heap.size, 1, none⟩ = false := by simp
          have f2 : (W30.alloc (.cells #[.int .i64 0, .slice none 0 0, .slice none 0 0, .slice none 0 0, .string ⟨#[]⟩] 63)).frozen? ⟨W30.heap.size, 2, none⟩ = false := by simp
          have f3 : (W30.alloc (.cells #[.int .i64 0, .slice none 0 0, .slice none 0 0, .slice none 0 0, .string ⟨#[]⟩] 63)).frozen? ⟨W30.heap.size, 3, none⟩ = false := by simp
          have f4 : (W30.alloc (.cells #[.int .i64 0, .slice none 0 0, .slice none 0 0, .slice none 0 0, .string ⟨#[]⟩] 63)).frozen? ⟨W30.heap.size, 4, none⟩ = false := by simp
          generalize W30.alloc (.cells #[.int .i64 0, .slice none 0 0, .slice none 0 0, .slice none 0 0, .string ⟨#[]⟩] 63) = W33 at hbb zt hty e0 e1 e2 e3 e4 f0 f1 f2 f3 f4 ⊢
          obtain ⟨tb, htb⟩ : ∃ t, t = W30.heap.size := ⟨_, rfl⟩
          rw [← htb] at zt hty e0 e1 e2 e3 e4 f0 f1 f2 f3 f4 ⊢
          have htl : w3.heap.size ≤ tb := by have := belW30.size; omega
          clear htb
          have belW33 := belW30.trans (hbb.mono belW30.size)
          have zdW33 := hbb.size
          have x2W33 := cell_carry x2 (Carries.of 0 belW33)
          have x3W33 := cell_carry x3 (Carries.of 0 belW33)
          have x4W33 := cell_carry x4 (Carries.of 0 belW33)
          have y2W33 := cell_carry y2 (Carries.of 0 belW33)
          have y4W33 := cell_carry y4 (Carries.of 0 belW33)
          have g0W33 := cell_carry g0 (Carries.of 0 belW33)
          have g1W33 := cell_carry g1 (Carries.of 0 belW33)
          have HRSW33 := Lib.hid (owns_after HRSW30.out hbb)
          have HRLW33 := Lib.hid (owns_after HRLW30.out hbb)
          have TBW33 := Lib.hid (show Tb5 tb W33 from ⟨⟨e0, e1, e2, e3, e4⟩, ⟨f0, f1, f2, f3, f4⟩, hty⟩)
          clear hbb zt hty e0 e1 e2 e3 e4 f0 f1 f2 f3 f4
          refine hK.out _ _ ⟨x2W33, x3W33, x4W33, y2W33, y4W33, g0W33, g1W33⟩ (fun hHeld => ?_)
          clear hK K
          try simp only [Act.put, List.setIfInBounds_toArray, List.set_cons_zero, List.set_cons_succ]
          refine rd11 (by kernel_rfl) (fun K hK => ?_)
          rw [if_pos (by rfl)]
          refine wp_append_labs (.tmp 40) (.tmp 42) rfl w3.heap.size lo _ 0 [] rfl HRLW33.out _ s0.labs rfl (HLA.out.keep (Carries.of lo (hw3.trans (belW33.mono hw3.size)))) (by rw [← HP0.out.2.2.2.1]; omega) belW33.size ?_
          intro v' W34 hown hgrow
          simp only [Nat.zero_add, List.nil_append] at hown
          rw [← HP0.out.2.2.2.1] at hown
          obtain ⟨a7, k7, rfl⟩ := owns_form hown
          have belW34 := belW33.grown hgrow belW33.size (fun g hg => (HRLW33.out.lt g hg).1)
          have zdW34 := hgrow.size
          have x2W34 := cell_carry x2 (Carries.of 0 belW34)
          have x3W34 := cell_carry x3 (Carries.of 0 belW34)
          have x4W34 := cell_carry x4 (Carries.of 0 belW34)
          have y2W34 := cell_carry y2 (Carries.of 0 belW34)
          have y4W34 := cell_carry y4 (Carries.of 0 belW34)
          have g0W34 := cell_carry g0 (Carries.of 0 belW34)
          have g1W34 := cell_carry g1 (Carries.of 0 belW34)
          have HRSW34 := Lib.hid (HRSW33.out.kept hgrow (rows_apartT HRSW33.out HRLW33.out (by decide)))
          have TBW34 := Lib.hid (TBW33.out.grown HRLW33.out hgrow (by decide))
          have HRLW34 := Lib.hid hown
          clear hown hgrow
          refine hK.out _ _ ⟨x2W34, x3W34, x4W34, y2W34, y4W34, g0W34, g1W34⟩ (fun hHeld => ?_)
          clear hK K
          try simp only [Act.put, List.setIfInBounds_toArray, List.set_cons_zero, List.set_cons_succ]
          obtain ⟨⟨cz0, cz1, cz2, cz3, cz4⟩, ⟨fz0, fz1, fz2, fz3, fz4⟩, hty⟩ := TBW34.out
          have zt := hty.lt
          refine tk17 (v := ?_) (by kernel_rfl) (by kernel_rfl) (by kernel_rfl) (by first | exact fun _ _ _ h => h | exact fun _ _ _ h => absurd h.1 (by simp)) (Or.inl ⟨by rfl, ?_⟩) (by assumption) ?_
          rotate_left 1
          focus (intro wx hSw; (try dsimp only at hSw); go_simp; try (with_reducible rfl))
          try simp only [Act.put, List.setIfInBounds_toArray, List.set_cons_zero, List.set_cons_succ]
          refine rd19 (by kernel_rfl) (fun K hK => ?_)
          go_simp
          generalize hWX : (((((W34.setCell ⟨tb, 0, none⟩ (.int .i64 P)).setCell ⟨tb, 1, none⟩ (.slice ua M uc)).setCell ⟨tb, 2, none⟩ (.slice a5 (n0 + n1) k5)).setCell ⟨tb, 3, none⟩ (.slice a7 l0 k7)).setCell ⟨tb, 4, none⟩ (.string (t0 ++ t1))) = WX
          obtain ⟨u0, u1, u2, u3, u4⟩ := put5_cells hWX cz0 cz1 cz2 cz3 cz4
          obtain ⟨h0, h1, h2, h3, h4, hTX, hzX⟩ := put5_more hWX fz0 fz1 fz2 fz3 fz4 hty
          have belX := put5_below hWX belW34 htl
          have HRSX := Lib.hid (put5_ownsT hWX HRSW34.out hty (by decide))
          have HRLX := Lib.hid (put5_ownsT hWX HRLW34.out hty (by decide))
          clear hWX
          refine hK.out _ _ ⟨cell_carry x2 (Carries.of 0 belX), cell_carry x3 (Carries.of 0 belX), cell_carry x4 (Carries.of 0 belX), cell_carry y2 (Carries.of 0 belX), cell_carry y4 (Carries.of 0 belX), cell_carry g0 (Carries.of 0 belX), cell_carry g1 (Carries.of 0 belX)⟩ (fun hHeld => ?_)
          clear hK K
          try simp only [Act.put, List.setIfInBounds_toArray, List.set_cons_zero, List.set_cons_succ]
          refine wpAnyH_done (by kernel_rfl) ?_ _
          exact HK _ _ _ _ _ _ _ _ _ _ _ _ _ _ _ _ _ _ tb WX a5 a7 k5 k7 belX htl (by omega) u0 h0 u1 h1 u2 h2 u3 h3 u4 h4 (Lib.hid hTX) HRSX HRLX
        refine ar18 (fun K hK => ?_) AllReadyH.nil
        go_simp
        have hbb : Below W29.heap.size W29 (W29.alloc (.cells #[.int .i64 0, .slice none 0 0, .slice none 0 0, .slice none 0 0, .string ⟨#[]⟩] 63)) := (Below.refl _ _).alloc (Nat.le_refl _) _
        have zt : W29.heap.size < (W29.alloc (.cells #[.int .i64 0, .slice none 0 0, .slice none 0 0, .slice none 0 0, .string ⟨#[]⟩] 63)).heap.size := by simp
        have hty : TyAt (W29.alloc (.cells #[.int .i64 0, .slice none 0 0, .slice none 0 0, .slice none 0 0, .string ⟨#[]⟩] 63)) W29.heap.size 63 := TyAt.new _ _ _
        have e0 : (W29.alloc (.cells #[.int .i64 0, .slice none 0 0, .slice none 0 0, .slice none 0 0, .string ⟨#[]⟩] 63)).cell? ⟨W29.heap.size, 0, none⟩ = some (.int .i64 0) := by simp
        have e1 : (W29.alloc (.cells #[.int .i64 0, .slice none 0 0, .slice none 0 0, .slice none 0 0, .string ⟨#[]⟩] 63)).cell? ⟨W29.heap.size, 1, none⟩ = some (.slice none 0 0) := by simp
        have e2 : (W29.alloc (.cells #[.int .i64 0, .slice none 0 0, .slice none 0 0, .slice none 0 0, .string ⟨#[]⟩] 63)).cell? ⟨W29.heap.size, 2, none⟩ = some (.slice none 0 0) := by simp
        have e3 : (W29.alloc (.cells #[.int .i64 0, .slice none 0 0, .slice none 0 0, .slice none 0 0, .string ⟨#[]⟩] 63)).cell? ⟨W29.heap.size, 3, none⟩ = some (.slice none 0 0) := by simp
        have e4 : (W29.alloc (.cells #[.int .i64 0, .slice none 0 0, .slice none 0 0, .slice none 0 0, .string ⟨#[]⟩] 63)).cell? ⟨W29.heap.size, 4, none⟩ = some (.string ⟨#[]⟩) := by simp
        have f0 : (W29.alloc (.cells #[.int .i64 0, .slice none 0 0, .slice none 0 0, .slice none 0 0, .string ⟨#[]⟩] 63)).frozen? ⟨W29.heap.size, 0, none⟩ = false := by simp
        have f1 : (W29.alloc (.cells #[.int .i64 0, .slice none 0 0, .slice none 0 0, .slice none 0 0, .string ⟨#[]⟩] 63)).frozen? ⟨W29.heap.size, 1, none⟩ = false := by simp
        have f2 : (W29.alloc (.cells #[.int .i64 0, .slice none 0 0, .slice none 0 0, .slice none 0 0, .string ⟨#[]⟩] 63)).frozen? ⟨W29.heap.size, 2, none⟩ = false := by simp
        have f3 : (W29.alloc (.cells #[.int .i64 0, .slice none 0 0, .slice none 0 0, .slice none 0 0, .string ⟨#[]⟩] 63)).frozen? ⟨W29.heap.size, 3, none⟩ = false := by simp
        have f4 : (W29.alloc (.cells #[.int .i64 0, .slice none 0 0, .slice none 0 0, .slice none 0 0, .string ⟨#[]⟩] 63)).frozen? ⟨W29.heap.size, 4, none⟩ = false := by simp
        generalize W29.alloc (.cells #[.int .i64 0, .slice none 0 0, .slice none 0 0, .slice none 0 0, .string ⟨#[]⟩] 63) = W35 at hbb zt hty e0 e1 e2 e3 e4 f0 f1 f2 f3 f4 ⊢
        obtain ⟨tb, htb⟩ : ∃ t, t = W29.heap.size := ⟨_, rfl⟩
        rw [← htb] at zt hty e0 e1 e2 e3 e4 f0 f1 f2 f3 f4 ⊢
        have htl : w3.heap.size ≤ tb := by have := belW29.size; omega
        clear htb
        have belW35 := belW29.trans (hbb.mono belW29.size)
        have zdW35 := hbb.size
        have x2W35 := cell_carry x2 (Carries.of 0 belW35)
        have x3W35 := cell_carry x3 (Carries.of 0 belW35)
        have x4W35 := cell_carry x4 (Carries.of 0 belW35)
        have y2W35 := cell_carry y2 (Carries.of 0 belW35)
        have y4W35 := cell_carry y4 (Carries.of 0 belW35)
        have g0W35 := cell_carry g0 (Carries.of 0 belW35)
        have g1W35 := cell_carry g1 (Carries.of 0 belW35)
        have HRSW35 := Lib.hid (owns_after HRSW29.out hbb)
        have HRLW35 := Lib.hid (owns_after HRLW29.out hbb)
        have TBW35 := Lib.hid (show Tb5 tb W35 from ⟨⟨e0, e1, e2, e3, e4⟩, ⟨f0, f1, f2, f3, f4⟩, hty⟩)
        clear hbb zt hty e0 e1 e2 e3 e4 f0 f1 f2 f3 f4
        refine hK.out _ _ ⟨x2W35, x3W35, x4W35, y2W35, y4W35, g0W35, g1W35⟩ (fun hHeld => ?_)
        clear hK K
        try simp only [Act.put, List.setIfInBounds_toArray, List.set_cons_zero, List.set_cons_succ]
        refine rd7 (by kernel_rfl) (fun K hK => ?_)
        rw [if_pos (by rfl)]
        refine wp_append_sigs (.tmp 36) (.tmp 38) rfl w3.heap.size lo _ n0 _ rfl HRSW35.out _ s1.sigs rfl (HSB.out.keep (Carries.of lo (hw3.trans (belW35.mono hw3.size)))) (by rw [← HP1.out.2.2.1]; omega) belW35.size ?_
        intro v' W36 hown hgrow
        have hown : W36.ownsRow w3.heap.size 118 2 v' (n0 + n1) (pairCells (sgX (s0.sigs ++ s1.sigs)) (sgY (s0.sigs ++ s1.sigs)) (n0 + n1)) := by
          have e := sigs_app s0.sigs s1.sigs
          rw [← HP0.out.2.2.1, ← HP1.out.2.2.1] at e
          rw [← e]; rw [← HP1.out.2.2.1] at hown; exact hown
        obtain ⟨a5, k5, rfl⟩ := owns_form hown
        have belW36 := belW35.grown hgrow belW35.size (fun g hg => (HRSW35.out.lt g hg).1)
        have zdW36 := hgrow.size
        have x2W36 := cell_carry x2 (Carries.of 0 belW36)
        have x3W36 := cell_carry x3 (Carries.of 0 belW36)
        have x4W36 := cell_carry x4 (Carries.of 0 belW36)
        have y2W36 := cell_carry y2 (Carries.of 0 belW36)
        have y4W36 := cell_carry y4 (Carries.of 0 belW36)
        have g0W36 := cell_carry g0 (Carries.of 0 belW36)
        have g1W36 := cell_carry g1 (Carries.of 0 belW36)
        have HRLW36 := Lib.hid (HRLW35.out.kept hgrow (rows_apartT HRLW35.out HRSW35.out (by decide)))
        have TBW36 := Lib.hid (TBW35.out.grown HRSW35.out hgrow (by decide))
        have HRSW36 := Lib.hid hown
        clear hown hgrow
        refine hK.out _ _ ⟨x2W36, x3W36, x4W36, y2W36, y4W36, g0W36, g1W36⟩ (fun hHeld => ?_)
        clear hK K
        try simp only [Act.put, List.setIfInBounds_toArray, List.set_cons_zero, List.set_cons_succ]
        refine rd11 (by kernel_rfl) (fun K hK => ?_)
        rw [if_pos (by rfl)]
        refine wp_append_labs (.tmp 40) (.tmp 42) rfl w3.heap.size lo _ 0 [] rfl HRLW36.out _ s0.labs rfl (HLA.out.keep (Carries.of lo (hw3.trans (belW36.mono hw3.size)))) (by rw [← HP0.out.2.2.2.1]; omega) belW36.size ?_
        intro v' W37 hown hgrow
        simp only [Nat.zero_add, List.nil_append] at hown
        rw [← HP0.out.2.2.2.1] at hown
        obtain ⟨a7, k7, rfl⟩ := owns_form hown
        have belW37 := belW36.grown hgrow belW36.size (fun g hg => (HRLW36.out.lt g hg).1)
        have zdW37 := hgrow.size
        have x2W37 := cell_carry x2 (Carries.of 0 belW37)
        have x3W37 := cell_carry x3 (Carries.of 0 belW37)
        have x4W37 := cell_carry x4 (Carries.of 0 belW37)
        have y2W37 := cell_carry y2 (Carries.of 0 belW37)
        have y4W37 := cell_carry y4 (Carries.of 0 belW37)
        have g0W37 := cell_carry g0 (Carries.of 0 belW37)
        have g1W37 := cell_carry g1 (Carries.of 0 belW37)
        have HRSW37 := Lib.hid (HRSW36.out.kept hgrow (rows_apartT HRSW36.out HRLW36.out (by decide)))
        have TBW37 := Lib.hid (TBW36.out.grown HRLW36.out hgrow (by decide))
        have HRLW37 := Lib.hid hown
        clear hown hgrow
        refine hK.out _ _ ⟨x2W37, x3W37, x4W37, y2W37, y4W37, g0W37, g1W37⟩ (fun hHeld => ?_)
        clear hK K
        try simp only [Act.put, List.setIfInBounds_toArray, List.set_cons_zero, List.set_cons_succ]
        obtain ⟨⟨cz0, cz1, cz2, cz3, cz4⟩, ⟨fz0, fz1, fz2, fz3, fz4⟩, hty⟩ := TBW37.out
        have zt := hty.lt
        refine tk17 (v := ?_) (by kernel_rfl) (by kernel_rfl) (by kernel_rfl) (by first | exact fun _ _ _ h => h | exact fun _ _ _ h => absurd h.1 (by simp)) (Or.inl ⟨by rfl, ?_⟩) (by assumption) ?_
        rotate_left 1
        focus (intro wx hSw; (try dsimp only at hSw); go_simp; try (with_reducible rfl))
        try simp only [Act.put, List.setIfInBounds_toArray, List.set_cons_zero, List.set_cons_succ]
        refine rd19 (by kernel_rfl) (fun K hK => ?_)
        go_simp
        generalize hWX : (((((W37.setCell ⟨tb, 0, none⟩ (.int .i64 P)).setCell ⟨tb, 1, none⟩ (.slice ua M uc)).setCell ⟨tb, 2, none⟩ (.slice a5 (n0 + n1) k5)).setCell ⟨tb, 3, none⟩ (.slice a7 l0 k7)).setCell ⟨tb, 4, none⟩ (.string (t0 ++ t1))) = WX
        obtain ⟨u0, u1, u2, u3, u4⟩ := put5_cells hWX cz0 cz1 cz2 cz3 cz4
        obtain ⟨h0, h1, h2, h3, h4, hTX, hzX⟩ := put5_more hWX fz0 fz1 fz2 fz3 fz4 hty
        have belX := put5_below hWX belW37 htl
        have HRSX := Lib.hid (put5_ownsT hWX HRSW37.out hty (by decide))
        have HRLX := Lib.hid (put5_ownsT hWX HRLW37.out hty (by decide))
        clear hWX
        refine hK.out _ _ ⟨cell_carry x2 (Carries.of 0 belX), cell_carry x3 (Carries.of 0 belX), cell_carry x4 (Carries.of 0 belX), cell_carry y2 (Carries.of 0 belX), cell_carry y4 (Carries.of 0 belX), cell_carry g0 (Carries.of 0 belX), cell_carry g1 (Carries.of 0 belX)⟩ (fun hHeld => ?_)
        clear hK K
        try simp only [Act.put, List.setIfInBounds_toArray, List.set_cons_zero, List.set_cons_succ]
        refine wpAnyH_done (by kernel_rfl) ?_ _
        exact HK _ _ _ _ _ _ _ _ _ _ _ _ _ _ _ _ _ _ tb WX a5 a7 k5 k7 belX htl (by omega) u0 h0 u1 h1 u2 h2 u3 h3 u4 h4 (Lib.hid hTX) HRSX HRLX
      refine ar18 (fun K hK => ?_) AllReadyH.nil
      go_simp
      have hbb : Below W28.heap.size W28 (W28.alloc (.cells #[.int .i64 0, .slice none 0 0, .slice none 0 0, .slice none 0 0, .string ⟨#[]⟩] 63)) := (Below.refl _ _).alloc (Nat.le_refl _) _
      have zt : W28.heap.size < (W28.alloc (.cells #[.int .i64 0, .slice none 0 0, .slice none 0 0, .slice none 0 0, .string ⟨#[]⟩] 63)).heap.size := by simp
      have hty : TyAt (W28.alloc (.cells #[.int .i64 0, .slice none 0 0, .slice none 0 0, .slice none 0 0, .string ⟨#[]⟩] 63)) W28.heap.size 63 := TyAt.new _ _ _
      have e0 : (W28.alloc (.cells #[.int .i64 0, .slice none 0 0, .slice none 0 0, .slice none 0 0, .string ⟨#[]⟩] 63)).cell? ⟨W28.heap.size, 0, none⟩ = some (.int .i64 0) := by simp
      have e1 : (W28.alloc (.cells #[.int .i64 0, .slice none 0 0, .slice none 0 0, .slice none 0 0, .string ⟨#[]⟩] 63)).cell? ⟨W28.heap.size, 1, none⟩ = some (.slice none 0 0) := by simp
      have e2 : (W28.alloc (.cells #[.int .i64 0, .slice none 0 0, .slice none 0 0, .slice none 0 0, .string ⟨#[]⟩] 63)).cell? ⟨W28.heap.size, 2, none⟩ = some (.slice none 0 0) := by simp
      have e3 : (W28.alloc (.cells #[.int .i64 0, .slice none 0 0, .slice none 0 0, .slice none 0 0, .string ⟨#[]⟩] 63)).cell? ⟨W28.heap.size, 3, none⟩ = some (.slice none 0 0) := by simp
      have e4 : (W28.alloc (.cells #[.int .i64 0, .slice none 0 0, .slice none 0 0, .slice none 0 0, .string ⟨#[]⟩] 63)).cell? ⟨W28.heap.size, 4, none⟩ = some (.string ⟨#[]⟩) := by simp
      have f0 : (W28.alloc (.cells #[.int .i64 0, .slice none 0 0, .slice none 0 0, .slice none 0 0, .string ⟨#[]⟩] 63)).frozen? ⟨W28.heap.size, 0, none⟩ = false := by simp
      have f1 : (W28.alloc (.cells #[.int .i64 0, .slice none 0 0, .slice none 0 0, .slice none 0 0, .string ⟨#[]⟩] 63)).frozen? ⟨W28.heap.size, 1, none⟩ = false := by simp
      have f2 : (W28.alloc (.cells #[.int .i64 0, .slice none 0 0, .slice none 0 0, .slice none 0 0, .string ⟨#[]⟩] 63)).frozen? ⟨W28.heap.size, 2, none⟩ = false := by simp
      have f3 : (W28.alloc (.cells #[.int .i64 0, .slice none 0 0, .slice none 0 0, .slice none 0 0, .string ⟨#[]⟩] 63)).frozen? ⟨W28.heap.size, 3, none⟩ = false := by simp
      have f4 : (W28.alloc (.cells #[.int .i64 0, .slice none 0 0, .slice none 0 0, .slice none 0 0, .string ⟨#[]⟩] 63)).frozen? ⟨W28.heap.size, 4, none⟩ = false := by simp
      generalize W28.alloc (.cells #[.int .i64 0, .slice none 0 0, .slice none 0 0, .slice none 0 0, .string ⟨#[]⟩] 63) = W38 at hbb zt hty e0 e1 e2 e3 e4 f0 f1 f2 f3 f4 ⊢
      obtain ⟨tb, htb⟩ : ∃ t, t = W28.heap.size := ⟨_, rfl⟩
      rw [← htb] at zt hty e0 e1 e2 e3 e4 f0 f1 f2 f3 f4 ⊢
      have htl : w3.heap.size ≤ tb := by have := belW28.size; omega
      clear htb
      have belW38 := belW28.trans (hbb.mono belW28.size)
      have zdW38 := hbb.size
      have x2W38 := cell_carry x2 (Carries.of 0 belW38)
      have x3W38 := cell_carry x3 (Carries.of 0 belW38)
      have x4W38 := cell_carry x4 (Carries.of 0 belW38)
      have y2W38 := cell_carry y2 (Carries.of 0 belW38)
      have y4W38 := cell_carry y4 (Carries.of 0 belW38)
      have g0W38 := cell_carry g0 (Carries.of 0 belW38)
      have g1W38 := cell_carry g1 (Carries.of 0 belW38)
      have HRSW38 := Lib.hid (owns_after HRSW28.out hbb)
      have HRLW38 := Lib.hid (owns_after HRLW28.out hbb)
      have TBW38 := Lib.hid (show Tb5 tb W38 from ⟨⟨e0, e1, e2, e3, e4⟩, ⟨f0, f1, f2, f3, f4⟩, hty⟩)
      clear hbb zt hty e0 e1 e2 e3 e4 f0 f1 f2 f3 f4
      refine hK.out _ _ ⟨x2W38, x3W38, x4W38, y2W38, y4W38, g0W38, g1W38⟩ (fun hHeld => ?_)
      clear hK K
      try simp only [Act.put, List.setIfInBounds_toArray, List.set_cons_zero, List.set_cons_succ]
      refine rd4 (by kernel_rfl) (fun K hK => ?_)
      rw [if_pos (by rfl)]
      refine wp_append_sigs (.tmp 33) (.tmp 35) rfl w3.heap.size lo _ 0 [] rfl HRSW38.out _ s0.sigs rfl (HSA.out.keep (Carries.of lo (hw3.trans (belW38.mono hw3.size)))) (by rw [← HP0.out.2.2.1]; omega) belW38.size ?_
      intro v' W39 hown hgrow
      simp only [Nat.zero_add, List.nil_append] at hown
      rw [← HP0.out.2.2.1] at hown
      obtain ⟨a4, k4, rfl⟩ := owns_form hown
      have belW39 := belW38.grown hgrow belW38.size (fun g hg => (HRSW38.out.lt g hg).1)
      have zdW39 := hgrow.size
      have x2W39 := cell_carry x2 (Carries.of 0 belW39)
      have x3W39 := cell_carry x3 (Carries.of 0 belW39)
      have x4W39 := cell_carry x4 (Carries.of 0 belW39)
      have y2W39 := cell_carry y2 (Carries.of 0 belW39)
      have y4W39 := cell_carry y4 (Carries.of 0 belW39)
      have g0W39 := cell_carry g0 (Carries.of 0 belW39)
      have g1W39 := cell_carry g1 (Carries.of 0 belW39)
      have HRLW39 := Lib.hid (HRLW38.out.kept hgrow (rows_apartT HRLW38.out HRSW38.out (by decide)))
      have TBW39 := Lib.hid (TBW38.out.grown HRSW38.out hgrow (by decide))
      have HRSW39 := Lib.hid hown
      clear hown hgrow
      refine hK.out _ _ ⟨x2W39, x3W39, x4W39, y2W39, y4W39, g0W39, g1W39⟩ (fun hHeld => ?_)
      clear hK K
      try simp only [Act.put, List.setIfInBounds_toArray, List.set_cons_zero, List.set_cons_succ]
      refine rd7 (by kernel_rfl) (fun K hK => ?_)
      rw [if_pos (by rfl)]
      refine wp_append_sigs (.tmp 36) (.tmp 38) rfl w3.heap.size lo _ n0 _ rfl HRSW39.out _ s1.sigs rfl (HSB.out.keep (Carries.of lo (hw3.trans (belW39.mono hw3.size)))) (by rw [← HP1.out.2.2.1]; omega) belW39.size ?_
      intro v' W40 hown hgrow
      have hown : W40.ownsRow w3.heap.size 118 2 v' (n0 + n1) (pairCells (sgX (s0.sigs ++ s1.sigs)) (sgY (s0.sigs ++ s1.sigs)) (n0 + n1)) := by
        have e := sigs_app s0.sigs s1.sigs
        rw [← HP0.out.2.2.1, ← HP1.out.2.2.1] at e
        rw [← e]; rw [← HP1.out.2.2.1] at hown; exact hown
      obtain ⟨a5, k5, rfl⟩ := owns_form hown
      have belW40 := belW39.grown hgrow belW39.size (fun g hg => (HRSW39.out.lt g hg).1)
      have zdW40 := hgrow.size
      have x2W40 := cell_carry x2 (Carries.of 0 belW40)
      have x3W40 := cell_carry x3 (Carries.of 0 belW40)
      have x4W40 := cell_carry x4 (Carries.of 0 belW40)
      have y2W40 := cell_carry y2 (Carries.of 0 belW40)
      have y4W40 := cell_carry y4 (Carries.of 0 belW40)
      have g0W40 := cell_carry g0 (Carries.of 0 belW40)
      have g1W40 := cell_carry g1 (Carries.of 0 belW40)
      have HRLW40 := Lib.hid (HRLW39.out.kept hgrow (rows_apartT HRLW39.out HRSW39.out (by decide)))
      have TBW40 := Lib.hid (TBW39.out.grown HRSW39.out hgrow (by decide))
      have HRSW40 := Lib.hid hown
      clear hown hgrow
      refine hK.out _ _ ⟨x2W40, x3W40, x4W40, y2W40, y4W40, g0W40, g1W40⟩ (fun hHeld => ?_)
      clear hK K
      try simp only [Act.put, List.setIfInBounds_toArray, List.set_cons_zero, List.set_cons_succ]
      refine rd11 (by kernel_rfl) (fun K hK => ?_)
      rw [if_pos (by rfl)]
      refine wp_append_labs (.tmp 40) (.tmp 42) rfl w3.heap.size lo _ 0 [] rfl HRLW40.out _ s0.labs rfl (HLA.out.keep (Carries.of lo (hw3.trans (belW40.mono hw3.size)))) (by rw [← HP0.out.2.2.2.1]; omega) belW40.size ?_
      intro v' W41 hown hgrow
      simp only [Nat.zero_add, List.nil_append] at hown
      rw [← HP0.out.2.2.2.1] at hown
      obtain ⟨a7, k7, rfl⟩ := owns_form hown
      have belW41 := belW40.grown hgrow belW40.size (fun g hg => (HRLW40.out.lt g hg).1)
      have zdW41 := hgrow.size
      have x2W41 := cell_carry x2 (Carries.of 0 belW41)
      have x3W41 := cell_carry x3 (Carries.of 0 belW41)
      have x4W41 := cell_carry x4 (Carries.of 0 belW41)
      have y2W41 := cell_carry y2 (Carries.of 0 belW41)
      have y4W41 := cell_carry y4 (Carries.of 0 belW41)
      have g0W41 := cell_carry g0 (Carries.of 0 belW41)
      have g1W41 := cell_carry g1 (Carries.of 0 belW41)
      have HRSW41 := Lib.hid (HRSW40.out.kept hgrow (rows_apartT HRSW40.out HRLW40.out (by decide)))
      have TBW41 := Lib.hid (TBW40.out.grown HRLW40.out hgrow (by decide))
      have HRLW41 := Lib.hid hown
      clear hown hgrow
      refine hK.out _ _ ⟨x2W41, x3W41, x4W41, y2W41, y4W41, g0W41, g1W41⟩ (fun hHeld => ?_)
      clear hK K
      try simp only [Act.put, List.setIfInBounds_toArray, List.set_cons_zero, List.set_cons_succ]
      obtain ⟨⟨cz0, cz1, cz2, cz3, cz4⟩, ⟨fz0, fz1, fz2, fz3, fz4⟩, hty⟩ := TBW41.out
      have zt := hty.lt
      refine tk17 (v := ?_) (by kernel_rfl) (by kernel_rfl) (by kernel_rfl) (by first | exact fun _ _ _ h => h | exact fun _ _ _ h => absurd h.1 (by simp)) (Or.inl ⟨by rfl, ?_⟩) (by assumption) ?_
      rotate_left 1
      focus (intro wx hSw; (try dsimp only at hSw); go_simp; try (with_reducible rfl))
      try simp only [Act.put, List.setIfInBounds_toArray, List.set_cons_zero, List.set_cons_succ]
      refine rd19 (by kernel_rfl) (fun K hK => ?_)
      go_simp
      generalize hWX : (((((W41.setCell ⟨tb, 0, none⟩ (.int .i64 P)).setCell ⟨tb, 1, none⟩ (.slice ua M uc)).setCell ⟨tb, 2, none⟩ (.slice a5 (n0 + n1) k5)).setCell ⟨tb, 3, none⟩ (.slice a7 l0 k7)).setCell ⟨tb, 4, none⟩ (.string (t0 ++ t1))) = WX
      obtain ⟨u0, u1, u2, u3, u4⟩ := put5_cells hWX cz0 cz1 cz2 cz3 cz4
      obtain ⟨h0, h1, h2, h3, h4, hTX, hzX⟩ := put5_more hWX fz0 fz1 fz2 fz3 fz4 hty
      have belX := put5_below hWX belW41 htl
      have HRSX := Lib.hid (put5_ownsT hWX HRSW41.out hty (by decide))
      have HRLX := Lib.hid (put5_ownsT hWX HRLW41.out hty (by decide))
      clear hWX
      refine hK.out _ _ ⟨cell_carry x2 (Carries.of 0 belX), cell_carry x3 (Carries.of 0 belX), cell_carry x4 (Carries.of 0 belX), cell_carry y2 (Carries.of 0 belX), cell_carry y4 (Carries.of 0 belX), cell_carry g0 (Carries.of 0 belX), cell_carry g1 (Carries.of 0 belX)⟩ (fun hHeld => ?_)
      clear hK K
      try simp only [Act.put, List.setIfInBounds_toArray, List.set_cons_zero, List.set_cons_succ]
      refine wpAnyH_done (by kernel_rfl) ?_ _
      exact HK _ _ _ _ _ _ _ _ _ _ _ _ _ _ _ _ _ _ tb WX a5 a7 k5 k7 belX htl (by omega) u0 h0 u1 h1 u2 h2 u3 h3 u4 h4 (Lib.hid hTX) HRSX HRLX
    refine ar18 (fun K hK => ?_) AllReadyH.nil
    go_simp
    have hbb : Below W1.heap.size W1 (W1.alloc (.cells #[.int .i64 0, .slice none 0 0, .slice none 0 0, .slice none 0 0, .string ⟨#[]⟩] 63)) := (Below.refl _ _).alloc (Nat.le_refl _) _
    have zt : W1.heap.size < (W1.alloc (.cells #[.int .i64 0, .slice none 0 0, .slice none 0 0, .slice none 0 0, .string ⟨#[]⟩] 63)).heap.size := by simp
    have hty : TyAt (W1.alloc (.cells #[.int .i64 0, .slice none 0 0, .slice none 0 0, .slice none 0 0, .string ⟨#[]⟩] 63)) W1.heap.size 63 := TyAt.new _ _ _
    have e0 : (W1.alloc (.cells #[.int .i64 0, .slice none 0 0, .slice none 0 0, .slice none 0 0, .string ⟨#[]⟩] 63)).cell? ⟨W1.heap.size, 0, none⟩ = some (.int .i64 0) := by simp
    have e1 : (W1.alloc (.cells #[.int .i64 0, .slice none 0 0, .slice none 0 0, .slice none 0 0, .string ⟨#[]⟩] 63)).cell? ⟨W1.heap.size, 1, none⟩ = some (.slice none 0 0) := by simp
    have e2 : (W1.alloc (.cells #[.int .i64 0, .slice none 0 0, .slice none 0 0, .slice none 0 0, .string ⟨#[]⟩] 63)).cell? ⟨W1.heap.size, 2, none⟩ = some (.slice none 0 0) := by simp
    have e3 : (W1.alloc (.cells #[.int .i64 0, .slice none 0 0, .slice none 0 0, .slice none 0 0, .string ⟨#[]⟩] 63)).cell? ⟨W1.heap.size, 3, none⟩ = some (.slice none 0 0) := by simp
    have e4 : (W1.alloc (.cells #[.int .i64 0, .slice none 0 0, .slice none 0 0, .slice none 0 0, .string ⟨#[]⟩] 63)).cell? ⟨W1.heap.size, 4, none⟩ = some (.string ⟨#[]⟩) := by simp
    have f0 : (W1.alloc (.cells #[.int .i64 0, .slice none 0 0, .slice none 0 0, .slice none 0 0, .string ⟨#[]⟩] 63)).frozen? ⟨W1.heap.size, 0, none⟩ = false := by simp
    have f1 : (W1.alloc (.cells #[.int .i64 0, .slice none 0 0, .slice none 0 0, .slice none 0 0, .string ⟨#[]⟩] 63)).frozen? ⟨W1.heap.size, 1, none⟩ = false := by simp
    have f2 : (W1.alloc (.cells #[.int .i64 0, .slice none 0 0, .slice none 0 0, .slice none 0 0, .string ⟨#[]⟩] 63)).frozen? ⟨W1.heap.size, 2, none⟩ = false := by simp
    have f3 : (W1.alloc (.cells #[.int .i64 0, .slice none 0 0, .slice none 0 0, .slice none 0 0, .string ⟨#[]⟩] 63)).frozen? ⟨W1.heap.size, 3, none⟩ = false := by simp
    have f4 : (W1.alloc (.cells #[.int .i64 0, .slice none 0 0, .slice none 0 0, .slice none 0 0, .string ⟨#[]⟩] 63)).frozen? ⟨W1.heap.size, 4, none⟩ = false := by simp
    generalize W1.alloc (.cells #[.int .i64 0, .slice none 0 0, .slice none 0 0, .slice none 0 0, .string ⟨#[]⟩] 63) = W42 at hbb zt hty e0 e1 e2 e3 e4 f0 f1 f2 f3 f4 ⊢
    obtain ⟨tb, htb⟩ : ∃ t, t = W1.heap.size := ⟨_, rfl⟩
    rw [← htb] at zt hty e0 e1 e2 e3 e4 f0 f1 f2 f3 f4 ⊢
    have htl : w3.heap.size ≤ tb := by have := belW1.size; omega
    clear htb
    have belW42 := belW1.trans (hbb.mono belW1.size)
    have zdW42 := hbb.size
    have x2W42 := cell_carry x2 (Carries.of 0 belW42)
    have x3W42 := cell_carry x3 (Carries.of 0 belW42)
    have x4W42 := cell_carry x4 (Carries.of 0 belW42)
    have y2W42 := cell_carry y2 (Carries.of 0 belW42)
    have y4W42 := cell_carry y4 (Carries.of 0 belW42)
    have g0W42 := cell_carry g0 (Carries.of 0 belW42)
    have g1W42 := cell_carry g1 (Carries.of 0 belW42)
    have HRSW42 := Lib.hid (owns_after HRSW1.out hbb)
    have TBW42 := Lib.hid (show Tb5 tb W42 from ⟨⟨e0, e1, e2, e3, e4⟩, ⟨f0, f1, f2, f3, f4⟩, hty⟩)
    clear hbb zt hty e0 e1 e2 e3 e4 f0 f1 f2 f3 f4
    refine hK.out _ _ ⟨x2W42, x3W42, x4W42, y2W42, y4W42, g0W42, g1W42⟩ (fun hHeld => ?_)
    clear hK K
    try simp only [Act.put, List.setIfInBounds_toArray, List.set_cons_zero, List.set_cons_succ]
    refine wpAnyH_ready (rs := [4, 8]) (by kernel_rfl) (by simp) ?_
    refine ar4 (fun K hK => ?_) ?_
    · rw [if_pos (by rfl)]
      refine wp_append_sigs (.tmp 33) (.tmp 35) rfl w3.heap.size lo _ 0 [] rfl HRSW42.out _ s0.sigs rfl (HSA.out.keep (Carries.of lo (hw3.trans (belW42.mono hw3.size)))) (by rw [← HP0.out.2.2.1]; omega) belW42.size ?_
      intro v' W43 hown hgrow
      simp only [Nat.zero_add, List.nil_append] at hown
      rw [← HP0.out.2.2.1] at hown
      obtain ⟨a4, k4, rfl⟩ := owns_form hown
      have belW43 := belW42.grown hgrow belW42.size (fun g hg => (HRSW42.out.lt g hg).1)
      have zdW43 := hgrow.size
      have x2W43 := cell_carry x2 (Carries.of 0 belW43)
      have x3W43 := cell_carry x3 (Carries.of 0 belW43)
      have x4W43 := cell_carry x4 (Carries.of 0 belW43)
      have y2W43 := cell_carry y2 (Carries.of 0 belW43)
      have y4W43 := cell_carry y4 (Carries.of 0 belW43)
      have g0W43 := cell_carry g0 (Carries.of 0 belW43)
      have g1W43 := cell_carry g1 (Carries.of 0 belW43)
      have TBW43 := Lib.hid (TBW42.out.grown HRSW42.out hgrow (by decide))
      have HRSW43 := Lib.hid hown
      clear hown hgrow
      refine hK.out _ _ ⟨x2W43, x3W43, x4W43, y2W43, y4W43, g0W43, g1W43⟩ (fun hHeld => ?_)
      clear hK K
      try simp only [Act.put, List.setIfInBounds_toArray, List.set_cons_zero, List.set_cons_succ]
      refine wpAnyH_ready (rs := [7, 8]) (by kernel_rfl) (by simp) ?_
      refine ar7 (fun K hK => ?_) ?_
      · rw [if_pos (by rfl)]
        refine wp_append_sigs (.tmp 36) (.tmp 38) rfl w3.heap.size lo _ n0 _ rfl HRSW43.out _ s1.sigs rfl (HSB.out.keep (Carries.of lo (hw3.trans (belW43.mono hw3.size)))) (by rw [← HP1.out.2.2.1]; omega) belW43.size ?_
        intro v' W44 hown hgrow
        have hown : W44.ownsRow w3.heap.size 118 2 v' (n0 + n1) (pairCells (sgX (s0.sigs ++ s1.sigs)) (sgY (s0.sigs ++ s1.sigs)) (n0 + n1)) := by
          have e := sigs_app s0.sigs s1.sigs
          rw [← HP0.out.2.2.1, ← HP1.out.2.2.1] at e
          rw [← e]; rw [← HP1.out.2.2.1] at hown; exact hown
        obtain ⟨a5, k5, rfl⟩ := owns_form hown
        have belW44 := belW43.grown hgrow belW43.size (fun g hg => (HRSW43.out.lt g hg).1)
        have zdW44 := hgrow.size
        have x2W44 := cell_carry x2 (Carries.of 0 belW44)
        have x3W44 := cell_carry x3 (Carries.of 0 belW44)
        have x4W44 := cell_carry x4 (Carries.of 0 belW44)
        have y2W44 := cell_carry y2 (Carries.of 0 belW44)
        have y4W44 := cell_carry y4 (Carries.of 0 belW44)
        have g0W44 := cell_carry g0 (Carries.of 0 belW44)
        have g1W44 := cell_carry g1 (Carries.of 0 belW44)
        have TBW44 := Lib.hid (TBW43.out.grown HRSW43.out hgrow (by decide))
        have HRSW44 := Lib.hid hown
        clear hown hgrow
        refine hK.out _ _ ⟨x2W44, x3W44, x4W44, y2W44, y4W44, g0W44, g1W44⟩ (fun hHeld => ?_)
        clear hK K
        try simp only [Act.put, List.setIfInBounds_toArray, List.set_cons_zero, List.set_cons_succ]
        refine rd8 (by kernel_rfl) (fun K hK => ?_)
        go_simp
        have hbb : Below W44.heap.size W44 (W44.alloc (.cells #[] 113)) := (Below.refl _ _).alloc (Nat.le_refl _) _
        have hown : (W44.alloc (.cells #[] 113)).ownsRow w3.heap.size 113 2 (.slice (some ⟨W44.heap.size, 0, none⟩) 0 0) 0 [] :=
          ⟨rfl, Or.inr ⟨W44.heap.size, 0, #[], rfl, belW44.size, heap_alloc_new W44 _, Nat.le_refl _, Nat.zero_le _, rfl, rfl⟩⟩
        generalize W44.alloc (.cells #[] 113) = W45 at hbb hown ⊢
        have belW45 := belW44.trans (hbb.mono belW44.size)
        have zdW45 := hbb.size
        have x2W45 := cell_carry x2 (Carries.of 0 belW45)
        have x3W45 := cell_carry x3 (Carries.of 0 belW45)
        have x4W45 := cell_carry x4 (Carries.of 0 belW45)
        have y2W45 := cell_carry y2 (Carries.of 0 belW45)
        have y4W45 := cell_carry y4 (Carries.of 0 belW45)
        have g0W45 := cell_carry g0 (Carries.of 0 belW45)
        have g1W45 := cell_carry g1 (Carries.of 0 belW45)
        have HRSW45 := Lib.hid (owns_after HRSW44.out hbb)
        have TBW45 := Lib.hid (TBW44.out.after hbb)
        have HRLW45 := Lib.hid hown
        clear hown hbb
        refine hK.out _ _ ⟨x2W45, x3W45, x4W45, y2W45, y4W45, g0W45, g1W45⟩ (fun hHeld => ?_)
        clear hK K
        try simp only [Act.put, List.setIfInBounds_toArray, List.set_cons_zero, List.set_cons_succ]
        refine rd11 (by kernel_rfl) (fun K hK => ?_)
        rw [if_pos (by rfl)]
        refine wp_append_labs (.tmp 40) (.tmp 42) rfl w3.heap.size lo _ 0 [] rfl HRLW45.out _ s0.labs rfl (HLA.out.keep (Carries.of lo (hw3.trans (belW45.mono hw3.size)))) (by rw [← HP0.out.2.2.2.1]; omega) belW45.size ?_
        intro v' W46 hown hgrow
        simp only [Nat.zero_add, List.nil_append] at hown
        rw [← HP0.out.2.2.2.1] at hown
        obtain ⟨a7, k7, rfl⟩ := owns_form hown
        have belW46 := belW45.grown hgrow belW45.size (fun g hg => (HRLW45.out.lt g hg).1)
        have zdW46 := hgrow.size
        have x2W46 := cell_carry x2 (Carries.of 0 belW46)
        have x3W46 := cell_carry x3 (Carries.of 0 belW46)
        have x4W46 := cell_carry x4 (Carries.of 0 belW46)
        have y2W46 := cell_carry y2 (Carries.of 0 belW46)
        have y4W46 := cell_carry y4 (Carries.of 0 belW46)
        have g0W46 := cell_carry g0 (Carries.of 0 belW46)
        have g1W46 := cell_carry g1 (Carries.of 0 belW46)
        have HRSW46 := Lib.hid (HRSW45.out.kept hgrow (rows_apartT HRSW45.out HRLW45.out (by decide)))
        have TBW46 := Lib.hid (TBW45.out.grown HRLW45.out hgrow (by decide))
        have HRLW46 := Lib.hid hown
        clear hown hgrow
        refine hK.out _ _ ⟨x2W46, x3W46, x4W46, y2W46, y4W46, g0W46, g1W46⟩ (fun hHeld => ?_)
        clear hK K
        try simp only [Act.put, List.setIfInBounds_toArray, List.set_cons_zero, List.set_cons_succ]
        obtain ⟨⟨cz0, cz1, cz2, cz3, cz4⟩, ⟨fz0, fz1, fz2, fz3, fz4⟩, hty⟩ := TBW46.out
        have zt := hty.lt
        refine tk17 (v := ?_) (by kernel_rfl) (by kernel_rfl) (by kernel_rfl) (by first | exact fun _ _ _ h => h | exact fun _ _ _ h => absurd h.1 (by simp)) (Or.inl ⟨by rfl, ?_⟩) (by assumption) ?_
        rotate_left 1
        focus (intro wx hSw; (try dsimp only at hSw); go_simp; try (with_reducible rfl))
        try simp only [Act.put, List.setIfInBounds_toArray, List.set_cons_zero, List.set_cons_succ]
        refine rd19 (by kernel_rfl) (fun K hK => ?_)
        go_simp
        generalize hWX : (((((W46.setCell ⟨tb, 0, none⟩ (.int .i64 P)).setCell ⟨tb, 1, none⟩ (.slice ua M uc)).setCell ⟨tb, 2, none⟩ (.slice a5 (n0 + n1) k5)).setCell ⟨tb, 3, none⟩ (.slice a7 l0 k7)).setCell ⟨tb, 4, none⟩ (.string (t0 ++ t1))) = WX
        obtain ⟨u0, u1, u2, u3, u4⟩ := put5_cells hWX cz0 cz1 cz2 cz3 cz4
        obtain ⟨h0, h1, h2, h3, h4, hTX, hzX⟩ := put5_more hWX fz0 fz1 fz2 fz3 fz4 hty
        have belX := put5_below hWX belW46 htl
        have HRSX := Lib.hid (put5_ownsT hWX HRSW46.out hty (by decide))
        have HRLX := Lib.hid (put5_ownsT hWX HRLW46.out hty (by decide))
        clear hWX
        refine hK.out _ _ ⟨cell_carry x2 (Carries.of 0 belX), cell_carry x3 (Carries.of 0 belX), cell_carry x4 (Carries.of 0 belX), cell_carry y2 (Carries.of 0 belX), cell_carry y4 (Carries.of 0 belX), cell_carry g0 (Carries.of 0 belX), cell_carry g1 (Carries.of 0 belX)⟩ (fun hHeld => ?_)
        clear hK K
        try simp only [Act.put, List.setIfInBounds_toArray, List.set_cons_zero, List.set_cons_succ]
        refine wpAnyH_done (by kernel_rfl) ?_ _
        exact HK _ _ _ _ _ _ _ _ _ _ _ _ _ _ _ _ _ _ tb WX a5 a7 k5 k7 belX htl (by omega) u0 h0 u1 h1 u2 h2 u3 h3 u4 h4 (Lib.hid hTX) HRSX HRLX
      refine ar8 (fun K hK => ?_) AllReadyH.nil
      go_simp
      have hbb : Below W43.heap.size W43 (W43.alloc (.cells #[] 113)) := (Below.refl _ _).alloc (Nat.le_refl _) _
      have hown : (W43.alloc (.cells #[] 113)).ownsRow w3.heap.size 113 2 (.slice (some ⟨W43.heap.size, 0, none⟩) 0 0) 0 [] :=
        ⟨rfl, Or.inr ⟨W43.heap.size, 0, #[], rfl, belW43.size, heap_alloc_new W43 _, Nat.le_refl _, Nat.zero_le _, rfl, rfl⟩⟩
      generalize W43.alloc (.cells #[] 113) = W47 at hbb hown ⊢
      have belW47 := belW43.trans (hbb.mono belW43.size)
      have zdW47 := hbb.size
      have x2W47 := cell_carry x2 (Carries.of 0 belW47)
      have x3W47 := cell_carry x3 (Carries.of 0 belW47)
      have x4W47 := cell_carry x4 (Carries.of 0 belW47)
      have y2W47 := cell_carry y2 (Carries.of 0 belW47)
      have y4W47 := cell_carry y4 (Carries.of 0 belW47)
      have g0W47 := cell_carry g0 (Carries.of 0 belW47)
      have g1W47 := cell_carry g1 (Carries.of 0 belW47)
      have HRSW47 := Lib.hid (owns_after HRSW43.out hbb)
      have TBW47 := Lib.hid (TBW43.out.after hbb)
      have HRLW47 := Lib.hid hown
      clear hown hbb
      refine hK.out _ _ ⟨x2W47, x3W47, x4W47, y2W47, y4W47, g0W47, g1W47⟩ (fun hHeld => ?_)
      clear hK K
      try simp only [Act.put, List.setIfInBounds_toArray, List.set_cons_zero, List.set_cons_succ]
      refine rd7 (by kernel_rfl) (fun K hK => ?_)
      rw [if_pos (by rfl)]
      refine wp_append_sigs (.tmp 36) (.tmp 38) rfl w3.heap.size lo _ n0 _ rfl HRSW47.out _ s1.sigs rfl (HSB.out.keep (Carries.of lo (hw3.trans (belW47.mono hw3.size)))) (by rw [← HP1.out.2.2.1]; omega) belW47.size ?_
      intro v' W48 hown hgrow
      have hown : W48.ownsRow w3.heap.size 118 2 v' (n0 + n1) (pairCells (sgX (s0.sigs ++ s1.sigs)) (sgY (s0.sigs ++ s1.sigs)) (n0 + n1)) := by
        have e := sigs_app s0.sigs s1.sigs
        rw [← HP0.out.2.2.1, ← HP1.out.2.2.1] at e
        rw [← e]; rw [← HP1.out.2.2.1] at hown; exact hown
      obtain ⟨a5, k5, rfl⟩ := owns_form hown
      have belW48 := belW47.grown hgrow belW47.size (fun g hg => (HRSW47.out.lt g hg).1)
      have zdW48 := hgrow.size
      have x2W48 := cell_carry x2 (Carries.of 0 belW48)
      have x3W48 := cell_carry x3 (Carries.of 0 belW48)
      have x4W48 := cell_carry x4 (Carries.of 0 belW48)
      have y2W48 := cell_carry y2 (Carries.of 0 belW48)
      have y4W48 := cell_carry y4 (Carries.of 0 belW48)
      have g0W48 := cell_carry g0 (Carries.of 0 belW48)
      have g1W48 := cell_carry g1 (Carries.of 0 belW48)
      have TBW48 := Lib.hid (TBW47.out.grown HRSW47.out hgrow (by decide))
      have HRLW48 := Lib.hid (HRLW47.out.kept hgrow (rows_apartT HRLW47.out HRSW47.out (by decide)))
      have HRSW48 := Lib.hid hown
      clear hown hgrow
      refine hK.out _ _ ⟨x2W48, x3W48, x4W48, y2W48, y4W48, g0W48, g1W48⟩ (fun hHeld => ?_)
      clear hK K
      try simp only [Act.put, List.setIfInBounds_toArray, List.set_cons_zero, List.set_cons_succ]
      refine rd11 (by kernel_rfl) (fun K hK => ?_)
      rw [if_pos (by rfl)]
      refine wp_append_labs (.tmp 40) (.tmp 42) rfl w3.heap.size lo _ 0 [] rfl HRLW48.out _ s0.labs rfl (HLA.out.keep (Carries.of lo (hw3.trans (belW48.mono hw3.size)))) (by rw [← HP0.out.2.2.2.1]; omega) belW48.size ?_
      intro v' W49 hown hgrow
      simp only [Nat.zero_add, List.nil_append] at hown
      rw [← HP0.out.2.2.2.1] at hown
      obtain ⟨a7, k7, rfl⟩ := owns_form hown
      have belW49 := belW48.grown hgrow belW48.size (fun g hg => (HRLW48.out.lt g hg).1)
      have zdW49 := hgrow.size
      have x2W49 := cell_carry x2 (Carries.of 0 belW49)
      have x3W49 := cell_carry x3 (Carries.of 0 belW49)
      have x4W49 := cell_carry x4 (Carries.of 0 belW49)
      have y2W49 := cell_carry y2 (Carries.of 0 belW49)
      have y4W49 := cell_carry y4 (Carries.of 0 belW49)
      have g0W49 := cell_carry g0 (Carries.of 0 belW49)
      have g1W49 := cell_carry g1 (Carries.of 0 belW49)
      have HRSW49 := Lib.hid (HRSW48.out.kept hgrow (rows_apartT HRSW48.out HRLW48.out (by decide)))
      have TBW49 := Lib.hid (TBW48.out.grown HRLW48.out hgrow (by decide))
      have HRLW49 := Lib.hid hown
      clear hown hgrow
      refine hK.out _ _ ⟨x2W49, x3W49, x4W49, y2W49, y4W49, g0W49, g1W49⟩ (fun hHeld => ?_)
      clear hK K
      try simp only [Act.put, List.setIfInBounds_toArray, List.set_cons_zero, List.set_cons_succ]
      obtain ⟨⟨cz0, cz1, cz2, cz3, cz4⟩, ⟨fz0, fz1, fz2, fz3, fz4⟩, hty⟩ := TBW49.out
      have zt := hty.lt
      refine tk17 (v := ?_) (by kernel_rfl) (by kernel_rfl) (by kernel_rfl) (by first | exact fun _ _ _ h => h | exact fun _ _ _ h => absurd h.1 (by simp)) (Or.inl ⟨by rfl, ?_⟩) (by assumption) ?_
      rotate_left 1
      focus (intro wx hSw; (try dsimp only at hSw); go_simp; try (with_reducible rfl))
      try simp only [Act.put, List.setIfInBounds_toArray, List.set_cons_zero, List.set_cons_succ]
      refine rd19 (by kernel_rfl) (fun K hK => ?_)
      go_simp
      generalize hWX : (((((W49.setCell ⟨tb, 0, none⟩ (.int .i64 P)).setCell ⟨tb, 1, none⟩ (.slice ua M uc)).setCell ⟨tb, 2, none⟩ (.slice a5 (n0 + n1) k5)).setCell ⟨tb, 3, none⟩ (.slice a7 l0 k7)).setCell ⟨tb, 4, none⟩ (.string (t0 ++ t1))) = WX
      obtain ⟨u0, u1, u2, u3, u4⟩ := put5_cells hWX cz0 cz1 cz2 cz3 cz4
      obtain ⟨h0, h1, h2, h3, h4, hTX, hzX⟩ := put5_more hWX fz0 fz1 fz2 fz3 fz4 hty
      have belX := put5_below hWX belW49 htl
      have HRSX := Lib.hid (put5_ownsT hWX HRSW49.out hty (by decide))
      have HRLX := Lib.hid (put5_ownsT hWX HRLW49.out hty (by decide))
      clear hWX
      refine hK.out _ _ ⟨cell_carry x2 (Carries.of 0 belX), cell_carry x3 (Carries.of 0 belX), cell_carry x4 (Carries.of 0 belX), cell_carry y2 (Carries.of 0 belX), cell_carry y4 (Carries.of 0 belX), cell_carry g0 (Carries.of 0 belX), cell_carry g1 (Carries.of 0 belX)⟩ (fun hHeld => ?_)
      clear hK K
      try simp only [Act.put, List.setIfInBounds_toArray, List.set_cons_zero, List.set_cons_succ]
      refine wpAnyH_done (by kernel_rfl) ?_ _
      exact HK _ _ _ _ _ _ _ _ _ _ _ _ _ _ _ _ _ _ tb WX a5 a7 k5 k7 belX htl (by omega) u0 h0 u1 h1 u2 h2 u3 h3 u4 h4 (Lib.hid hTX) HRSX HRLX
    refine ar8 (fun K hK => ?_) AllReadyH.nil
    go_simp
    have hbb : Below W42.heap.size W42 (W42.alloc (.cells #[] 113)) := (Below.refl _ _).alloc (Nat.le_refl _) _
    have hown : (W42.alloc (.cells #[] 113)).ownsRow w3.heap.size 113 2 (.slice (some ⟨W42.heap.size, 0, none⟩) 0 0) 0 [] :=
      ⟨rfl, Or.inr ⟨W42.heap.size, 0, #[], rfl, belW42.size, heap_alloc_new W42 _, Nat.le_refl _, Nat.zero_le _, rfl, rfl⟩⟩
    generalize W42.alloc (.cells #[] 113) = W50 at hbb hown ⊢
    have belW50 := belW42.trans (hbb.mono belW42.size)
    have zdW50 := hbb.size
    have x2W50 := cell_carry x2 (Carries.of 0 belW50)
    have x3W50 := cell_carry x3 (Carries.of 0 belW50)
    have x4W50 := cell_carry x4 (Carries.of 0 belW50)
    have y2W50 := cell_carry y2 (Carries.of 0 belW50)
    have y4W50 := cell_carry y4 (Carries.of 0 belW50)
    have g0W50 := cell_carry g0 (Carries.of 0 belW50)
    have g1W50 := cell_carry g1 (Carries.of 0 belW50)
    have HRSW50 := Lib.hid (owns_after HRSW42.out hbb)
    have TBW50 := Lib.hid (TBW42.out.after hbb)
    have HRLW50 := Lib.hid hown
    clear hown hbb
    refine hK.out _ _ ⟨x2W50, x3W50, x4W50, y2W50, y4W50, g0W50, g1W50⟩ (fun hHeld => ?_)
    clear hK K
    try simp only [Act.put, List.setIfInBounds_toArray, List.set_cons_zero, List.set_cons_succ]
    refine rd4 (by kernel_rfl) (fun K hK => ?_)
    rw [if_pos (by rfl)]
    refine wp_append_sigs (.tmp 33) (.tmp 35) rfl w3.heap.size lo _ 0 [] rfl HRSW50.out _ s0.sigs rfl (HSA.out.keep (Carries.of lo (hw3.trans (belW50.mono hw3.size)))) (by rw [← HP0.out.2.2.1]; omega) belW50.size ?_
    intro v' W51 hown hgrow
    simp only [Nat.zero_add, List.nil_append] at hown
    rw [← HP0.out.2.2.1] at hown
    obtain ⟨a4, k4, rfl⟩ := owns_form hown
    have belW51 := belW50.grown hgrow belW50.size (fun g hg => (HRSW50.out.lt g hg).1)
    have zdW51 := hgrow.size
    have x2W51 := cell_carry x2 (Carries.of 0 belW51)
    have x3W51 := cell_carry x3 (Carries.of 0 belW51)
    have x4W51 := cell_carry x4 (Carries.of 0 belW51)
    have y2W51 := cell_carry y2 (Carries.of 0 belW51)
    have y4W51 := cell_carry y4 (Carries.of 0 belW51)
    have g0W51 := cell_carry g0 (Carries.of 0 belW51)
    have g1W51 := cell_carry g1 (Carries.of 0 belW51)
    have TBW51 := Lib.hid (TBW50.out.grown HRSW50.out hgrow (by decide))
    have HRLW51 := Lib.hid (HRLW50.out.kept hgrow (rows_apartT HRLW50.out HRSW50.out (by decide)))
    have HRSW51 := Lib.hid hown
    clear hown hgrow
    refine hK.out _ _ ⟨x2W51, x3W51, x4W51, y2W51, y4W51, g0W51, g1W51⟩ (fun hHeld => ?_)
    clear hK K
    try simp only [Act.put, List.setIfInBounds_toArray, List.set_cons_zero, List.set_cons_succ]
    refine rd7 (by kernel_rfl) (fun K hK => ?_)
    rw [if_pos (by rfl)]
    refine wp_append_sigs (.tmp 36) (.tmp 38) rfl w3.heap.size lo _ n0 _ rfl HRSW51.out _ s1.sigs rfl (HSB.out.keep (Carries.of lo (hw3.trans (belW51.mono hw3.size)))) (by rw [← HP1.out.2.2.1]; omega) belW51.size ?_
    intro v' W52 hown hgrow
    have hown : W52.ownsRow w3.heap.size 118 2 v' (n0 + n1) (pairCells (sgX (s0.sigs ++ s1.sigs)) (sgY (s0.sigs ++ s1.sigs)) (n0 + n1)) := by
      have e := sigs_app s0.sigs s1.sigs
      rw [← HP0.out.2.2.1, ← HP1.out.2.2.1] at e
      rw [← e]; rw [← HP1.out.2.2.1] at hown; exact hown
    obtain ⟨a5, k5, rfl⟩ := owns_form hown
    have belW52 := belW51.grown hgrow belW51.size (fun g hg => (HRSW51.out.lt g hg).1)
    have zdW52 := hgrow.size
    have x2W52 := cell_carry x2 (Carries.of 0 belW52)
    have x3W52 := cell_carry x3 (Carries.of 0 belW52)
    have x4W52 := cell_carry x4 (Carries.of 0 belW52)
    have y2W52 := cell_carry y2 (Carries.of 0 belW52)
    have y4W52 := cell_carry y4 (Carries.of 0 belW52)
    have g0W52 := cell_carry g0 (Carries.of 0 belW52)
    have g1W52 := cell_carry g1 (Carries.of 0 belW52)
    have TBW52 := Lib.hid (TBW51.out.grown HRSW51.out hgrow (by decide))
    have HRLW52 := Lib.hid (HRLW51.out.kept hgrow (rows_apartT HRLW51.out HRSW51.out (by decide)))
    have HRSW52 := Lib.hid hown
    clear hown hgrow
    refine hK.out _ _ ⟨x2W52, x3W52, x4W52, y2W52, y4W52, g0W52, g1W52⟩ (fun hHeld => ?_)
    clear hK K
    try simp only [Act.put, List.setIfInBounds_toArray, List.set_cons_zero, List.set_cons_succ]
    refine rd11 (by kernel_rfl) (fun K hK => ?_)
    rw [if_pos (by rfl)]
    refine wp_append_labs (.tmp 40) (.tmp 42) rfl w3.heap.size lo _ 0 [] rfl HRLW52.out _ s0.labs rfl (HLA.out.keep (Carries.of lo (hw3.trans (belW52.mono hw3.size)))) (by rw [← HP0.out.2.2.2.1]; omega) belW52.size ?_
    intro v' W53 hown hgrow
    simp only [Nat.zero_add, List.nil_append] at hown
    rw [← HP0.out.2.2.2.1] at hown
    obtain ⟨a7, k7, rfl⟩ := owns_form hown
    have belW53 := belW52.grown hgrow belW52.size (fun g hg => (HRLW52.out.lt g hg).1)
    have zdW53 := hgrow.size
    have x2W53 := cell_carry x2 (Carries.of 0 belW53)
    have x3W53 := cell_carry x3 (Carries.of 0 belW53)
    have x4W53 := cell_carry x4 (Carries.of 0 belW53)
    have y2W53 := cell_carry y2 (Carries.of 0 belW53)
    have y4W53 := cell_carry y4 (Carries.of 0 belW53)
    have g0W53 := cell_carry g0 (Carries.of 0 belW53)
    have g1W53 := cell_carry g1 (Carries.of 0 belW53)
    have HRSW53 := Lib.hid (HRSW52.out.kept hgrow (rows_apartT HRSW52.out HRLW52.out (by decide)))
    have TBW53 := Lib.hid (TBW52.out.grown HRLW52.out hgrow (by decide))
    have HRLW53 := Lib.hid hown
    clear hown hgrow
    refine hK.out _ _ ⟨x2W53, x3W53, x4W53, y2W53, y4W53, g0W53, g1W53⟩ (fun hHeld => ?_)
    clear hK K
    try simp only [Act.put, List.setIfInBounds_toArray, List.set_cons_zero, List.set_cons_succ]
    obtain ⟨⟨cz0, cz1, cz2, cz3, cz4⟩, ⟨fz0, fz1, fz2, fz3, fz4⟩, hty⟩ := TBW53.out
    have zt := hty.lt
    refine tk17 (v := ?_) (by kernel_rfl) (by kernel_rfl) (by kernel_rfl) (by first | exact fun _ _ _ h => h | exact fun _ _ _ h => absurd h.1 (by simp)) (Or.inl ⟨by rfl, ?_⟩) (by assumption) ?_
    rotate_left 1
    focus (intro wx hSw; (try dsimp only at hSw); go_simp; try (with_reducible rfl))
    try simp only [Act.put, List.setIfInBounds_toArray, List.set_cons_zero, List.set_cons_succ]
    refine rd19 (by kernel_rfl) (fun K hK => ?_)
    go_simp
    generalize hWX : (((((W53.setCell ⟨tb, 0, none⟩ (.int .i64 P)).setCell ⟨tb, 1, none⟩ (.slice ua M uc)).setCell ⟨tb, 2, none⟩ (.slice a5 (n0 + n1) k5)).setCell ⟨tb, 3, none⟩ (.slice a7 l0 k7)).setCell ⟨tb, 4, none⟩ (.string (t0 ++ t1))) = WX
    obtain ⟨u0, u1, u2, u3, u4⟩ := put5_cells hWX cz0 cz1 cz2 cz3 cz4
    obtain ⟨h0, h1, h2, h3, h4, hTX, hzX⟩ := put5_more hWX fz0 fz1 fz2 fz3 fz4 hty
    have belX := put5_below hWX belW53 htl
    have HRSX := Lib.hid (put5_ownsT hWX HRSW53.out hty (by decide))
    have HRLX := Lib.hid (put5_ownsT hWX HRLW53.out hty (by decide))
    clear hWX
    refine hK.out _ _ ⟨cell_carry x2 (Carries.of 0 belX), cell_carry x3 (Carries.of 0 belX), cell_carry x4 (Carries.of 0 belX), cell_carry y2 (Carries.of 0 belX), cell_carry y4 (Carries.of 0 belX), cell_carry g0 (Carries.of 0 belX), cell_carry g1 (Carries.of 0 belX)⟩ (fun hHeld => ?_)
    clear hK K
    try simp only [Act.put, List.setIfInBounds_toArray, List.set_cons_zero, List.set_cons_succ]
    refine wpAnyH_done (by kernel_rfl) ?_ _
    exact HK _ _ _ _ _ _ _ _ _ _ _ _ _ _ _ _ _ _ tb WX a5 a7 k5 k7 belX htl (by omega) u0 h0 u1 h1 u2 h2 u3 h3 u4 h4 (Lib.hid hTX) HRSX HRLX
  refine ar8 (fun K hK => ?_) ?_
  · go_simp
    have hbb : Below V.heap.size V (V.alloc (.cells #[] 113)) := (Below.refl _ _).alloc (Nat.le_refl _) _
    have hown : (V.alloc (.cells #[] 113)).ownsRow w3.heap.size 113 2 (.slice (some ⟨V.heap.size, 0, none⟩) 0 0) 0 [] :=
      ⟨rfl, Or.inr ⟨V.heap.size, 0, #[], rfl, belV.size, heap_alloc_new V _, Nat.le_refl _, Nat.zero_le _, rfl, rfl⟩⟩
    generalize V.alloc (.cells #[] 113) = W54 at hbb hown ⊢
    have belW54 := belV.trans (hbb.mono belV.size)
    have zdW54 := hbb.size
    have x2W54 := cell_carry x2 (Carries.of 0 belW54)
    have x3W54 := cell_carry x3 (Carries.of 0 belW54)
    have x4W54 := cell_carry x4 (Carries.of 0 belW54)
    have y2W54 := cell_carry y2 (Carries.of 0 belW54)
    have y4W54 := cell_carry y4 (Carries.of 0 belW54)
    have g0W54 := cell_carry g0 (Carries.of 0 belW54)
    have g1W54 := cell_carry g1 (Carries.of 0 belW54)
    have HRLW54 := Lib.hid hown
    clear hown hbb
    refine hK.out _ _ ⟨x2W54, x3W54, x4W54, y2W54, y4W54, g0W54, g1W54⟩ (fun hHeld => ?_)
    clear hK K
    try simp only [Act.put, List.setIfInBounds_toArray, List.set_cons_zero, List.set_cons_succ]
    refine wpAnyH_ready (rs := [1, 18]) (by kernel_rfl) (by simp) ?_
    refine ar1 (fun K hK => ?_) ?_
    · go_simp
      have hbb : Below W54.heap.size W54 (W54.alloc (.cells #[] 118)) := (Below.refl _ _).alloc (Nat.le_refl _) _
      have hown : (W54.alloc (.cells #[] 118)).ownsRow w3.heap.size 118 2 (.slice (some ⟨W54.heap.size, 0, none⟩) 0 0) 0 [] :=
        ⟨rfl, Or.inr ⟨W54.heap.size, 0, #[], rfl, belW54.size, heap_alloc_new W54 _, Nat.le_refl _, Nat.zero_le _, rfl, rfl⟩⟩
      generalize W54.alloc (.cells #[] 118) = W55 at hbb hown ⊢
      have belW55 := belW54.trans (hbb.mono belW54.size)
      have zdW55 := hbb.size
      have x2W55 := cell_carry x2 (Carries.of 0 belW55)
      have x3W55 := cell_carry x3 (Carries.of 0 belW55)
      have x4W55 := cell_carry x4 (Carries.of 0 belW55)
      have y2W55 := cell_carry y2 (Carries.of 0 belW55)
      have y4W55 := cell_carry y4 (Carries.of 0 belW55)
      have g0W55 := cell_carry g0 (Carries.of 0 belW55)
      have g1W55 := cell_carry g1 (Carries.of 0 belW55)
      have HRLW55 := Lib.hid (owns_after HRLW54.out hbb)
      have HRSW55 := Lib.hid hown
      clear hown hbb
      refine hK.out _ _ ⟨x2W55, x3W55, x4W55, y2W55, y4W55, g0W55, g1W55⟩ (fun hHeld => ?_)
      clear hK K
      try simp only [Act.put, List.setIfInBounds_toArray, List.set_cons_zero, List.set_cons_succ]
      refine wpAnyH_ready (rs := [4, 18]) (by kernel_rfl) (by simp) ?_
      refine ar4 (fun K hK => ?_) ?_
      · rw [if_pos (by rfl)]
        refine wp_append_sigs (.tmp 33) (.tmp 35) rfl w3.heap.size lo _ 0 [] rfl HRSW55.out _ s0.sigs rfl (HSA.out.keep (Carries.of lo (hw3.trans (belW55.mono hw3.size)))) (by rw [← HP0.out.2.2.1]; omega) belW55.size ?_
        intro v' W56 hown hgrow
        simp only [Nat.zero_add, List.nil_append] at hown
        rw [← HP0.out.2.2.1] at hown
        obtain ⟨a4, k4, rfl⟩ := owns_form hown
        have belW56 := belW55.grown hgrow belW55.size (fun g hg => (HRSW55.out.lt g hg).1)
        have zdW56 := hgrow.size
        have x2W56 := cell_carry x2 (Carries.of 0 belW56)
        have x3W56 := cell_carry x3 (Carries.of 0 belW56)
        have x4W56 := cell_carry x4 (Carries.of 0 belW56)
        have y2W56 := cell_carry y2 (Carries.of 0 belW56)
        have y4W56 := cell_carry y4 (Carries.of 0 belW56)
        have g0W56 := cell_carry g0 (Carries.of 0 belW56)
        have g1W56 := cell_carry g1 (Carries.of 0 belW56)
        have HRLW56 := Lib.hid (HRLW55.out.kept hgrow (rows_apartT HRLW55.out HRSW55.out (by decide)))
        have HRSW56 := Lib.hid hown
        clear hown hgrow
        refine hK.out _ _ ⟨x2W56, x3W56, x4W56, y2W56, y4W56, g0W56, g1W56⟩ (fun hHeld => ?_)
        clear hK K
        try simp only [Act.put, List.setIfInBounds_toArray, List.set_cons_zero, List.set_cons_succ]
        refine wpAnyH_ready (rs := [7, 18]) (by kernel_rfl) (by simp) ?_
        refine ar7 (fun K hK => ?_) ?_
        · rw [if_pos (by rfl)]
          refine wp_append_sigs (.tmp 36) (.tmp 38) rfl w3.heap.size lo _ n0 _ rfl HRSW56.out _ s1.sigs rfl (HSB.out.keep (Carries.of lo (hw3.trans (belW56.mono hw3.size)))) (by rw [← HP1.out.2.2.1]; omega) belW56.size ?_
          intro v' W57 hown hgrow
          have hown : W57.ownsRow w3.heap.size 118 2 v' (n0 + n1) (pairCells (sgX (s0.sigs ++ s1.sigs)) (sgY (s0.sigs ++ s1.sigs)) (n0 + n1)) := by
            have e := sigs_app s0.sigs s1.sigs
            rw [← HP0.out.2.2.1, ← HP1.out.2.2.1] at e
            rw [← e]; rw [← HP1.out.2.2.1] at hown; exact hown
          obtain ⟨a5, k5, rfl⟩ := owns_form hown
          have belW57 := belW56.grown hgrow belW56.size (fun g hg => (HRSW56.out.lt g hg).1)
          have zdW57 := hgrow.size
          have x2W57 := cell_carry x2 (Carries.of 0 belW57)
          have x3W57 := cell_carry x3 (Carries.of 0 belW57)
          have x4W57 := cell_carry x4 (Carries.of 0 belW57)
          have y2W57 := cell_carry y2 (Carries.of 0 belW57)
          have y4W57 := cell_carry y4 (Carries.of 0 belW57)
          have g0W57 := cell_carry g0 (Carries.of 0 belW57)
          have g1W57 := cell_carry g1 (Carries.of 0 belW57)
          have HRLW57 := Lib.hid (HRLW56.out.kept hgrow (rows_apartT HRLW56.out HRSW56.out (by decide)))
          have HRSW57 := Lib.hid hown
          clear hown hgrow
          refine hK.out _ _ ⟨x2W57, x3W57, x4W57, y2W57, y4W57, g0W57, g1W57⟩ (fun hHeld => ?_)
          clear hK K
          try simp only [Act.put, List.setIfInBounds_toArray, List.set_cons_zero, List.set_cons_succ]
          refine wpAnyH_ready (rs := [11, 18]) (by kernel_rfl) (by simp) ?_
          refine ar11 (fun K hK => ?_) ?_
          · rw [if_pos (by rfl)]
            refine wp_append_labs (.tmp 40) (.tmp 42) rfl w3.heap.size lo _ 0 [] rfl HRLW57.out _ s0.labs rfl (HLA.out.keep (Carries.of lo (hw3.trans (belW57.mono hw3.size)))) (by rw [← HP0.out.2.2.2.1]; omega) belW57.size ?_
            intro v' W58 hown hgrow
            simp only [Nat.zero_add, List.nil_append] at hown
            rw [← HP0.out.2.2.2.1] at hown
            obtain ⟨a7, k7, rfl⟩ := owns_form hown
            have belW58 := belW57.grown hgrow belW57.size (fun g hg => (HRLW57.out.lt g hg).1)
            have zdW58 := hgrow.size
            have x2W58 := cell_carry x2 (Carries.of 0 belW58)
            have x3W58 := cell_carry x3 (Carries.of 0 belW58)
            have x4W58 := cell_carry x4 (Carries.of 0 belW58)
            have y2W58 := cell_carry y2 (Carries.of 0 belW58)
            have y4W58 := cell_carry y4 (Carries.of 0 belW58)
            have g0W58 := cell_carry g0 (Carries.of 0 belW58)
            have g1W58 := cell_carry g1 (Carries.of 0 belW58)
            have HRSW58 := Lib.hid (HRSW57.out.kept hgrow (rows_apartT HRSW57.out HRLW57.out (by decide)))
            have HRLW58 := Lib.hid hown
            clear hown hgrow
            refine hK.out _ _ ⟨x2W58, x3W58, x4W58, y2W58, y4W58, g0W58, g1W58⟩ (fun hHeld => ?_)
            clear hK K
            try simp only [Act.put, List.setIfInBounds_toArray, List.set_cons_zero, List.set_cons_succ]
            refine tk17 (v := ?_) (by kernel_rfl) (by kernel_rfl) (by kernel_rfl) (by first | exact fun _ _ _ h => h | exact fun _ _ _ h => absurd h.1 (by simp)) (Or.inl ⟨by rfl, ?_⟩) (by assumption) ?_
            rotate_left 1
            focus (intro wx hSw; (try dsimp only at hSw); go_simp; try (with_reducible rfl))
            try simp only [Act.put, List.setIfInBounds_toArray, List.set_cons_zero, List.set_cons_succ]
            refine rd18 (by kernel_rfl) (fun K hK => ?_)
            go_simp
            have hbb : Below W58.heap.size W58 (W58.alloc (.cells #[.int .i64 0, .slice none 0 0, .slice none 0 0, .slice none 0 0, .string ⟨#[]⟩] 63)) := (Below.refl _ _).alloc (Nat.le_refl _) _
            have zt : W58.heap.size < (W58.alloc (.cells #[.int .i64 0, .slice none 0 0, .slice none 0 0, .slice none 0 0, .string ⟨#[]⟩] 63)).heap.size := by simp
            have hty : TyAt (W58.alloc (.cells #[.int .i64 0, .slice none 0 0, .slice none 0 0, .slice none 0 0, .string ⟨#[]⟩] 63)) W58.heap.size 63 := TyAt.new _ _ _
            have e0 : (W58.alloc (.cells #[.int .i64 0, .slice none 0 0, .slice none 0 0, .slice none 0 0, .string ⟨#[]⟩] 63)).cell? ⟨W58.heap.size, 0, none⟩ = some (.int .i64 0) := by simp
            have e1 : (W58.alloc (.cells #[.int .i64 0, .slice none 0 0, .slice none 0 0, .slice none 0 0, .string ⟨#[]⟩] 63)).cell? ⟨W58.heap.size, 1, none⟩ = some (.slice none 0 0) := by simp
            have e2 : (W58.alloc (.cells #[.int .i64 0, .slice none 0 0, .slice none 0 0, .slice none 0 0, .string ⟨#[]⟩] 63)).cell? ⟨W58.heap.size, 2, none⟩ = some (.slice none 0 0) := by simp
            have e3 : (W58.alloc (.cells #[.int .i64 0, .slice none 0 0, .slice none 0 0, .slice none 0 0, .string ⟨#[]⟩] 63)).cell? ⟨W58.heap.size, 3, none⟩ = some (.slice none 0 0) := by simp
            have e4 : (W58.alloc (.cells #[.int .i64 0, .slice none 0 0, .slice none 0 0, .slice none 0 0, .string ⟨#[]⟩] 63)).cell? ⟨W58.heap.size, 4, none⟩ = some (.string ⟨#[]⟩) := by simp
            have f0 : (W58.alloc (.cells #[.int .i64 0, .slice none 0 0, .slice none 0 0, .slice none 0 0, .string ⟨#[]⟩] 63)).frozen? ⟨W58.heap.size, 0, none⟩ = false := by simp
            have f1 : (W58.alloc (.cells #[.int .i64 0, .slice none 0 0, .slice none 0 0, .slice none 0 0, .string ⟨#[]⟩] 63)).frozen? ⟨W58.heap.size, 1, none⟩ = false := by simp
            have f2 : (W58.alloc (.cells #[.int .i64 0, .slice none 0 0, .slice none 0 0, .slice none 0 0, .string ⟨#[]⟩] 63)).frozen? ⟨W58.heap.size, 2, none⟩ = false := by simp
            have f3 : (W58.alloc (.cells #[.int .i64 0, .slice none 0 0, .slice none 0 0, .slice none 0 0, .string ⟨#[]⟩] 63)).frozen? ⟨W58.heap.size, 3, none⟩ = false := by simp
            have f4 : (W58.alloc (.cells #[.int .i64 0, .slice none 0 0, .slice none 0 0, .slice none 0 0, .string ⟨#[]⟩] 63)).frozen? ⟨W58.heap.size, 4, none⟩ = false := by simp
            generalize W58.alloc (.cells #[.int .i64 0, .slice none 0 0, .slice none 0 0, .slice none 0 0, .string ⟨#[]⟩] 63) = W59 at hbb zt hty e0 e1 e2 e3 e4 f0 f1 f2 f3 f4 ⊢
            obtain ⟨tb, htb⟩ : ∃ t, t = W58.heap.size := ⟨_, rfl⟩
            rw [← htb] at zt hty e0 e1 e2 e3 e4 f0 f1 f2 f3 f4 ⊢
            have htl : w3.heap.size ≤ tb := by have := belW58.size; omega
            clear htb
            have belW59 := belW58.trans (hbb.mono belW58.size)
            have zdW59 := hbb.size
            have x2W59 := cell_carry x2 (Carries.of 0 belW59)
            have x3W59 := cell_carry x3 (Carries.of 0 belW59)
            have x4W59 := cell_carry x4 (Carries.of 0 belW59)
            have y2W59 := cell_carry y2 (Carries.of 0 belW59)
            have y4W59 := cell_carry y4 (Carries.of 0 belW59)
            have g0W59 := cell_carry g0 (Carries.of 0 belW59)
            have g1W59 := cell_carry g1 (Carries.of 0 belW59)
            have HRLW59 := Lib.hid (owns_after HRLW58.out hbb)
            have HRSW59 := Lib.hid (owns_after HRSW58.out hbb)
            have TBW59 := Lib.hid (show Tb5 tb W59 from ⟨⟨e0, e1, e2, e3, e4⟩, ⟨f0, f1, f2, f3, f4⟩, hty⟩)
            clear hbb zt hty e0 e1 e2 e3 e4 f0 f1 f2 f3 f4
            refine hK.out _ _ ⟨x2W59, x3W59, x4W59, y2W59, y4W59, g0W59, g1W59⟩ (fun hHeld => ?_)
            clear hK K
            try simp only [Act.put, List.setIfInBounds_toArray, List.set_cons_zero, List.set_cons_succ]
            obtain ⟨⟨cz0, cz1, cz2, cz3, cz4⟩, ⟨fz0, fz1, fz2, fz3, fz4⟩, hty⟩ := TBW59.out
            have zt := hty.lt
            refine rd19 (by kernel_rfl) (fun K hK => ?_)
            go_simp
            generalize hWX : (((((W59.setCell ⟨tb, 0, none⟩ (.int .i64 P)).setCell ⟨tb, 1, none⟩ (.slice ua M uc)).setCell ⟨tb, 2, none⟩ (.slice a5 (n0 + n1) k5)).setCell ⟨tb, 3, none⟩ (.slice a7 l0 k7)).setCell ⟨tb, 4, none⟩ (.string (t0 ++ t1))) = WX
            obtain ⟨u0, u1, u2, u3, u4⟩ := put5_cells hWX cz0 cz1 cz2 cz3 cz4
            obtain ⟨h0, h1, h2, h3, h4, hTX, hzX⟩ := put5_more hWX fz0 fz1 fz2 fz3 fz4 hty
            have belX := put5_below hWX belW59 htl
            have HRSX := Lib.hid (put5_ownsT hWX HRSW59.out hty (by decide))
            have HRLX := Lib.hid (put5_ownsT hWX HRLW59.out hty (by decide))
            clear hWX
            refine hK.out _ _ ⟨cell_carry x2 (Carries.of 0 belX), cell_carry x3 (Carries.of 0 belX), cell_carry x4 (Carries.of 0 belX), cell_carry y2 (Carries.of 0 belX), cell_carry y4 (Carries.of 0 belX), cell_carry g0 (Carries.of 0 belX), cell_carry g1 (Carries.of 0 belX)⟩ (fun hHeld => ?_)
            clear hK K
            try simp only [Act.put, List.setIfInBounds_toArray, List.set_cons_zero, List.set_cons_succ]
            refine wpAnyH_done (by kernel_rfl) ?_ _
            exact HK _ _ _ _ _ _ _ _ _ _ _ _ _ _ _ _ _ _ tb WX a5 a7 k5 k7 belX htl (by omega) u0 h0 u1 h1 u2 h2 u3 h3 u4 h4 (Lib.hid hTX) HRSX HRLX
          refine ar18 (fun K hK => ?_) AllReadyH.nil
          go_simp
          have hbb : Below W57.heap.size W57 (W57.alloc (.cells #[.int .i64 0, .slice none 0 0, .slice none 0 0, .slice none 0 0, .string ⟨#[]⟩] 63)) := (Below.refl _ _).alloc (Nat.le_refl _) _
          have zt : W57.heap.size < (W57.alloc (.cells #[.int .i64 0, .slice none 0 0, .slice none 0 0, .slice none 0 0, .string ⟨#[]⟩] 63)).heap.size := by simp
          have hty : TyAt (W57.alloc (.cells #[.int .i64 0, .slice none 0 0, .slice none 0 0, .slice none 0 0, .string ⟨#[]⟩] 63)) W57.heap.size 63 := TyAt.new _ _ _
          have e0 : (W57.alloc (.cells #[.int .i64 0, .slice none 0 0, .slice none 0 0, .slice none 0 0, .string ⟨#[]⟩] 63)).cell? ⟨W57.heap.size, 0, none⟩ = some (.int .i64 0) := by simp
          have e1 : (W57.alloc (.cells #[.int .i64 0, .slice none 0 0, .slice none 0 0, .slice none 0 0, .string ⟨#[]⟩] 63)).cell? ⟨W57.heap.size, 1, none⟩ = some (.slice none 0 0) := by simp
          have e2 : (W57.alloc (.cells #[.int .i64 0, .slice none 0 0, .slice none 0 0, .slice none 0 0, .string ⟨#[]⟩] 63)).cell? ⟨W57.heap.size, 2, none⟩ = some (.slice none 0 0) := by simp
          have e3 : (W57.alloc (.cells #[.int .i64 0, .slice none 0 0, .slice none 0 0, .slice none 0 0, .string ⟨#[]⟩] 63)).cell? ⟨W57.heap.size, 3, none⟩ = some (.slice none 0 0) := by simp
          have e4 : (W57.alloc (.cells #[.int .i64 0, .slice none 0 0, .slice none 0 0, .slice none 0 0, .string ⟨#[]⟩] 63)).cell? ⟨W57.heap.size, 4, none⟩ = some (.string ⟨#[]⟩) := by simp
          have f0 : (W57.alloc (.cells #[.int .i64 0, .slice none 0 0, .slice none 0 0, .slice none 0 0, .string ⟨#[]⟩] 63)).frozen? ⟨W57.heap.size, 0, none⟩ = false := by simp
          have f1 : (W57.alloc (.cells #[.int .i64 0, .slice none 0 0, .slice none 0 0, .slice none 0 0, .string ⟨#[]⟩] 63)).frozen? ⟨W57.heap.size, 1, none⟩ = false := by simp
          have f2 : (W57.alloc (.cells #[.int .i64 0, .slice none 0 0, .slice none 0 0, .slice none 0 0, .string ⟨#[]⟩] 63)).frozen? ⟨W57.heap.size, 2, none⟩ = false := by simp
          have f3 : (W57.alloc (.cells #[.int .i64 0, .slice none 0 0, .slice none 0 0, .slice none 0 0, .string ⟨#[]⟩] 63)).frozen? ⟨W57.heap.size, 3, none⟩ = false := by simp
          have f4 : (W57.alloc (.cells #[.int .i64 0, .slice none 0 0, .slice none 0 0, .slice none 0 0, .string ⟨#[]⟩] 63)).frozen? ⟨W57.heap.size, 4, none⟩ = false := by simp
          generalize W57.alloc (.cells #[.int .i64 0, .slice none 0 0, .slice none 0 0, .slice none 0 0, .string ⟨#[]⟩] 63) = W60 at hbb zt hty e0 e1 e2 e3 e4 f0 f1 f2 f3 f4 ⊢
          obtain ⟨tb, htb⟩ : ∃ t, t = W57.heap.size := ⟨_, rfl⟩
          rw [← htb] at zt hty e0 e1 e2 e3 e4 f0 f1 f2 f3 f4 ⊢
          have htl : w3.heap.size ≤ tb := by have := belW57.size; omega
          clear htb
          have belW60 := belW57.trans (hbb.mono belW57.size)
          have zdW60 := hbb.size
          have x2W60 := cell_carry x2 (Carries.of 0 belW60)
          have x3W60 := cell_carry x3 (Carries.of 0 belW60)
          have x4W60 := cell_carry x4 (Carries.of 0 belW60)
          have y2W60 := cell_carry y2 (Carries.of 0 belW60)
          have y4W60 := cell_carry y4 (Carries.of 0 belW60)
          have g0W60 := cell_carry g0 (Carries.of 0 belW60)
          have g1W60 := cell_carry g1 (Carries.of 0 belW60)
          have HRLW60 := Lib.hid (owns_after HRLW57.out hbb)
          have HRSW60 := Lib.hid (owns_after HRSW57.out hbb)
          have TBW60 := Lib.hid (show Tb5 tb W60 from ⟨⟨e0, e1, e2, e3, e4⟩, ⟨f0, f1, f2, f3, f4⟩, hty⟩)
          clear hbb zt hty e0 e1 e2 e3 e4 f0 f1 f2 f3 f4
          refine hK.out _ _ ⟨x2W60, x3W60, x4W60, y2W60, y4W60, g0W60, g1W60⟩ (fun hHeld => ?_)
          clear hK K
          try simp only [Act.put, List.setIfInBounds_toArray, List.set_cons_zero, List.set_cons_succ]
          refine rd11 (by kernel_rfl) (fun K hK => ?_)
          rw [if_pos (by rfl)]
          refine wp_append_labs (.tmp 40) (.tmp 42) rfl w3.heap.size lo _ 0 [] rfl HRLW60.out _ s0.labs rfl (HLA.out.keep (Carries.of lo (hw3.trans (belW60.mono hw3.size)))) (by rw [← HP0.out.2.2.2.1]; omega) belW60.size ?_
          intro v' W61 hown hgrow
          simp only [Nat.zero_add, List.nil_append] at hown
          rw [← HP0.out.2.2.2.1] at hown
          obtain ⟨a7, k7, rfl⟩ := owns_form hown
          have belW61 := belW60.grown hgrow belW60.size (fun g hg => (HRLW60.out.lt g hg).1)
          have zdW61 := hgrow.size
          have x2W61 := cell_carry x2 (Carries.of 0 belW61)
          have x3W61 := cell_carry x3 (Carries.of 0 belW61)
          have x4W61 := cell_carry x4 (Carries.of 0 belW61)
          have y2W61 := cell_carry y2 (Carries.of 0 belW61)
          have y4W61 := cell_carry y4 (Carries.of 0 belW61)
          have g0W61 := cell_carry g0 (Carries.of 0 belW61)
          have g1W61 := cell_carry g1 (Carries.of 0 belW61)
          have HRSW61 := Lib.hid (HRSW60.out.kept hgrow (rows_apartT HRSW60.out HRLW60.out (by decide)))
          have TBW61 := Lib.hid (TBW60.out.grown HRLW60.out hgrow (by decide))
          have HRLW61 := Lib.hid hown
          clear hown hgrow
          refine hK.out _ _ ⟨x2W61, x3W61, x4W61, y2W61, y4W61, g0W61, g1W61⟩ (fun hHeld => ?_)
          clear hK K
          try simp only [Act.put, List.setIfInBounds_toArray, List.set_cons_zero, List.set_cons_succ]
          obtain ⟨⟨cz0, cz1, cz2, cz3, cz4⟩, ⟨fz0, fz1, fz2, fz3, fz4⟩, hty⟩ := TBW61.out
          have zt := hty.lt
          refine tk17 (v := ?_) (by kernel_rfl) (by kernel_rfl) (by kernel_rfl) (by first | exact fun _ _ _ h => h | exact fun _ _ _ h => absurd h.1 (by simp)) (Or.inl ⟨by rfl, ?_⟩) (by assumption) ?_
          rotate_left 1
          focus (intro wx hSw; (try dsimp only at hSw); go_simp; try (with_reducible rfl))
          try simp only [Act.put, List.setIfInBounds_toArray, List.set_cons_zero, List.set_cons_succ]
          refine rd19 (by kernel_rfl) (fun K hK => ?_)
          go_simp
          generalize hWX : (((((W61.setCell ⟨tb, 0, none⟩ (.int .i64 P)).setCell ⟨tb, 1, none⟩ (.slice ua M uc)).setCell ⟨tb, 2, none⟩ (.slice a5 (n0 + n1) k5)).setCell ⟨tb, 3, none⟩ (.slice a7 l0 k7)).setCell ⟨tb, 4, none⟩ (.string (t0 ++ t1))) = WX
          obtain ⟨u0, u1, u2, u3, u4⟩ := put5_cells hWX cz0 cz1 cz2 cz3 cz4
          obtain ⟨h0, h1, h2, h3, h4, hTX, hzX⟩ := put5_more hWX fz0 fz1 fz2 fz3 fz4 hty
          have belX := put5_below hWX belW61 htl
          have HRSX := Lib.hid (put5_ownsT hWX HRSW61.out hty (by decide))
          have HRLX := Lib.hid (put5_ownsT hWX HRLW61.out hty (by decide))
          clear hWX
          refine hK.out _ _ ⟨cell_carry x2 (Carries.of 0 belX), cell_carry x3 (Carries.of 0 belX), cell_carry x4 (Carries.of 0 belX), cell_carry y2 (Carries.of 0 belX), cell_carry y4 (Carries.of 0 belX), cell_carry g0 (Carries.of 0 belX), cell_carry g1 (Carries.of 0 belX)⟩ (fun hHeld => ?_)
          clear hK K
          try simp only [Act.put, List.setIfInBounds_toArray, List.set_cons_zero, List.set_cons_succ]
          refine wpAnyH_done (by kernel_rfl) ?_ _
          exact HK _ _ _ _ _ _ _ _ _ _ _ _ _ _ _ _ _ _ tb WX a5 a7 k5 k7 belX htl (by omega) u0 h0 u1 h1 u2 h2 u3 h3 u4 h4 (Lib.hid hTX) HRSX HRLX
        refine ar18 (fun K hK => ?_) AllReadyH.nil
        go_simp
        have hbb : Below W56.heap.size W56 (W56.alloc (.cells #[.int .i64 0, .slice none 0 0, .slice none 0 0, .slice none 0 0, .string ⟨#[]⟩] 63)) := (Below.refl _ _).alloc (Nat.le_refl _) _
        have zt : W56.heap.size < (W56.alloc (.cells #[.int .i64 0, .slice none 0 0, .slice none 0 0, .slice none 0 0, .string ⟨#[]⟩] 63)).heap.size := by simp
        have hty : TyAt (W56.alloc (.cells #[.int .i64 0, .slice none 0 0, .slice none 0 0, .slice none 0 0, .string ⟨#[]⟩] 63)) W56.heap.size 63 := TyAt.new _ _ _
        have e0 : (W56.alloc (.cells #[.int .i64 0, .slice none 0 0, .slice none 0 0, .slice none 0 0, .string ⟨#[]⟩] 63)).cell? ⟨W56.heap.size, 0, none⟩ = some (.int .i64 0) := by simp
        have e1 : (W56.alloc (.cells #[.int .i64 0, .slice none 0 0, .slice none 0 0, .slice none 0 0, .string ⟨#[]⟩] 63)).cell? ⟨W56.heap.size, 1, none⟩ = some (.slice none 0 0) := by simp
        have e2 : (W56.alloc (.cells #[.int .i64 0, .slice none 0 0, .slice none 0 0, .slice none 0 0, .string ⟨#[]⟩] 63)).cell? ⟨W56.heap.size, 2, none⟩ = some (.slice none 0 0) := by simp
        have e3 : (W56.alloc (.cells #[.int .i64 0, .slice none 0 0, .slice none 0 0, .slice none 0 0, .string ⟨#[]⟩] 63)).cell? ⟨W56.heap.size, 3, none⟩ = some (.slice none 0 0) := by simp
        have e4 : (W56.alloc (.cells #[.int .i64 0, .slice none 0 0, .slice none 0 0, .slice none 0 0, .string ⟨#[]⟩] 63)).cell? ⟨W56.heap.size, 4, none⟩ = some (.string ⟨#[]⟩) := by simp
        have f0 : (W56.alloc (.cells #[.int .i64 0, .slice none 0 0, .slice none 0 0, .slice none 0 0, .string ⟨#[]⟩] 63)).frozen? ⟨W56.heap.size, 0, none⟩ = false := by simp
        have f1 : (W56.alloc (.cells #[.int .i64 0, .slice none 0 0, .slice none 0 0, .slice none 0 0, .string ⟨#[]⟩] 63)).frozen? ⟨W56.heap.size, 1, none⟩ = false := by simp
        have f2 : (W56.alloc (.cells #[.int .i64 0, .slice none 0 0, .slice none 0 0, .slice none 0 0, .string ⟨#[]⟩] 63)).frozen? ⟨W56.heap.size, 2, none⟩ = false := by simp
        have f3 : (W56.alloc (.cells #[.int .i64 0, .slice none 0 0, .slice none 0 0, .slice none 0 0, .string ⟨#[]⟩] 63)).frozen? ⟨W56.heap.size, 3, none⟩ = false := by simp
        have f4 : (W56.alloc (.cells #[.int .i64 0, .slice none 0 0, .slice none 0 0, .slice none 0 0, .string ⟨#[]⟩] 63)).frozen? ⟨W56.heap.size, 4, none⟩ = false := by simp
        generalize W56.alloc (.cells #[.int .i64 0, .slice none 0 0, .slice none 0 0, .slice none 0 0, .string ⟨#[]⟩] 63) = W62 at hbb zt hty e0 e1 e2 e3 e4 f0 f1 f2 f3 f4 ⊢
        obtain ⟨tb, htb⟩ : ∃ t, t = W56.heap.size := ⟨_, rfl⟩
        rw [← htb] at zt hty e0 e1 e2 e3 e4 f0 f1 f2 f3 f4 ⊢
        have htl : w3.heap.size ≤ tb := by have := belW56.size; omega
        clear htb
        have belW62 := belW56.trans (hbb.mono belW56.size)
        have zdW62 := hbb.size
        have x2W62 := cell_carry x2 (Carries.of 0 belW62)
        have x3W62 := cell_carry x3 (Carries.of 0 belW62)
        have x4W62 := cell_carry x4 (Carries.of 0 belW62)
        have y2W62 := cell_carry y2 (Carries.of 0 belW62)
        have y4W62 := cell_carry y4 (Carries.of 0 belW62)
        have g0W62 := cell_carry g0 (Carries.of 0 belW62)
        have g1W62 := cell_carry g1 (Carries.of 0 belW62)
        have HRLW62 := Lib.hid (owns_after HRLW56.out hbb)
        have HRSW62 := Lib.hid (owns_after HRSW56.out hbb)
        have TBW62 := Lib.hid (show Tb5 tb W62 from ⟨⟨e0, e1, e2, e3, e4⟩, ⟨f0, f1, f2, f3, f4⟩, hty⟩)
        clear hbb zt hty e0 e1 e2 e3 e4 f0 f1 f2 f3 f4
        refine hK.out _ _ ⟨x2W62, x3W62, x4W62, y2W62, y4W62, g0W62, g1W62⟩ (fun hHeld => ?_)
        clear hK K
        try simp only [Act.put, List.setIfInBounds_toArray, List.set_cons_zero, List.set_cons_succ]
        refine rd7 (by kernel_rfl) (fun K hK => ?_)
        rw [if_pos (by rfl)]
        refine wp_append_sigs (.tmp 36) (.tmp 38) rfl w3.heap.size lo _ n0 _ rfl HRSW62.out _ s1.sigs rfl (HSB.out.keep (Carries.of lo (hw3.trans (belW62.mono hw3.size)))) (by rw [← HP1.out.2.2.1]; omega) belW62.size ?_
        intro v' W63 hown hgrow
        have hown : W63.ownsRow w3.heap.size 118 2 v' (n0 + n1) (pairCells (sgX (s0.sigs ++ s1.sigs)) (sgY (s0.sigs ++ s1.sigs)) (n0 + n1)) := by
          have e := sigs_app s0.sigs s1.sigs
          rw [← HP0.out.2.2.1, ← HP1.out.2.2.1] at e
          rw [← e]; rw [← HP1.out.2.2.1] at hown; exact hown
        obtain ⟨a5, k5, rfl⟩ := owns_form hown
        have belW63 := belW62.grown hgrow belW62.size (fun g hg => (HRSW62.out.lt g hg).1)
        have zdW63 := hgrow.size
        have x2W63 := cell_carry x2 (Carries.of 0 belW63)
        have x3W63 := cell_carry x3 (Carries.of 0 belW63)
        have x4W63 := cell_carry x4 (Carries.of 0 belW63)
        have y2W63 := cell_carry y2 (Carries.of 0 belW63)
        have y4W63 := cell_carry y4 (Carries.of 0 belW63)
        have g0W63 := cell_carry g0 (Carries.of 0 belW63)
        have g1W63 := cell_carry g1 (Carries.of 0 belW63)
        have HRLW63 := Lib.hid (HRLW62.out.kept hgrow (rows_apartT HRLW62.out HRSW62.out (by decide)))
        have TBW63 := Lib.hid (TBW62.out.grown HRSW62.out hgrow (by decide))
        have HRSW63 := Lib.hid hown
        clear hown hgrow
        refine hK.out _ _ ⟨x2W63, x3W63, x4W63, y2W63, y4W63, g0W63, g1W63⟩ (fun hHeld => ?_)
        clear hK K
        try simp only [Act.put, List.setIfInBounds_toArray, List.set_cons_zero, List.set_cons_succ]
        refine rd11 (by kernel_rfl) (fun K hK => ?_)
        rw [if_pos (by rfl)]
        refine wp_append_labs (.tmp 40) (.tmp 42) rfl w3.heap.size lo _ 0 [] rfl HRLW63.out _ s0.labs rfl (HLA.out.keep (Carries.of lo (hw3.trans (belW63.mono hw3.size)))) (by rw [← HP0.out.2.2.2.1]; omega) belW63.size ?_
        intro v' W64 hown hgrow
        simp only [Nat.zero_add, List.nil_append] at hown
        rw [← HP0.out.2.2.2.1] at hown
        obtain ⟨a7, k7, rfl⟩ := owns_form hown
        have belW64 := belW63.grown hgrow belW63.size (fun g hg => (HRLW63.out.lt g hg).1)
        have zdW64 := hgrow.size
        have x2W64 := cell_carry x2 (Carries.of 0 belW64)
        have x3W64 := cell_carry x3 (Carries.of 0 belW64)
        have x4W64 := cell_carry x4 (Carries.of 0 belW64)
        have y2W64 := cell_carry y2 (Carries.of 0 belW64)
        have y4W64 := cell_carry y4 (Carries.of 0 belW64)
        have g0W64 := cell_carry g0 (Carries.of 0 belW64)
        have g1W64 := cell_carry g1 (Carries.of 0 belW64)
        have HRSW64 := Lib.hid (HRSW63.out.kept hgrow (rows_apartT HRSW63.out HRLW63.out (by decide)))
        have TBW64 := Lib.hid (TBW63.out.grown HRLW63.out hgrow (by decide))
        have HRLW64 := Lib.hid hown
        clear hown hgrow
        refine hK.out _ _ ⟨x2W64, x3W64, x4W64, y2W64, y4W64, g0W64, g1W64⟩ (fun hHeld => ?_)
        clear hK K
        try simp only [Act.put, List.setIfInBounds_toArray, List.set_cons_zero, List.set_cons_succ]
        obtain ⟨⟨cz0, cz1, cz2, cz3, cz4⟩, ⟨fz0, fz1, fz2, fz3, fz4⟩, hty⟩ := TBW64.out
        have zt := hty.lt
        refine tk17 (v := ?_) (by kernel_rfl) (by kernel_rfl) (by kernel_rfl) (by first | exact fun _ _ _ h => h | exact fun _ _ _ h => absurd h.1 (by simp)) (Or.inl ⟨by rfl, ?_⟩) (by assumption) ?_
        rotate_left 1
        focus (intro wx hSw; (try dsimp only at hSw); go_simp; try (with_reducible rfl))
        try simp only [Act.put, List.setIfInBounds_toArray, List.set_cons_zero, List.set_cons_succ]
        refine rd19 (by kernel_rfl) (fun K hK => ?_)
        go_simp
        generalize hWX : (((((W64.setCell ⟨tb, 0, none⟩ (.int .i64 P)).setCell ⟨tb, 1, none⟩ (.slice ua M uc)).setCell ⟨tb, 2, none⟩ (.slice a5 (n0 + n1) k5)).setCell ⟨tb, 3, none⟩ (.slice a7 l0 k7)).setCell ⟨tb, 4, none⟩ (.string (t0 ++ t1))) = WX
        obtain ⟨u0, u1, u2, u3, u4⟩ := put5_cells hWX cz0 cz1 cz2 cz3 cz4
        obtain ⟨h0, h1, h2, h3, h4, hTX, hzX⟩ := put5_more hWX fz0 fz1 fz2 fz3 fz4 hty
        have belX := put5_below hWX belW64 htl
        have HRSX := Lib.hid (put5_ownsT hWX HRSW64.out hty (by decide))
        have HRLX := Lib.hid (put5_ownsT hWX HRLW64.out hty (by decide))
        clear hWX
        refine hK.out _ _ ⟨cell_carry x2 (Carries.of 0 belX), cell_carry x3 (Carries.of 0 belX), cell_carry x4 (Carries.of 0 belX), cell_carry y2 (Carries.of 0 belX), cell_carry y4 (Carries.of 0 belX), cell_carry g0 (Carries.of 0 belX), cell_carry g1 (Carries.of 0 belX)⟩ (fun hHeld => ?_)
        clear hK K
        try simp only [Act.put, List.setIfInBounds_toArray, List.set_cons_zero, List.set_cons_succ]
        refine wpAnyH_done (by kernel_rfl) ?_ _
        exact HK _ _ _ _ _ _ _ _ _ _ _ _ _ _ _ _ _ _ tb WX a5 a7 k5 k7 belX htl (by omega) u0 h0 u1 h1 u2 h2 u3 h3 u4 h4 (Lib.hid hTX) HRSX HRLX
      refine ar18 (fun K hK => ?_) AllReadyH.nil
      go_simp
      have hbb : Below W55.heap.size W55 (W55.alloc (.cells #[.int .i64 0, .slice none 0 0, .slice none 0 0, .slice none 0 0, .string ⟨#[]⟩] 63)) := (Below.refl _ _).alloc (Nat.le_refl _) _
      have zt : W55.heap.size < (W55.alloc (.cells #[.int .i64 0, .slice none 0 0, .slice none 0 0, .slice none 0 0, .string ⟨#[]⟩] 63)).heap.size := by simp
      have hty : TyAt (W55.alloc (.cells #[.int .i64 0, .slice none 0 0, .slice none 0 0, .slice none 0 0, .string ⟨#[]⟩] 63)) W55.heap.size 63 := TyAt.new _ _ _
      have e0 : (W55.alloc (.cells #[.int .i64 0, .slice none 0 0, .slice none 0 0, .slice none 0 0, .string ⟨#[]⟩] 63)).cell? ⟨W55.heap.size, 0, none⟩ = some (.int .i64 0) := by simp
      have e1 : (W55.alloc (.cells #[.int .i64 0, .slice none 0 0, .slice none 0 0, .slice none 0 0, .string ⟨#[]⟩] 63)).cell? ⟨W55.heap.size, 1, none⟩ = some (.slice none 0 0) := by simp
      have e2 : (W55.alloc (.cells #[.int .i64 0, .slice none 0 0, .slice none 0 0, .slice none 0 0, .string ⟨#[]⟩] 63)).cell? ⟨W55.heap.size, 2, none⟩ = some (.slice none 0 0) := by simp
      have e3 : (W55.alloc (.cells #[.int .i64 0, .slice none 0 0, .slice none 0 0, .slice none 0 0, .string ⟨#[]⟩] 63)).cell? ⟨W55.heap.size, 3, none⟩ = some (.slice none 0 0) := by simp
      have e4 : (W55.alloc (.cells #[.int .i64 0, .slice none 0 0, .slice none 0 0, .slice none 0 0, .string ⟨#[]⟩] 63)).cell? ⟨W55.heap.size, 4, none⟩ = some (.string ⟨#[]⟩) := by simp
      have f0 : (W55.alloc (.cells #[.int .i64 0, .slice none 0 0, .slice none 0 0, .slice none 0 0, .string ⟨#[]⟩] 63)).frozen? ⟨W55.heap.size, 0, none⟩ = false := by simp
      have f1 : (W55.alloc (.cells #[.int .i64 0, .slice none 0 0, .slice none 0 0, .slice none 0 0, .string ⟨#[]⟩] 63)).frozen? ⟨W55.heap.size, 1, none⟩ = false := by simp
      have f2 : (W55.alloc (.cells #[.int .i64 0, .slice none 0 0, .slice none 0 0, .slice none 0 0, .string ⟨#[]⟩] 63)).frozen? ⟨W55.heap.size, 2, none⟩ = false := by simp
      have f3 : (W55.alloc (.cells #[.int .i64 0, .slice none 0 0, .slice none 0 0, .slice none 0 0, .string ⟨#[]⟩] 63)).frozen? ⟨W55.heap.size, 3, none⟩ = false := by simp
      have f4 : (W55.alloc (.cells #[.int .i64 0, .slice none 0 0, .slice none 0 0, .slice none 0 0, .string ⟨#[]⟩] 63)).frozen? ⟨W55.heap.size, 4, none⟩ = false := by simp
      generalize W55.alloc (.cells #[.int .i64 0, .slice none 0 0, .slice none 0 0, .slice none 0 0, .string ⟨#[]⟩] 63) = W65 at hbb zt hty e0 e1 e2 e3 e4 f0 f1 f2 f3 f4 ⊢
      obtain ⟨tb, htb⟩ : ∃ t, t = W55.heap.size := ⟨_, rfl⟩
      rw [← htb] at zt hty e0 e1 e2 e3 e4 f0 f1 f2 f3 f4 ⊢
      have htl : w3.heap.size ≤ tb := by have := belW55.size; omega
      clear htb
      have belW65 := belW55.trans (hbb.mono belW55.size)
      have zdW65 := hbb.size
      have x2W65 := cell_carry x2 (Carries.of 0 belW65)
      have x3W65 := cell_carry x3 (Carries.of 0 belW65)
      have x4W65 := cell_carry x4 (Carries.of 0 belW65)
      have y2W65 := cell_carry y2 (Carries.of 0 belW65)
      have y4W65 := cell_carry y4 (Carries.of 0 belW65)
      have g0W65 := cell_carry g0 (Carries.of 0 belW65)
      have g1W65 := cell_carry g1 (Carries.of 0 belW65)
      have HRLW65 := Lib.hid (owns_after HRLW55.out hbb)
      have HRSW65 := Lib.hid (owns_after HRSW55.out hbb)
      have TBW65 := Lib.hid (show Tb5 tb W65 from ⟨⟨e0, e1, e2, e3, e4⟩, ⟨f0, f1, f2, f3, f4⟩, hty⟩)
      clear hbb zt hty e0 e1 e2 e3 e4 f0 f1 f2 f3 f4
      refine hK.out _ _ ⟨x2W65, x3W65, x4W65, y2W65, y4W65, g0W65, g1W65⟩ (fun hHeld => ?_)
      clear hK K
      try simp only [Act.put, List.setIfInBounds_toArray, List.set_cons_zero, List.set_cons_succ]
      refine rd4 (by kernel_rfl) (fun K hK => ?_)
      rw [if_pos (by rfl)]
      refine wp_append_sigs (.tmp 33) (.tmp 35) rfl w3.heap.size lo _ 0 [] rfl HRSW65.out _ s0.sigs rfl (HSA.out.keep (Carries.of lo (hw3.trans (belW65.mono hw3.size)))) (by rw [← HP0.out.2.2.1]; omega) belW65.size ?_
      intro v' W66 hown hgrow
      simp only [Nat.zero_add, List.nil_append] at hown
      rw [← HP0.out.2.2.1] at hown
      obtain ⟨a4, k4, rfl⟩ := owns_form hown
      have belW66 := belW65.grown hgrow belW65.size (fun g hg => (HRSW65.out.lt g hg).1)
      have zdW66 := hgrow.size
      have x2W66 := cell_carry x2 (Carries.of 0 belW66)
      have x3W66 := cell_carry x3 (Carries.of 0 belW66)
      have x4W66 := cell_carry x4 (Carries.of 0 belW66)
      have y2W66 := cell_carry y2 (Carries.of 0 belW66)
      have y4W66 := cell_carry y4 (Carries.of 0 belW66)
      have g0W66 := cell_carry g0 (Carries.of 0 belW66)
      have g1W66 := cell_carry g1 (Carries.of 0 belW66)
      have HRLW66 := Lib.hid (HRLW65.out.kept hgrow (rows_apartT HRLW65.out HRSW65.out (by decide)))
      have TBW66 := Lib.hid (TBW65.out.grown HRSW65.out hgrow (by decide))
      have HRSW66 := Lib.hid hown
      clear hown hgrow
      refine hK.out _ _ ⟨x2W66, x3W66, x4W66, y2W66, y4W66, g0W66, g1W66⟩ (fun hHeld => ?_)
      clear hK K
      try simp only [Act.put, List.setIfInBounds_toArray, List.set_cons_zero, List.set_cons_succ]
      refine rd7 (by kernel_rfl) (fun K hK => ?_)
      rw [if_pos (by rfl)]
      refine wp_append_sigs (.tmp 36) (.tmp 38) rfl w3.heap.size lo _ n0 _ rfl HRSW66.out _ s1.sigs rfl (HSB.out.keep (Carries.of lo (hw3.trans (belW66.mono hw3.size)))) (by rw [← HP1.out.2.2.1]; omega) belW66.size ?_
      intro v' W67 hown hgrow
      have hown : W67.ownsRow w3.heap.size 118 2 v' (n0 + n1) (pairCells (sgX (s0.sigs ++ s1.sigs)) (sgY (s0.sigs ++ s1.sigs)) (n0 + n1)) := by
        have e := sigs_app s0.sigs s1.sigs
        rw [← HP0.out.2.2.1, ← HP1.out.2.2.1] at e
        rw [← e]; rw [← HP1.out.2.2.1] at hown; exact hown
      obtain ⟨a5, k5, rfl⟩ := owns_form hown
      have belW67 := belW66.grown hgrow belW66.size (fun g hg => (HRSW66.out.lt g hg).1)
      have zdW67 := hgrow.size
      have x2W67 := cell_carry x2 (Carries.of 0 belW67)
      have x3W67 := cell_carry x3 (Carries.of 0 belW67)
      have x4W67 := cell_carry x4 (Carries.of 0 belW67)
      have y2W67 := cell_carry y2 (Carries.of 0 belW67)
      have y4W67 := cell_carry y4 (Carries.of 0 belW67)
      have g0W67 := cell_carry g0 (Carries.of 0 belW67)
      have g1W67 := cell_carry g1 (Carries.of 0 belW67)
      have HRLW67 := Lib.hid (HRLW66.out.kept hgrow (rows_apartT HRLW66.out HRSW66.out (by decide)))
      have TBW67 := Lib.hid (TBW66.out.grown HRSW66.out hgrow (by decide))
      have HRSW67 := Lib.hid hown
      clear hown hgrow
      refine hK.out _ _ ⟨x2W67, x3W67, x4W67, y2W67, y4W67, g0W67, g1W67⟩ (fun hHeld => ?_)
      clear hK K
      try simp only [Act.put, List.setIfInBounds_toArray, List.set_cons_zero, List.set_cons_succ]
      refine rd11 (by kernel_rfl) (fun K hK => ?_)
      rw [if_pos (by rfl)]
      refine wp_append_labs (.tmp 40) (.tmp 42) rfl w3.heap.size lo _ 0 [] rfl HRLW67.out _ s0.labs rfl (HLA.out.keep (Carries.of lo (hw3.trans (belW67.mono hw3.size)))) (by rw [← HP0.out.2.2.2.1]; omega) belW67.size ?_
      intro v' W68 hown hgrow
      simp only [Nat.zero_add, List.nil_append] at hown
      rw [← HP0.out.2.2.2.1] at hown
      obtain ⟨a7, k7, rfl⟩ := owns_form hown
      have belW68 := belW67.grown hgrow belW67.size (fun g hg => (HRLW67.out.lt g hg).1)
      have zdW68 := hgrow.size
      have x2W68 := cell_carry x2 (Carries.of 0 belW68)
      have x3W68 := cell_carry x3 (Carries.of 0 belW68)
      have x4W68 := cell_carry x4 (Carries.of 0 belW68)
      have y2W68 := cell_carry y2 (Carries.of 0 belW68)
      have y4W68 := cell_carry y4 (Carries.of 0 belW68)
      have g0W68 := cell_carry g0 (Carries.of 0 belW68)
      have g1W68 := cell_carry g1 (Carries.of 0 belW68)
      have HRSW68 := Lib.hid (HRSW67.out.kept hgrow (rows_apartT HRSW67.out HRLW67.out (by decide)))
      have TBW68 := Lib.hid (TBW67.out.grown HRLW67.out hgrow (by decide))
      have HRLW68 := Lib.hid hown
      clear hown hgrow
      refine hK.out _ _ ⟨x2W68, x3W68, x4W68, y2W68, y4W68, g0W68, g1W68⟩ (fun hHeld => ?_)
      clear hK K
      try simp only [Act.put, List.setIfInBounds_toArray, List.set_cons_zero, List.set_cons_succ]
      obtain ⟨⟨cz0, cz1, cz2, cz3, cz4⟩, ⟨fz0, fz1, fz2, fz3, fz4⟩, hty⟩ := TBW68.out
      have zt := hty.lt
      refine tk17 (v := ?_) (by kernel_rfl) (by kernel_rfl) (by kernel_rfl) (by first | exact fun _ _ _ h => h | exact fun _ _ _ h => absurd h.1 (by simp)) (Or.inl ⟨by rfl, ?_⟩) (by assumption) ?_
      rotate_left 1
      focus (intro wx hSw; (try dsimp only at hSw); go_simp; try (with_reducible rfl))
      try simp only [Act.put, List.setIfInBounds_toArray, List.set_cons_zero, List.set_cons_succ]
      refine rd19 (by kernel_rfl) (fun K hK => ?_)
      go_simp
      generalize hWX : (((((W68.setCell ⟨tb, 0, none⟩ (.int .i64 P)).setCell ⟨tb, 1, none⟩ (.slice ua M uc)).setCell ⟨tb, 2, none⟩ (.slice a5 (n0 + n1) k5)).setCell ⟨tb, 3, none⟩ (.slice a7 l0 k7)).setCell ⟨tb, 4, none⟩ (.string (t0 ++ t1))) = WX
      obtain ⟨u0, u1, u2, u3, u4⟩ := put5_cells hWX cz0 cz1 cz2 cz3 cz4
      obtain ⟨h0, h1, h2, h3, h4, hTX, hzX⟩ := put5_more hWX fz0 fz1 fz2 fz3 fz4 hty
      have belX := put5_below hWX belW68 htl
      have HRSX := Lib.hid (put5_ownsT hWX HRSW68.out hty (by decide))
      have HRLX := Lib.hid (put5_ownsT hWX HRLW68.out hty (by decide))
      clear hWX
      refine hK.out _ _ ⟨cell_carry x2 (Carries.of 0 belX), cell_carry x3 (Carries.of 0 belX), cell_carry x4 (Carries.of 0 belX), cell_carry y2 (Carries.of 0 belX), cell_carry y4 (Carries.of 0 belX), cell_carry g0 (Carries.of 0 belX), cell_carry g1 (Carries.of 0 belX)⟩ (fun hHeld => ?_)
      clear hK K
      try simp only [Act.put, List.setIfInBounds_toArray, List.set_cons_zero, List.set_cons_succ]
      refine wpAnyH_done (by kernel_rfl) ?_ _
      exact HK _ _ _ _ _ _ _ _ _ _ _ _ _ _ _ _ _ _ tb WX a5 a7 k5 k7 belX htl (by omega) u0 h0 u1 h1 u2 h2 u3 h3 u4 h4 (Lib.hid hTX) HRSX HRLX
    refine ar18 (fun K hK => ?_) AllReadyH.nil
    go_simp
    have hbb : Below W54.heap.size W54 (W54.alloc (.cells #[.int .i64 0, .slice none 0 0, .slice none 0 0, .slice none 0 0, .string ⟨#[]⟩] 63)) := (Below.refl _ _).alloc (Nat.le_refl _) _
    have zt : W54.heap.size < (W54.alloc (.cells #[.int .i64 0, .slice none 0 0, .slice none 0 0, .slice none 0 0, .string ⟨#[]⟩] 63)).heap.size := by simp
    have hty : TyAt (W54.alloc (.cells #[.int .i64 0, .slice none 0 0, .slice none 0 0, .slice none 0 0, .string ⟨#[]⟩] 63)) W54.heap.size 63 := TyAt.new _ _ _
    have e0 : (W54.alloc (.cells #[.int .i64 0, .slice none 0 0, .slice none 0 0, .slice none 0 0, .string ⟨#[]⟩] 63)).cell? ⟨W54.heap.size, 0, none⟩ = some (.int .i64 0) := by simp
    have e1 : (W54.alloc (.cells #[.int .i64 0, .slice none 0 0, .slice none 0 0, .slice none 0 0, .string ⟨#[]⟩] 63)).cell? ⟨W54.heap.size, 1, none⟩ = some (.slice none 0 0) := by simp
    have e2 : (W54.alloc (.cells #[.int .i64 0, .slice none 0 0, .slice none 0 0, .slice none 0 0, .string ⟨#[]⟩] 63)).cell? ⟨W54.heap.size, 2, none⟩ = some (.slice none 0 0) := by simp
    have e3 : (W54.alloc (.cells #[.int .i64 0, .slice none 0 0, .slice none 0 0, .slice none 0 0, .string ⟨#[]⟩] 63)).cell? ⟨W54.heap.size, 3, none⟩ = some (.slice none 0 0) := by simp
    have e4 : (W54.alloc (.cells #[.int .i64 0, .slice none 0 0, .slice none 0 0, .slice none 0 0, .string ⟨#[]⟩] 63)).cell? ⟨W54.heap.size, 4, none⟩ = some (.string ⟨#[]⟩) := by simp
    have f0 : (W54.alloc (.cells #[.int .i64 0, .slice none 0 0, .slice none 0 0, .slice none 0 0, .string ⟨#[]⟩] 63)).frozen? ⟨W54.heap.size, 0, none⟩ = false := by simp
    have f1 : (W54.alloc (.cells #[.int .i64 0, .slice none 0 0, .slice none 0 0, .slice none 0 0, .string ⟨#[]⟩] 63)).frozen? ⟨W54.heap.size, 1, none⟩ = false := by simp
    have f2 : (W54.alloc (.cells #[.int .i64 0, .slice none 0 0, .slice none 0 0, .slice none 0 0, .string ⟨#[]⟩] 63)).frozen? ⟨W54.heap.size, 2, none⟩ = false := by simp
    have f3 : (W54.alloc (.cells #[.int .i64 0, .slice none 0 0, .slice none 0 0, .slice none 0 0, .string ⟨#[]⟩] 63)).frozen? ⟨W54.heap.size, 3, none⟩ = false := by simp
    have f4 : (W54.alloc (.cells #[.int .i64 0, .slice none 0 0, .slice none 0 0, .slice none 0 0, .string ⟨#[]⟩] 63)).frozen? ⟨W54.heap.size, 4, none⟩ = false := by simp
    generalize W54.alloc (.cells #[.int .i64 0, .slice none 0 0, .slice none 0 0, .slice none 0 0, .string ⟨#[]⟩] 63) = W69 at hbb zt hty e0 e1 e2 e3 e4 f0 f1 f2 f3 f4 ⊢
    obtain ⟨tb, htb⟩ : ∃ t, t = W54.heap.size := ⟨_, rfl⟩
    rw [← htb] at zt hty e0 e1 e2 e3 e4 f0 f1 f2 f3 f4 ⊢
    have htl : w3.heap.size ≤ tb := by have := belW54.size; omega
    clear htb
    have belW69 := belW54.trans (hbb.mono belW54.size)
    have zdW69 := hbb.size
    have x2W69 := cell_carry x2 (Carries.of 0 belW69)
    have x3W69 := cell_carry x3 (Carries.of 0 belW69)
    have x4W69 := cell_carry x4 (Carries.of 0 belW69)
    have y2W69 := cell_carry y2 (Carries.of 0 belW69)
    have y4W69 := cell_carry y4 (Carries.of 0 belW69)
    have g0W69 := cell_carry g0 (Carries.of 0 belW69)
    have g1W69 := cell_carry g1 (Carries.of 0 belW69)
    have HRLW69 := Lib.hid (owns_after HRLW54.out hbb)
    have TBW69 := Lib.hid (show Tb5 tb W69 from ⟨⟨e0, e1, e2, e3, e4⟩, ⟨f0, f1, f2, f3, f4⟩, hty⟩)
    clear hbb zt hty e0 e1 e2 e3 e4 f0 f1 f2 f3 f4
    refine hK.out _ _ ⟨x2W69, x3W69, x4W69, y2W69, y4W69, g0W69, g1W69⟩ (fun hHeld => ?_)
    clear hK K
    try simp only [Act.put, List.setIfInBounds_toArray, List.set_cons_zero, List.set_cons_succ]
    refine rd1 (by kernel_rfl) (fun K hK => ?_)
    go_simp
    have hbb : Below W69.heap.size W69 (W69.alloc (.cells #[] 118)) := (Below.refl _ _).alloc (Nat.le_refl _) _
    have hown : (W69.alloc (.cells #[] 118)).ownsRow w3.heap.size 118 2 (.slice (some ⟨W69.heap.size, 0, none⟩) 0 0) 0 [] :=
      ⟨rfl, Or.inr ⟨W69.heap.size, 0, #[], rfl, belW69.size, heap_alloc_new W69 _, Nat.le_refl _, Nat.zero_le _, rfl, rfl⟩⟩
    generalize W69.alloc (.cells #[] 118) = W70 at hbb hown ⊢
    have belW70 := belW69.trans (hbb.mono belW69.size)
    have zdW70 := hbb.size
    have x2W70 := cell_carry x2 (Carries.of 0 belW70)
    have x3W70 := cell_carry x3 (Carries.of 0 belW70)
    have x4W70 := cell_carry x4 (Carries.of 0 belW70)
    have y2W70 := cell_carry y2 (Carries.of 0 belW70)
    have y4W70 := cell_carry y4 (Carries.of 0 belW70)
    have g0W70 := cell_carry g0 (Carries.of 0 belW70)
    have g1W70 := cell_carry g1 (Carries.of 0 belW70)
    have HRLW70 := Lib.hid (owns_after HRLW69.out hbb)
    have TBW70 := Lib.hid (TBW69.out.after hbb)
    have HRSW70 := Lib.hid hown
    clear hown hbb
    refine hK.out _ _ ⟨x2W70, x3W70, x4W70, y2W70, y4W70, g0W70, g1W70⟩ (fun hHeld => ?_)
    clear hK K
    try simp only [Act.put, List.setIfInBounds_toArray, List.set_cons_zero, List.set_cons_succ]
    refine rd4 (by kernel_rfl) (fun K hK => ?_)
    rw [if_pos (by rfl)]
    refine wp_append_sigs (.tmp 33) (.tmp 35) rfl w3.heap.size lo _ 0 [] rfl HRSW70.out _ s0.sigs rfl (HSA.out.keep (Carries.of lo (hw3.trans (belW70.mono hw3.size)))) (by rw [← HP0.out.2.2.1]; omega) belW70.size ?_
    intro v' W71 hown hgrow
    simp only [Nat.zero_add, List.nil_append] at hown
    rw [← HP0.out.2.2.1] at hown
    obtain ⟨a4, k4, rfl⟩ := owns_form hown
    have belW71 := belW70.grown hgrow belW70.size (fun g hg => (HRSW70.out.lt g hg).1)
    have zdW71 := hgrow.size
    have x2W71 := cell_carry x2 (Carries.of 0 belW71)
    have x3W71 := cell_carry x3 (Carries.of 0 belW71)
    have x4W71 := cell_carry x4 (Carries.of 0 belW71)
    have y2W71 := cell_carry y2 (Carries.of 0 belW71)
    have y4W71 := cell_carry y4 (Carries.of 0 belW71)
    have g0W71 := cell_carry g0 (Carries.of 0 belW71)
    have g1W71 := cell_carry g1 (Carries.of 0 belW71)
    have HRLW71 := Lib.hid (HRLW70.out.kept hgrow (rows_apartT HRLW70.out HRSW70.out (by decide)))
    have TBW71 := Lib.hid (TBW70.out.grown HRSW70.out hgrow (by decide))
    have HRSW71 := Lib.hid hown
    clear hown hgrow
    refine hK.out _ _ ⟨x2W71, x3W71, x4W71, y2W71, y4W71, g0W71, g1W71⟩ (fun hHeld => ?_)
    clear hK K
    try simp only [Act.put, List.setIfInBounds_toArray, List.set_cons_zero, List.set_cons_succ]
    refine rd7 (by kernel_rfl) (fun K hK => ?_)
    rw [if_pos (by rfl)]
    refine wp_append_sigs (.tmp 36) (.tmp 38) rfl w3.heap.size lo _ n0 _ rfl HRSW71.out _ s1.sigs rfl (HSB.out.keep (Carries.of lo (hw3.trans (belW71.mono hw3.size)))) (by rw [← HP1.out.2.2.1]; omega) belW71.size ?_
    intro v' W72 hown hgrow
    have hown : W72.ownsRow w3.heap.size 118 2 v' (n0 + n1) (pairCells (sgX (s0.sigs ++ s1.sigs)) (sgY (s0.sigs ++ s1.sigs)) (n0 + n1)) := by
      have e := sigs_app s0.sigs s1.sigs
      rw [← HP0.out.2.2.1, ← HP1.out.2.2.1] at e
      rw [← e]; rw [← HP1.out.2.2.1] at hown; exact hown
    obtain ⟨a5, k5, rfl⟩ := owns_form hown
    have belW72 := belW71.grown hgrow belW71.size (fun g hg => (HRSW71.out.lt g hg).1)
    have zdW72 := hgrow.size
    have x2W72 := cell_carry x2 (Carries.of 0 belW72)
    have x3W72 := cell_carry x3 (Carries.of 0 belW72)
    have x4W72 := cell_carry x4 (Carries.of 0 belW72)
    have y2W72 := cell_carry y2 (Carries.of 0 belW72)
    have y4W72 := cell_carry y4 (Carries.of 0 belW72)
    have g0W72 := cell_carry g0 (Carries.of 0 belW72)
    have g1W72 := cell_carry g1 (Carries.of 0 belW72)
    have HRLW72 := Lib.hid (HRLW71.out.kept hgrow (rows_apartT HRLW71.out HRSW71.out (by decide)))
    have TBW72 := Lib.hid (TBW71.out.grown HRSW71.out hgrow (by decide))
    have HRSW72 := Lib.hid hown
    clear hown hgrow
    refine hK.out _ _ ⟨x2W72, x3W72, x4W72, y2W72, y4W72, g0W72, g1W72⟩ (fun hHeld => ?_)
    clear hK K
    try simp only [Act.put, List.setIfInBounds_toArray, List.set_cons_zero, List.set_cons_succ]
    refine rd11 (by kernel_rfl) (fun K hK => ?_)
    rw [if_pos (by rfl)]
    refine wp_append_labs (.tmp 40) (.tmp 42) rfl w3.heap.size lo _ 0 [] rfl HRLW72.out _ s0.labs rfl (HLA.out.keep (Carries.of lo (hw3.trans (belW72.mono hw3.size)))) (by rw [← HP0.out.2.2.2.1]; omega) belW72.size ?_
    intro v' W73 hown hgrow
    simp only [Nat.zero_add, List.nil_append] at hown
    rw [← HP0.out.2.2.2.1] at hown
    obtain ⟨a7, k7, rfl⟩ := owns_form hown
    have belW73 := belW72.grown hgrow belW72.size (fun g hg => (HRLW72.out.lt g hg).1)
    have zdW73 := hgrow.size
    have x2W73 := cell_carry x2 (Carries.of 0 belW73)
    have x3W73 := cell_carry x3 (Carries.of 0 belW73)
    have x4W73 := cell_carry x4 (Carries.of 0 belW73)
    have y2W73 := cell_carry y2 (Carries.of 0 belW73)
    have y4W73 := cell_carry y4 (Carries.of 0 belW73)
    have g0W73 := cell_carry g0 (Carries.of 0 belW73)
    have g1W73 := cell_carry g1 (Carries.of 0 belW73)
    have TBW73 := Lib.hid (TBW72.out.grown HRLW72.out hgrow (by decide))
    have HRSW73 := Lib.hid (HRSW72.out.kept hgrow (rows_apartT HRSW72.out HRLW72.out (by decide)))
    have HRLW73 := Lib.hid hown
    clear hown hgrow
    refine hK.out _ _ ⟨x2W73, x3W73, x4W73, y2W73, y4W73, g0W73, g1W73⟩ (fun hHeld => ?_)
    clear hK K
    try simp only [Act.put, List.setIfInBounds_toArray, List.set_cons_zero, List.set_cons_succ]
    obtain ⟨⟨cz0, cz1, cz2, cz3, cz4⟩, ⟨fz0, fz1, fz2, fz3, fz4⟩, hty⟩ := TBW73.out
    have zt := hty.lt
    refine tk17 (v := ?_) (by kernel_rfl) (by kernel_rfl) (by kernel_rfl) (by first | exact fun _ _ _ h => h | exact fun _ _ _ h => absurd h.1 (by simp)) (Or.inl ⟨by rfl, ?_⟩) (by assumption) ?_
    rotate_left 1
    focus (intro wx hSw; (try dsimp only at hSw); go_simp; try (with_reducible rfl))
    try simp only [Act.put, List.setIfInBounds_toArray, List.set_cons_zero, List.set_cons_succ]
    refine rd19 (by kernel_rfl) (fun K hK => ?_)
    go_simp
    generalize hWX : (((((W73.setCell ⟨tb, 0, none⟩ (.int .i64 P)).setCell ⟨tb, 1, none⟩ (.slice ua M uc)).setCell ⟨tb, 2, none⟩ (.slice a5 (n0 + n1) k5)).setCell ⟨tb, 3, none⟩ (.slice a7 l0 k7)).setCell ⟨tb, 4, none⟩ (.string (t0 ++ t1))) = WX
    obtain ⟨u0, u1, u2, u3, u4⟩ := put5_cells hWX cz0 cz1 cz2 cz3 cz4
    obtain ⟨h0, h1, h2, h3, h4, hTX, hzX⟩ := put5_more hWX fz0 fz1 fz2 fz3 fz4 hty
    have belX := put5_below hWX belW73 htl
    have HRSX := Lib.hid (put5_ownsT hWX HRSW73.out hty (by decide))
    have HRLX := Lib.hid (put5_ownsT hWX HRLW73.out hty (by decide))
    clear hWX
    refine hK.out _ _ ⟨cell_carry x2 (Carries.of 0 belX), cell_carry x3 (Carries.of 0 belX), cell_carry x4 (Carries.of 0 belX), cell_carry y2 (Carries.of 0 belX), cell_carry y4 (Carries.of 0 belX), cell_carry g0 (Carries.of 0 belX), cell_carry g1 (Carries.of 0 belX)⟩ (fun hHeld => ?_)
    clear hK K
    try simp only [Act.put, List.setIfInBounds_toArray, List.set_cons_zero, List.set_cons_succ]
    refine wpAnyH_done (by kernel_rfl) ?_ _
    exact HK _ _ _ _ _ _ _ _ _ _ _ _ _ _ _ _ _ _ tb WX a5 a7 k5 k7 belX htl (by omega) u0 h0 u1 h1 u2 h2 u3 h3 u4 h4 (Lib.hid hTX) HRSX HRLX
  refine ar18 (fun K hK => ?_) AllReadyH.nil
  go_simp
  have hbb : Below V.heap.size V (V.alloc (.cells #[.int .i64 0, .slice none 0 0, .slice none 0 0, .slice none 0 0, .string ⟨#[]⟩] 63)) := (Below.refl _ _).alloc (Nat.le_refl _) _
  have zt : V.heap.size < (V.alloc (.cells #[.int .i64 0, .slice none 0 0, .slice none 0 0, .slice none 0 0, .string ⟨#[]⟩] 63)).heap.size := by simp
  have hty : TyAt (V.alloc (.cells #[.int .i64 0, .slice none 0 0, .slice none 0 0, .slice none 0 0, .string ⟨#[]⟩] 63)) V.heap.size 63 := TyAt.new _ _ _
  have e0 : (V.alloc (.cells #[.int .i64 0, .slice none 0 0, .slice none 0 0, .slice none 0 0, .string ⟨#[]⟩] 63)).cell? ⟨V.heap.size, 0, none⟩ = some (.int .i64 0) := by simp
  have e1 : (V.alloc (.cells #[.int .i64 0, .slice none 0 0, .slice none 0 0, .slice none 0 0, .string ⟨#[]⟩] 63)).cell? ⟨V.heap.size, 1, none⟩ = some (.slice none 0 0) := by simp
  have e2 : (V.alloc (.cells #[.int .i64 0, .slice none 0 0, .slice none 0 0, .slice none 0 0, .string ⟨#[]⟩] 63)).cell? ⟨V.heap.size, 2, none⟩ = some (.slice none 0 0) := by simp
  have e3 : (V.alloc (.cells #[.int .i64 0, .slice none 0 0, .slice none 0 0, .slice none 0 0, .string ⟨#[]⟩] 63)).cell? ⟨V.heap.size, 3, none⟩ = some (.slice none 0 0) := by simp
  have e4 : (V.alloc (.cells #[.int .i64 0, .slice none 0 0, .slice none 0 0, .slice none 0 0, .string ⟨#[]⟩] 63)).cell? ⟨V.heap.size, 4, none⟩ = some (.string ⟨#[]⟩) := by simp
  have f0 : (V.alloc (.cells #[.int .i64 0, .slice none 0 0, .slice none 0 0, .slice none 0 0, .string ⟨#[]⟩] 63)).frozen? ⟨V.heap.size, 0, none⟩ = false := by simp
  have f1 : (V.alloc (.cells #[.int .i64 0, .slice none 0 0, .slice none 0 0, .slice none 0 0, .string ⟨#[]⟩] 63)).frozen? ⟨V.heap.size, 1, none⟩ = false := by simp
  have f2 : (V.alloc (.cells #[.int .i64 0, .slice none 0 0, .slice none 0 0, .slice none 0 0, .string ⟨#[]⟩] 63)).frozen? ⟨V.heap.size, 2, none⟩ = false := by simp
  have f3 : (V.alloc (.cells #[.int .i64 0, .slice none 0 0, .slice none 0 0, .slice none 0 0, .string ⟨#[]⟩] 63)).frozen? ⟨V.heap.size, 3, none⟩ = false := by simp
  have f4 : (V.alloc (.cells #[.int .i64 0, .slice none 0 0, .slice none 0 0, .slice none 0 0, .string ⟨#[]⟩] 63)).frozen? ⟨V.heap.size, 4, none⟩ = false := by simp
  generalize V.alloc (.cells #[.int .i64 0, .slice none 0 0, .slice none 0 0, .slice none 0 0, .string ⟨#[]⟩] 63) = W74 at hbb zt hty e0 e1 e2 e3 e4 f0 f1 f2 f3 f4 ⊢
  obtain ⟨tb, htb⟩ : ∃ t, t = V.heap.size := ⟨_, rfl⟩
  rw [← htb] at zt hty e0 e1 e2 e3 e4 f0 f1 f2 f3 f4 ⊢
  have htl : w3.heap.size ≤ tb := by have := belV.size; omega
  clear htb
  have belW74 := belV.trans (hbb.mono belV.size)
  have zdW74 := hbb.size
  have x2W74 := cell_carry x2 (Carries.of 0 belW74)
  have x3W74 := cell_carry x3 (Carries.of 0 belW74)
  have x4W74 := cell_carry x4 (Carries.of 0 belW74)
  have y2W74 := cell_carry y2 (Carries.of 0 belW74)
  have y4W74 := cell_carry y4 (Carries.of 0 belW74)
  have g0W74 := cell_carry g0 (Carries.of 0 belW74)
  have g1W74 := cell_carry g1 (Carries.of 0 belW74)
  have TBW74 := Lib.hid (show Tb5 tb W74 from ⟨⟨e0, e1, e2, e3, e4⟩, ⟨f0, f1, f2, f3, f4⟩, hty⟩)
  clear hbb zt hty e0 e1 e2 e3 e4 f0 f1 f2 f3 f4
  refine hK.out _ _ ⟨x2W74, x3W74, x4W74, y2W74, y4W74, g0W74, g1W74⟩ (fun hHeld => ?_)
  clear hK K
  try simp only [Act.put, List.setIfInBounds_toArray, List.set_cons_zero, List.set_cons_succ]
  refine wpAnyH_ready (rs := [1, 8]) (by kernel_rfl) (by simp) ?_
  refine ar1 (fun K hK => ?_) ?_
  · go_simp
    have hbb : Below W74.heap.size W74 (W74.alloc (.cells #[] 118)) := (Below.refl _ _).alloc (Nat.le_refl _) _
    have hown : (W74.alloc (.cells #[] 118)).ownsRow w3.heap.size 118 2 (.slice (some ⟨W74.heap.size, 0, none⟩) 0 0) 0 [] :=
      ⟨rfl, Or.inr ⟨W74.heap.size, 0, #[], rfl, belW74.size, heap_alloc_new W74 _, Nat.le_refl _, Nat.zero_le _, rfl, rfl⟩⟩
    generalize W74.alloc (.cells #[] 118) = W75 at hbb hown ⊢
    have belW75 := belW74.trans (hbb.mono belW74.size)
    have zdW75 := hbb.size
    have x2W75 := cell_carry x2 (Carries.of 0 belW75)
    have x3W75 := cell_carry x3 (Carries.of 0 belW75)
    have x4W75 := cell_carry x4 (Carries.of 0 belW75)
    have y2W75 := cell_carry y2 (Carries.of 0 belW75)
    have y4W75 := cell_carry y4 (Carries.of 0 belW75)
    have g0W75 := cell_carry g0 (Carries.of 0 belW75)
    have g1W75 := cell_carry g1 (Carries.of 0 belW75)
    have TBW75 := Lib.hid (TBW74.out.after hbb)
    have HRSW75 := Lib.hid hown
    clear hown hbb
    refine hK.out _ _ ⟨x2W75, x3W75, x4W75, y2W75, y4W75, g0W75, g1W75⟩ (fun hHeld => ?_)
    clear hK K
    try simp only [Act.put, List.setIfInBounds_toArray, List.set_cons_zero, List.set_cons_succ]
    refine wpAnyH_ready (rs := [4, 8]) (by kernel_rfl) (by simp) ?_
    refine ar4 (fun K hK => ?_) ?_
    · rw [if_pos (by rfl)]
      refine wp_append_sigs (.tmp 33) (.tmp 35) rfl w3.heap.size lo _ 0 [] rfl HRSW75.out _ s0.sigs rfl (HSA.out.keep (Carries.of lo (hw3.trans (belW75.mono hw3.size)))) (by rw [← HP0.out.2.2.1]; omega) belW75.size ?_
      intro v' W76 hown hgrow
      simp only [Nat.zero_add, List.nil_append] at hown
      rw [← HP0.out.2.2.1] at hown
      obtain ⟨a4, k4, rfl⟩ := owns_form hown
      have belW76 := belW75.grown hgrow belW75.size (fun g hg => (HRSW75.out.lt g hg).1)
      have zdW76 := hgrow.size
      have x2W76 := cell_carry x2 (Carries.of 0 belW76)
      have x3W76 := cell_carry x3 (Carries.of 0 belW76)
      have x4W76 := cell_carry x4 (Carries.of 0 belW76)
      have y2W76 := cell_carry y2 (Carries.of 0 belW76)
      have y4W76 := cell_carry y4 (Carries.of 0 belW76)
      have g0W76 := cell_carry g0 (Carries.of 0 belW76)
      have g1W76 := cell_carry g1 (Carries.of 0 belW76)
      have TBW76 := Lib.hid (TBW75.out.grown HRSW75.out hgrow (by decide))
      have HRSW76 := Lib.hid hown
      clear hown hgrow
      refine hK.out _ _ ⟨x2W76, x3W76, x4W76, y2W76, y4W76, g0W76, g1W76⟩ (fun hHeld => ?_)
      clear hK K
      try simp only [Act.put, List.setIfInBounds_toArray, List.set_cons_zero, List.set_cons_succ]
      refine wpAnyH_ready (rs := [7, 8]) (by kernel_rfl) (by simp) ?_
      refine ar7 (fun K hK => ?_) ?_
      · rw [if_pos (by rfl)]
        refine wp_append_sigs (.tmp 36) (.tmp 38) rfl w3.heap.size lo _ n0 _ rfl HRSW76.out _ s1.sigs rfl (HSB.out.keep (Carries.of lo (hw3.trans (belW76.mono hw3.size)))) (by rw [← HP1.out.2.2.1]; omega) belW76.size ?_
        intro v' W77 hown hgrow
        have hown : W77.ownsRow w3.heap.size 118 2 v' (n0 + n1) (pairCells (sgX (s0.sigs ++ s1.sigs)) (sgY (s0.sigs ++ s1.sigs)) (n0 + n1)) := by
          have e := sigs_app s0.sigs s1.sigs
          rw [← HP0.out.2.2.1, ← HP1.out.2.2.1] at e
          rw [← e]; rw [← HP1.out.2.2.1] at hown; exact hown
        obtain ⟨a5, k5, rfl⟩ := owns_form hown
        have belW77 := belW76.grown hgrow belW76.size (fun g hg => (HRSW76.out.lt g hg).1)
        have zdW77 := hgrow.size
        have x2W77 := cell_carry x2 (Carries.of 0 belW77)
        have x3W77 := cell_carry x3 (Carries.of 0 belW77)
        have x4W77 := cell_carry x4 (Carries.of 0 belW77)
        have y2W77 := cell_carry y2 (Carries.of 0 belW77)
        have y4W77 := cell_carry y4 (Carries.of 0 belW77)
        have g0W77 := cell_carry g0 (Carries.of 0 belW77)
        have g1W77 := cell_carry g1 (Carries.of 0 belW77)
        have TBW77 := Lib.hid (TBW76.out.grown HRSW76.out hgrow (by decide))
        have HRSW77 := Lib.hid hown
        clear hown hgrow
        refine hK.out _ _ ⟨x2W77, x3W77, x4W77, y2W77, y4W77, g0W77, g1W77⟩ (fun hHeld => ?_)
        clear hK K
        try simp only [Act.put, List.setIfInBounds_toArray, List.set_cons_zero, List.set_cons_succ]
        refine rd8 (by kernel_rfl) (fun K hK => ?_)
        go_simp
        have hbb : Below W77.heap.size W77 (W77.alloc (.cells #[] 113)) := (Below.refl _ _).alloc (Nat.le_refl _) _
        have hown : (W77.alloc (.cells #[] 113)).ownsRow w3.heap.size 113 2 (.slice (some ⟨W77.heap.size, 0, none⟩) 0 0) 0 [] :=
          ⟨rfl, Or.inr ⟨W77.heap.size, 0, #[], rfl, belW77.size, heap_alloc_new W77 _, Nat.le_refl _, Nat.zero_le _, rfl, rfl⟩⟩
        generalize W77.alloc (.cells #[] 113) = W78 at hbb hown ⊢
        have belW78 := belW77.trans (hbb.mono belW77.size)
        have zdW78 := hbb.size
        have x2W78 := cell_carry x2 (Carries.of 0 belW78)
        have x3W78 := cell_carry x3 (Carries.of 0 belW78)
        have x4W78 := cell_carry x4 (Carries.of 0 belW78)
        have y2W78 := cell_carry y2 (Carries.of 0 belW78)
        have y4W78 := cell_carry y4 (Carries.of 0 belW78)
        have g0W78 := cell_carry g0 (Carries.of 0 belW78)
        have g1W78 := cell_carry g1 (Carries.of 0 belW78)
        have TBW78 := Lib.hid (TBW77.out.after hbb)
        have HRSW78 := Lib.hid (owns_after HRSW77.out hbb)
        have HRLW78 := Lib.hid hown
        clear hown hbb
        refine hK.out _ _ ⟨x2W78, x3W78, x4W78, y2W78, y4W78, g0W78, g1W78⟩ (fun hHeld => ?_)
        clear hK K
        try simp only [Act.put, List.setIfInBounds_toArray, List.set_cons_zero, List.set_cons_succ]
        refine rd11 (by kernel_rfl) (fun K hK => ?_)
        rw [if_pos (by rfl)]
        refine wp_append_labs (.tmp 40) (.tmp 42) rfl w3.heap.size lo _ 0 [] rfl HRLW78.out _ s0.labs rfl (HLA.out.keep (Carries.of lo (hw3.trans (belW78.mono hw3.size)))) (by rw [← HP0.out.2.2.2.1]; omega) belW78.size ?_
        intro v' W79 hown hgrow
        simp only [Nat.zero_add, List.nil_append] at hown
        rw [← HP0.out.2.2.2.1] at hown
        obtain ⟨a7, k7, rfl⟩ := owns_form hown
        have belW79 := belW78.grown hgrow belW78.size (fun g hg => (HRLW78.out.lt g hg).1)
        have zdW79 := hgrow.size
        have x2W79 := cell_carry x2 (Carries.of 0 belW79)
        have x3W79 := cell_carry x3 (Carries.of 0 belW79)
        have x4W79 := cell_carry x4 (Carries.of 0 belW79)
        have y2W79 := cell_carry y2 (Carries.of 0 belW79)
        have y4W79 := cell_carry y4 (Carries.of 0 belW79)
        have g0W79 := cell_carry g0 (Carries.of 0 belW79)
        have g1W79 := cell_carry g1 (Carries.of 0 belW79)
        have TBW79 := Lib.hid (TBW78.out.grown HRLW78.out hgrow (by decide))
        have HRSW79 := Lib.hid (HRSW78.out.kept hgrow (rows_apartT HRSW78.out HRLW78.out (by decide)))
        have HRLW79 := Lib.hid hown
        clear hown hgrow
        refine hK.out _ _ ⟨x2W79, x3W79, x4W79, y2W79, y4W79, g0W79, g1W79⟩ (fun hHeld => ?_)
        clear hK K
        try simp only [Act.put, List.setIfInBounds_toArray, List.set_cons_zero, List.set_cons_succ]
        obtain ⟨⟨cz0, cz1, cz2, cz3, cz4⟩, ⟨fz0, fz1, fz2, fz3, fz4⟩, hty⟩ := TBW79.out
        have zt := hty.lt
        refine tk17 (v := ?_) (by kernel_rfl) (by kernel_rfl) (by kernel_rfl) (by first | exact fun _ _ _ h => h | exact fun _ _ _ h => absurd h.1 (by simp)) (Or.inl ⟨by rfl, ?_⟩) (by assumption) ?_
        rotate_left 1
        focus (intro wx hSw; (try dsimp only at hSw); go_simp; try (with_reducible rfl))
        try simp only [Act.put, List.setIfInBounds_toArray, List.set_cons_zero, List.set_cons_succ]
        refine rd19 (by kernel_rfl) (fun K hK => ?_)
        go_simp
        generalize hWX : (((((W79.setCell ⟨tb, 0, none⟩ (.int .i64 P)).setCell ⟨tb, 1, none⟩ (.slice ua M uc)).setCell ⟨tb, 2, none⟩ (.slice a5 (n0 + n1) k5)).setCell ⟨tb, 3, none⟩ (.slice a7 l0 k7)).setCell ⟨tb, 4, none⟩ (.string (t0 ++ t1))) = WX
        obtain ⟨u0, u1, u2, u3, u4⟩ := put5_cells hWX cz0 cz1 cz2 cz3 cz4
        obtain ⟨h0, h1, h2, h3, h4, hTX, hzX⟩ := put5_more hWX fz0 fz1 fz2 fz3 fz4 hty
        have belX := put5_below hWX belW79 htl
        have HRSX := Lib.hid (put5_ownsT hWX HRSW79.out hty (by decide))
        have HRLX := Lib.hid (put5_ownsT hWX HRLW79.out hty (by decide))
        clear hWX
        refine hK.out _ _ ⟨cell_carry x2 (Carries.of 0 belX), cell_carry x3 (Carries.of 0 belX), cell_carry x4 (Carries.of 0 belX), cell_carry y2 (Carries.of 0 belX), cell_carry y4 (Carries.of 0 belX), cell_carry g0 (Carries.of 0 belX), cell_carry g1 (Carries.of 0 belX)⟩ (fun hHeld => ?_)
        clear hK K
        try simp only [Act.put, List.setIfInBounds_toArray, List.set_cons_zero, List.set_cons_succ]
        refine wpAnyH_done (by kernel_rfl) ?_ _
        exact HK _ _ _ _ _ _ _ _ _ _ _ _ _ _ _ _ _ _ tb WX a5 a7 k5 k7 belX htl (by omega) u0 h0 u1 h1 u2 h2 u3 h3 u4 h4 (Lib.hid hTX) HRSX HRLX
      refine ar8 (fun K hK => ?_) AllReadyH.nil
      go_simp
      have hbb : Below W76.heap.size W76 (W76.alloc (.cells #[] 113)) := (Below.refl _ _).alloc (Nat.le_refl _) _
      have hown : (W76.alloc (.cells #[] 113)).ownsRow w3.heap.size 113 2 (.slice (some ⟨W76.heap.size, 0, none⟩) 0 0) 0 [] :=
        ⟨rfl, Or.inr ⟨W76.heap.size, 0, #[], rfl, belW76.size, heap_alloc_new W76 _, Nat.le_refl _, Nat.zero_le _, rfl, rfl⟩⟩
      generalize W76.alloc (.cells #[] 113) = W80 at hbb hown ⊢
      have belW80 := belW76.trans (hbb.mono belW76.size)
      have zdW80 := hbb.size
      have x2W80 := cell_carry x2 (Carries.of 0 belW80)
      have x3W80 := cell_carry x3 (Carries.of 0 belW80)
      have x4W80 := cell_carry x4 (Carries.of 0 belW80)
      have y2W80 := cell_carry y2 (Carries.of 0 belW80)
      have y4W80 := cell_carry y4 (Carries.of 0 belW80)
      have g0W80 := cell_carry g0 (Carries.of 0 belW80)
      have g1W80 := cell_carry g1 (Carries.of 0 belW80)
      have TBW80 := Lib.hid (TBW76.out.after hbb)
      have HRSW80 := Lib.hid (owns_after HRSW76.out hbb)
      have HRLW80 := Lib.hid hown
      clear hown hbb
      refine hK.out _ _ ⟨x2W80, x3W80, x4W80, y2W80, y4W80, g0W80, g1W80⟩ (fun hHeld => ?_)
      clear hK K
      try simp only [Act.put, List.setIfInBounds_toArray, List.set_cons_zero, List.set_cons_succ]
      refine rd7 (by kernel_rfl) (fun K hK => ?_)
      rw [if_pos (by rfl)]
      refine wp_append_sigs (.tmp 36) (.tmp 38) rfl w3.heap.size lo _ n0 _ rfl HRSW80.out _ s1.sigs rfl (HSB.out.keep (Carries.of lo (hw3.trans (belW80.mono hw3.size)))) (by rw [← HP1.out.2.2.1]; omega) belW80.size ?_
      intro v' W81 hown hgrow
      have hown : W81.ownsRow w3.heap.size 118 2 v' (n0 + n1) (pairCells (sgX (s0.sigs ++ s1.sigs)) (sgY (s0.sigs ++ s1.sigs)) (n0 + n1)) := by
        have e := sigs_app s0.sigs s1.sigs
        rw [← HP0.out.2.2.1, ← HP1.out.2.2.1] at e
        rw [← e]; rw [← HP1.out.2.2.1] at hown; exact hown
      obtain ⟨a5, k5, rfl⟩ := owns_form hown
      have belW81 := belW80.grown hgrow belW80.size (fun g hg => (HRSW80.out.lt g hg).1)
      have zdW81 := hgrow.size
      have x2W81 := cell_carry x2 (Carries.of 0 belW81)
      have x3W81 := cell_carry x3 (Carries.of 0 belW81)
      have x4W81 := cell_carry x4 (Carries.of 0 belW81)
      have y2W81 := cell_carry y2 (Carries.of 0 belW81)
      have y4W81 := cell_carry y4 (Carries.of 0 belW81)
      have g0W81 := cell_carry g0 (Carries.of 0 belW81)
      have g1W81 := cell_carry g1 (Carries.of 0 belW81)
      have TBW81 := Lib.hid (TBW80.out.grown HRSW80.out hgrow (by decide))
      have HRLW81 := Lib.hid (HRLW80.out.kept hgrow (rows_apartT HRLW80.out HRSW80.out (by decide)))
      have HRSW81 := Lib.hid hown
      clear hown hgrow
      refine hK.out _ _ ⟨x2W81, x3W81, x4W81, y2W81, y4W81, g0W81, g1W81⟩ (fun hHeld => ?_)
      clear hK K
      try simp only [Act.put, List.setIfInBounds_toArray, List.set_cons_zero, List.set_cons_succ]
      refine rd11 (by kernel_rfl) (fun K hK => ?_)
      rw [if_pos (by rfl)]
      refine wp_append_labs (.tmp 40) (.tmp 42) rfl w3.heap.size lo _ 0 [] rfl HRLW81.out _ s0.labs rfl (HLA.out.keep (Carries.of lo (hw3.trans (belW81.mono hw3.size)))) (by rw [← HP0.out.2.2.2.1]; omega) belW81.size ?_
      intro v' W82 hown hgrow
      simp only [Nat.zero_add, List.nil_append] at hown
      rw [← HP0.out.2.2.2.1] at hown
      obtain ⟨a7, k7, rfl⟩ := owns_form hown
      have belW82 := belW81.grown hgrow belW81.size (fun g hg => (HRLW81.out.lt g hg).1)
      have zdW82 := hgrow.size
      have x2W82 := cell_carry x2 (Carries.of 0 belW82)
      have x3W82 := cell_carry x3 (Carries.of 0 belW82)
      have x4W82 := cell_carry x4 (Carries.of 0 belW82)
      have y2W82 := cell_carry y2 (Carries.of 0 belW82)
      have y4W82 := cell_carry y4 (Carries.of 0 belW82)
      have g0W82 := cell_carry g0 (Carries.of 0 belW82)
      have g1W82 := cell_carry g1 (Carries.of 0 belW82)
      have TBW82 := Lib.hid (TBW81.out.grown HRLW81.out hgrow (by decide))
      have HRSW82 := Lib.hid (HRSW81.out.kept hgrow (rows_apartT HRSW81.out HRLW81.out (by decide)))
      have HRLW82 := Lib.hid hown
      clear hown hgrow
      refine hK.out _ _ ⟨x2W82, x3W82, x4W82, y2W82, y4W82, g0W82, g1W82⟩ (fun hHeld => ?_)
      clear hK K
      try simp only [Act.put, List.setIfInBounds_toArray, List.set_cons_zero, List.set_cons_succ]
      obtain ⟨⟨cz0, cz1, cz2, cz3, cz4⟩, ⟨fz0, fz1, fz2, fz3, fz4⟩, hty⟩ := TBW82.out
      have zt := hty.lt
      refine tk17 (v := ?_) (by kernel_rfl) (by kernel_rfl) (by kernel_rfl) (by first | exact fun _ _ _ h => h | exact fun _ _ _ h => absurd h.1 (by simp)) (Or.inl ⟨by rfl, ?_⟩) (by assumption) ?_
      rotate_left 1
      focus (intro wx hSw; (try dsimp only at hSw); go_simp; try (with_reducible rfl))
      try simp only [Act.put, List.setIfInBounds_toArray, List.set_cons_zero, List.set_cons_succ]
      refine rd19 (by kernel_rfl) (fun K hK => ?_)
      go_simp
      generalize hWX : (((((W82.setCell ⟨tb, 0, none⟩ (.int .i64 P)).setCell ⟨tb, 1, none⟩ (.slice ua M uc)).setCell ⟨tb, 2, none⟩ (.slice a5 (n0 + n1) k5)).setCell ⟨tb, 3, none⟩ (.slice a7 l0 k7)).setCell ⟨tb, 4, none⟩ (.string (t0 ++ t1))) = WX
      obtain ⟨u0, u1, u2, u3, u4⟩ := put5_cells hWX cz0 cz1 cz2 cz3 cz4
      obtain ⟨h0, h1, h2, h3, h4, hTX, hzX⟩ := put5_more hWX fz0 fz1 fz2 fz3 fz4 hty
      have belX := put5_below hWX belW82 htl
      have HRSX := Lib.hid (put5_ownsT hWX HRSW82.out hty (by decide))
      have HRLX := Lib.hid (put5_ownsT hWX HRLW82.out hty (by decide))
      clear hWX
      refine hK.out _ _ ⟨cell_carry x2 (Carries.of 0 belX), cell_carry x3 (Carries.of 0 belX), cell_carry x4 (Carries.of 0 belX), cell_carry y2 (Carries.of 0 belX), cell_carry y4 (Carries.of 0 belX), cell_carry g0 (Carries.of 0 belX), cell_carry g1 (Carries.of 0 belX)⟩ (fun hHeld => ?_)
      clear hK K
      try simp only [Act.put, List.setIfInBounds_toArray, List.set_cons_zero, List.set_cons_succ]
      refine wpAnyH_done (by kernel_rfl) ?_ _
      exact HK _ _ _ _ _ _ _ _ _ _ _ _ _ _ _ _ _ _ tb WX a5 a7 k5 k7 belX htl (by omega) u0 h0 u1 h1 u2 h2 u3 h3 u4 h4 (Lib.hid hTX) HRSX HRLX
    refine ar8 (fun K hK => ?_) AllReadyH.nil
    go_simp
    have hbb : Below W75.heap.size W75 (W75.alloc (.cells #[] 113)) := (Below.refl _ _).alloc (Nat.le_refl _) _
    have hown : (W75.alloc (.cells #[] 113)).ownsRow w3.heap.size 113 2 (.slice (some ⟨W75.heap.size, 0, none⟩) 0 0) 0 [] :=
      ⟨rfl, Or.inr ⟨W75.heap.size, 0, #[], rfl, belW75.size, heap_alloc_new W75 _, Nat.le_refl _, Nat.zero_le _, rfl, rfl⟩⟩
    generalize W75.alloc (.cells #[] 113) = W83 at hbb hown ⊢
    have belW83 := belW75.trans (hbb.mono belW75.size)
    have zdW83 := hbb.size
    have x2W83 := cell_carry x2 (Carries.of 0 belW83)
    have x3W83 := cell_carry x3 (Carries.of 0 belW83)
    have x4W83 := cell_carry x4 (Carries.of 0 belW83)
    have y2W83 := cell_carry y2 (Carries.of 0 belW83)
    have y4W83 := cell_carry y4 (Carries.of 0 belW83)
    have g0W83 := cell_carry g0 (Carries.of 0 belW83)
    have g1W83 := cell_carry g1 (Carries.of 0 belW83)
    have TBW83 := Lib.hid (TBW75.out.after hbb)
    have HRSW83 := Lib.hid (owns_after HRSW75.out hbb)
    have HRLW83 := Lib.hid hown
    clear hown hbb
    refine hK.out _ _ ⟨x2W83, x3W83, x4W83, y2W83, y4W83, g0W83, g1W83⟩ (fun hHeld => ?_)
    clear hK K
    try simp only [Act.put, List.setIfInBounds_toArray, List.set_cons_zero, List.set_cons_succ]
    refine rd4 (by kernel_rfl) (fun K hK => ?_)
    rw [if_pos (by rfl)]
    refine wp_append_sigs (.tmp 33) (.tmp 35) rfl w3.heap.size lo _ 0 [] rfl HRSW83.out _ s0.sigs rfl (HSA.out.keep (Carries.of lo (hw3.trans (belW83.mono hw3.size)))) (by rw [← HP0.out.2.2.1]; omega) belW83.size ?_
    intro v' W84 hown hgrow
    simp only [Nat.zero_add, List.nil_append] at hown
    rw [← HP0.out.2.2.1] at hown
    obtain ⟨a4, k4, rfl⟩ := owns_form hown
    have belW84 := belW83.grown hgrow belW83.size (fun g hg => (HRSW83.out.lt g hg).1)
    have zdW84 := hgrow.size
    have x2W84 := cell_carry x2 (Carries.of 0 belW84)
    have x3W84 := cell_carry x3 (Carries.of 0 belW84)
    have x4W84 := cell_carry x4 (Carries.of 0 belW84)
    have y2W84 := cell_carry y2 (Carries.of 0 belW84)
    have y4W84 := cell_carry y4 (Carries.of 0 belW84)
    have g0W84 := cell_carry g0 (Carries.of 0 belW84)
    have g1W84 := cell_carry g1 (Carries.of 0 belW84)
    have TBW84 := Lib.hid (TBW83.out.grown HRSW83.out hgrow (by decide))
    have HRLW84 := Lib.hid (HRLW83.out.kept hgrow (rows_apartT HRLW83.out HRSW83.out (by decide)))
    have HRSW84 := Lib.hid hown
    clear hown hgrow
    refine hK.out _ _ ⟨x2W84, x3W84, x4W84, y2W84, y4W84, g0W84, g1W84⟩ (fun hHeld => ?_)
    clear hK K
    try simp only [Act.put, List.setIfInBounds_toArray, List.set_cons_zero, List.set_cons_succ]
    refine rd7 (by kernel_rfl) (fun K hK => ?_)
    rw [if_pos (by rfl)]
    refine wp_append_sigs (.tmp 36) (.tmp 38) rfl w3.heap.size lo _ n0 _ rfl HRSW84.out _ s1.sigs rfl (HSB.out.keep (Carries.of lo (hw3.trans (belW84.mono hw3.size)))) (by rw [← HP1.out.2.2.1]; omega) belW84.size ?_
    intro v' W85 hown hgrow
    have hown : W85.ownsRow w3.heap.size 118 2 v' (n0 + n1) (pairCells (sgX (s0.sigs ++ s1.sigs)) (sgY (s0.sigs ++ s1.sigs)) (n0 + n1)) := by
      have e := sigs_app s0.sigs s1.sigs
      rw [← HP0.out.2.2.1, ← HP1.out.2.2.1] at e
      rw [← e]; rw [← HP1.out.2.2.1] at hown; exact hown
    obtain ⟨a5, k5, rfl⟩ := owns_form hown
    have belW85 := belW84.grown hgrow belW84.size (fun g hg => (HRSW84.out.lt g hg).1)
    have zdW85 := hgrow.size
    have x2W85 := cell_carry x2 (Carries.of 0 belW85)
    have x3W85 := cell_carry x3 (Carries.of 0 belW85)
    have x4W85 := cell_carry x4 (Carries.of 0 belW85)
    have y2W85 := cell_carry y2 (Carries.of 0 belW85)
    have y4W85 := cell_carry y4 (Carries.of 0 belW85)
    have g0W85 := cell_carry g0 (Carries.of 0 belW85)
    have g1W85 := cell_carry g1 (Carries.of 0 belW85)
    have TBW85 := Lib.hid (TBW84.out.grown HRSW84.out hgrow (by decide))
    have HRLW85 := Lib.hid (HRLW84.out.kept hgrow (rows_apartT HRLW84.out HRSW84.out (by decide)))
    have HRSW85 := Lib.hid hown
    clear hown hgrow
    refine hK.out _ _ ⟨x2W85, x3W85, x4W85, y2W85, y4W85, g0W85, g1W85⟩ (fun hHeld => ?_)
    clear hK K
    try simp only [Act.put, List.setIfInBounds_toArray, List.set_cons_zero, List.set_cons_succ]
    refine rd11 (by kernel_rfl) (fun K hK => ?_)
    rw [if_pos (by rfl)]
    refine wp_append_labs (.tmp 40) (.tmp 42) rfl w3.heap.size lo _ 0 [] rfl HRLW85.out _ s0.labs rfl (HLA.out.keep (Carries.of lo (hw3.trans (belW85.mono hw3.size)))) (by rw [← HP0.out.2.2.2.1]; omega) belW85.size ?_
    intro v' W86 hown hgrow
    simp only [Nat.zero_add, List.nil_append] at hown
    rw [← HP0.out.2.2.2.1] at hown
    obtain ⟨a7, k7, rfl⟩ := owns_form hown
    have belW86 := belW85.grown hgrow belW85.size (fun g hg => (HRLW85.out.lt g hg).1)
    have zdW86 := hgrow.size
    have x2W86 := cell_carry x2 (Carries.of 0 belW86)
    have x3W86 := cell_carry x3 (Carries.of 0 belW86)
    have x4W86 := cell_carry x4 (Carries.of 0 belW86)
    have y2W86 := cell_carry y2 (Carries.of 0 belW86)
    have y4W86 := cell_carry y4 (Carries.of 0 belW86)
    have g0W86 := cell_carry g0 (Carries.of 0 belW86)
    have g1W86 := cell_carry g1 (Carries.of 0 belW86)
    have TBW86 := Lib.hid (TBW85.out.grown HRLW85.out hgrow (by decide))
    have HRSW86 := Lib.hid (HRSW85.out.kept hgrow (rows_apartT HRSW85.out HRLW85.out (by decide)))
    have HRLW86 := Lib.hid hown
    clear hown hgrow
    refine hK.out _ _ ⟨x2W86, x3W86, x4W86, y2W86, y4W86, g0W86, g1W86⟩ (fun hHeld => ?_)
    clear hK K
    try simp only [Act.put, List.setIfInBounds_toArray, List.set_cons_zero, List.set_cons_succ]
    obtain ⟨⟨cz0, cz1, cz2, cz3, cz4⟩, ⟨fz0, fz1, fz2, fz3, fz4⟩, hty⟩ := TBW86.out
    have zt := hty.lt
    refine tk17 (v := ?_) (by kernel_rfl) (by kernel_rfl) (by kernel_rfl) (by first | exact fun _ _ _ h => h | exact fun _ _ _ h => absurd h.1 (by simp)) (Or.inl ⟨by rfl, ?_⟩) (by assumption) ?_
    rotate_left 1
    focus (intro wx hSw; (try dsimp only at hSw); go_simp; try (with_reducible rfl))
    try simp only [Act.put, List.setIfInBounds_toArray, List.set_cons_zero, List.set_cons_succ]
    refine rd19 (by kernel_rfl) (fun K hK => ?_)
    go_simp
    generalize hWX : (((((W86.setCell ⟨tb, 0, none⟩ (.int .i64 P)).setCell ⟨tb, 1, none⟩ (.slice ua M uc)).setCell ⟨tb, 2, none⟩ (.slice a5 (n0 + n1) k5)).setCell ⟨tb, 3, none⟩ (.slice a7 l0 k7)).setCell ⟨tb, 4, none⟩ (.string (t0 ++ t1))) = WX
    obtain ⟨u0, u1, u2, u3, u4⟩ := put5_cells hWX cz0 cz1 cz2 cz3 cz4
    obtain ⟨h0, h1, h2, h3, h4, hTX, hzX⟩ := put5_more hWX fz0 fz1 fz2 fz3 fz4 hty
    have belX := put5_below hWX belW86 htl
    have HRSX := Lib.hid (put5_ownsT hWX HRSW86.out hty (by decide))
    have HRLX := Lib.hid (put5_ownsT hWX HRLW86.out hty (by decide))
    clear hWX
    refine hK.out _ _ ⟨cell_carry x2 (Carries.of 0 belX), cell_carry x3 (Carries.of 0 belX), cell_carry x4 (Carries.of 0 belX), cell_carry y2 (Carries.of 0 belX), cell_carry y4 (Carries.of 0 belX), cell_carry g0 (Carries.of 0 belX), cell_carry g1 (Carries.of 0 belX)⟩ (fun hHeld => ?_)
    clear hK K
    try simp only [Act.put, List.setIfInBounds_toArray, List.set_cons_zero, List.set_cons_succ]
    refine wpAnyH_done (by kernel_rfl) ?_ _
    exact HK _ _ _ _ _ _ _ _ _ _ _ _ _ _ _ _ _ _ tb WX a5 a7 k5 k7 belX htl (by omega) u0 h0 u1 h1 u2 h2 u3 h3 u4 h4 (Lib.hid hTX) HRSX HRLX
  refine ar8 (fun K hK => ?_) AllReadyH.nil
  go_simp
  have hbb : Below W74.heap.size W74 (W74.alloc (.cells #[] 113)) := (Below.refl _ _).alloc (Nat.le_refl _) _
  have hown : (W74.alloc (.cells #[] 113)).ownsRow w3.heap.size 113 2 (.slice (some ⟨W74.heap.size, 0, none⟩) 0 0) 0 [] :=
    ⟨rfl, Or.inr ⟨W74.heap.size, 0, #[], rfl, belW74.size, heap_alloc_new W74 _, Nat.le_refl _, Nat.zero_le _, rfl, rfl⟩⟩
  generalize W74.alloc (.cells #[] 113) = W87 at hbb hown ⊢
  have belW87 := belW74.trans (hbb.mono belW74.size)
  have zdW87 := hbb.size
  have x2W87 := cell_carry x2 (Carries.of 0 belW87)
  have x3W87 := cell_carry x3 (Carries.of 0 belW87)
  have x4W87 := cell_carry x4 (Carries.of 0 belW87)
  have y2W87 := cell_carry y2 (Carries.of 0 belW87)
  have y4W87 := cell_carry y4 (Carries.of 0 belW87)
  have g0W87 := cell_carry g0 (Carries.of 0 belW87)
  have g1W87 := cell_carry g1 (Carries.of 0 belW87)
  have TBW87 := Lib.hid (TBW74.out.after hbb)
  have HRLW87 := Lib.hid hown
  clear hown hbb
  refine hK.out _ _ ⟨x2W87, x3W87, x4W87, y2W87, y4W87, g0W87, g1W87⟩ (fun hHeld => ?_)
  clear hK K
  try simp only [Act.put, List.setIfInBounds_toArray, List.set_cons_zero, List.set_cons_succ]
  refine rd1 (by kernel_rfl) (fun K hK => ?_)
  go_simp
  have hbb : Below W87.heap.size W87 (W87.alloc (.cells #[] 118)) := (Below.refl _ _).alloc (Nat.le_refl _) _
  have hown : (W87.alloc (.cells #[] 118)).ownsRow w3.heap.size 118 2 (.slice (some ⟨W87.heap.size, 0, none⟩) 0 0) 0 [] :=
    ⟨rfl, Or.inr ⟨W87.heap.size, 0, #[], rfl, belW87.size, heap_alloc_new W87 _, Nat.le_refl _, Nat.zero_le _, rfl, rfl⟩⟩
  generalize W87.alloc (.cells #[] 118) = W88 at hbb hown ⊢
  have belW88 := belW87.trans (hbb.mono belW87.size)
  have zdW88 := hbb.size
  have x2W88 := cell_carry x2 (Carries.of 0 belW88)
  have x3W88 := cell_carry x3 (Carries.of 0 belW88)
  have x4W88 := cell_carry x4 (Carries.of 0 belW88)
  have y2W88 := cell_carry y2 (Carries.of 0 belW88)
  have y4W88 := cell_carry y4 (Carries.of 0 belW88)
  have g0W88 := cell_carry g0 (Carries.of 0 belW88)
  have g1W88 := cell_carry g1 (Carries.of 0 belW88)
  have TBW88 := Lib.hid (TBW87.out.after hbb)
  have HRLW88 := Lib.hid (owns_after HRLW87.out hbb)
  have HRSW88 := Lib.hid hown
  clear hown hbb
  refine hK.out _ _ ⟨x2W88, x3W88, x4W88, y2W88, y4W88, g0W88, g1W88⟩ (fun hHeld => ?_)
  clear hK K
  try simp only [Act.put, List.setIfInBounds_toArray, List.set_cons_zero, List.set_cons_succ]
  refine rd4 (by kernel_rfl) (fun K hK => ?_)
  rw [if_pos (by rfl)]
  refine wp_append_sigs (.tmp 33) (.tmp 35) rfl w3.heap.size lo _ 0 [] rfl HRSW88.out _ s0.sigs rfl (HSA.out.keep (Carries.of lo (hw3.trans (belW88.mono hw3.size)))) (by rw [← HP0.out.2.2.1]; omega) belW88.size ?_
  intro v' W89 hown hgrow
  simp only [Nat.zero_add, List.nil_append] at hown
  rw [← HP0.out.2.2.1] at hown
  obtain ⟨a4, k4, rfl⟩ := owns_form hown
  have belW89 := belW88.grown hgrow belW88.size (fun g hg => (HRSW88.out.lt g hg).1)
  have zdW89 := hgrow.size
  have x2W89 := cell_carry x2 (Carries.of 0 belW89)
  have x3W89 := cell_carry x3 (Carries.of 0 belW89)
  have x4W89 := cell_carry x4 (Carries.of 0 belW89)
  have y2W89 := cell_carry y2 (Carries.of 0 belW89)
  have y4W89 := cell_carry y4 (Carries.of 0 belW89)
  have g0W89 := cell_carry g0 (Carries.of 0 belW89)
  have g1W89 := cell_carry g1 (Carries.of 0 belW89)
  have TBW89 := Lib.hid (TBW88.out.grown HRSW88.out hgrow (by decide))
  have HRLW89 := Lib.hid (HRLW88.out.kept hgrow (rows_apartT HRLW88.out HRSW88.out (by decide)))
  have HRSW89 := Lib.hid hown
  clear hown hgrow
  refine hK.out _ _ ⟨x2W89, x3W89, x4W89, y2W89, y4W89, g0W89, g1W89⟩ (fun hHeld => ?_)
  clear hK K
  try simp only [Act.put, List.setIfInBounds_toArray, List.set_cons_zero, List.set_cons_succ]
  refine rd7 (by kernel_rfl) (fun K hK => ?_)
  rw [if_pos (by rfl)]
  refine wp_append_sigs (.tmp 36) (.tmp 38) rfl w3.heap.size lo _ n0 _ rfl HRSW89.out _ s1.sigs rfl (HSB.out.keep (Carries.of lo (hw3.trans (belW89.mono hw3.size)))) (by rw [← HP1.out.2.2.1]; omega) belW89.size ?_
  intro v' W90 hown hgrow
  have hown : W90.ownsRow w3.heap.size 118 2 v' (n0 + n1) (pairCells (sgX (s0.sigs ++ s1.sigs)) (sgY (s0.sigs ++ s1.sigs)) (n0 + n1)) := by
    have e := sigs_app s0.sigs s1.sigs
    rw [← HP0.out.2.2.1, ← HP1.out.2.2.1] at e
    rw [← e]; rw [← HP1.out.2.2.1] at hown; exact hown
  obtain ⟨a5, k5, rfl⟩ := owns_form hown
  have belW90 := belW89.grown hgrow belW89.size (fun g hg => (HRSW89.out.lt g hg).1)
  have zdW90 := hgrow.size
  have x2W90 := cell_carry x2 (Carries.of 0 belW90)
  have x3W90 := cell_carry x3 (Carries.of 0 belW90)
  have x4W90 := cell_carry x4 (Carries.of 0 belW90)
  have y2W90 := cell_carry y2 (Carries.of 0 belW90)
  have y4W90 := cell_carry y4 (Carries.of 0 belW90)
  have g0W90 := cell_carry g0 (Carries.of 0 belW90)
  have g1W90 := cell_carry g1 (Carries.of 0 belW90)
  have TBW90 := Lib.hid (TBW89.out.grown HRSW89.out hgrow (by decide))
  have HRLW90 := Lib.hid (HRLW89.out.kept hgrow (rows_apartT HRLW89.out HRSW89.out (by decide)))
  have HRSW90 := Lib.hid hown
  clear hown hgrow
  refine hK.out _ _ ⟨x2W90, x3W90, x4W90, y2W90, y4W90, g0W90, g1W90⟩ (fun hHeld => ?_)
  clear hK K
  try simp only [Act.put, List.setIfInBounds_toArray, List.set_cons_zero, List.set_cons_succ]
  refine rd11 (by kernel_rfl) (fun K hK => ?_)
  rw [if_pos (by rfl)]
  refine wp_append_labs (.tmp 40) (.tmp 42) rfl w3.heap.size lo _ 0 [] rfl HRLW90.out _ s0.labs rfl (HLA.out.keep (Carries.of lo (hw3.trans (belW90.mono hw3.size)))) (by rw [← HP0.out.2.2.2.1]; omega) belW90.size ?_
  intro v' W91 hown hgrow
  simp only [Nat.zero_add, List.nil_append] at hown
  rw [← HP0.out.2.2.2.1] at hown
  obtain ⟨a7, k7, rfl⟩ := owns_form hown
  have belW91 := belW90.grown hgrow belW90.size (fun g hg => (HRLW90.out.lt g hg).1)
  have zdW91 := hgrow.size
  have x2W91 := cell_carry x2 (Carries.of 0 belW91)
  have x3W91 := cell_carry x3 (Carries.of 0 belW91)
  have x4W91 := cell_carry x4 (Carries.of 0 belW91)
  have y2W91 := cell_carry y2 (Carries.of 0 belW91)
  have y4W91 := cell_carry y4 (Carries.of 0 belW91)
  have g0W91 := cell_carry g0 (Carries.of 0 belW91)
  have g1W91 := cell_carry g1 (Carries.of 0 belW91)
  have TBW91 := Lib.hid (TBW90.out.grown HRLW90.out hgrow (by decide))
  have HRSW91 := Lib.hid (HRSW90.out.kept hgrow (rows_apartT HRSW90.out HRLW90.out (by decide)))
  have HRLW91 := Lib.hid hown
  clear hown hgrow
  refine hK.out _ _ ⟨x2W91, x3W91, x4W91, y2W91, y4W91, g0W91, g1W91⟩ (fun hHeld => ?_)
  clear hK K
  try simp only [Act.put, List.setIfInBounds_toArray, List.set_cons_zero, List.set_cons_succ]
  obtain ⟨⟨cz0, cz1, cz2, cz3, cz4⟩, ⟨fz0, fz1, fz2, fz3, fz4⟩, hty⟩ := TBW91.out
  have zt := hty.lt
  refine tk17 (v := ?_) (by kernel_rfl) (by kernel_rfl) (by kernel_rfl) (by first | exact fun _ _ _ h => h | exact fun _ _ _ h => absurd h.1 (by simp)) (Or.inl ⟨by rfl, ?_⟩) (by assumption) ?_
  rotate_left 1
  focus (intro wx hSw; (try dsimp only at hSw); go_simp; try (with_reducible rfl))
  try simp only [Act.put, List.setIfInBounds_toArray, List.set_cons_zero, List.set_cons_succ]
  refine rd19 (by kernel_rfl) (fun K hK => ?_)
  go_simp
  generalize hWX : (((((W91.setCell ⟨tb, 0, none⟩ (.int .i64 P)).setCell ⟨tb, 1, none⟩ (.slice ua M uc)).setCell ⟨tb, 2, none⟩ (.slice a5 (n0 + n1) k5)).setCell ⟨tb, 3, none⟩ (.slice a7 l0 k7)).setCell ⟨tb, 4, none⟩ (.string (t0 ++ t1))) = WX
  obtain ⟨u0, u1, u2, u3, u4⟩ := put5_cells hWX cz0 cz1 cz2 cz3 cz4
  obtain ⟨h0, h1, h2, h3, h4, hTX, hzX⟩ := put5_more hWX fz0 fz1 fz2 fz3 fz4 hty
  have belX := put5_below hWX belW91 htl
  have HRSX := Lib.hid (put5_ownsT hWX HRSW91.out hty (by decide))
  have HRLX := Lib.hid (put5_ownsT hWX HRLW91.out hty (by decide))
  clear hWX
  refine hK.out _ _ ⟨cell_carry x2 (Carries.of 0 belX), cell_carry x3 (Carries.of 0 belX), cell_carry x4 (Carries.of 0 belX), cell_carry y2 (Carries.of 0 belX), cell_carry y4 (Carries.of 0 belX), cell_carry g0 (Carries.of 0 belX), cell_carry g1 (Carries.of 0 belX)⟩ (fun hHeld => ?_)
  clear hK K
  try simp only [Act.put, List.setIfInBounds_toArray, List.set_cons_zero, List.set_cons_succ]
  refine wpAnyH_done (by kernel_rfl) ?_ _
  exact HK _ _ _ _ _ _ _ _ _ _ _ _ _ _ _ _ _ _ tb WX a5 a7 k5 k7 belX htl (by omega) u0 h0 u1 h1 u2 h2 u3 h3 u4 h4 (Lib.hid hTX) HRSX HRLX

end Go.Proofs.Ytgmnknlnlmcmfaa
