/-
  WALK of the law FnFired.
-/
import Derived.Test.YtkkfglolameogaaFaid
import Derived.Deep.RegionHeld3
namespace Go.Proofs.Ytkkfglolameogaa
open Go.RowKit

set_option maxRecDepth 100000 in
set_option maxHeartbeats 8000000 in
theorem lawFired_any (v0 v1 : Value) (n0 n1 : Nat) (w : World) (h0 : CodeIn w.heap.size w v0 n0) (h1 : CodeIn w.heap.size w v1 n1) (hn0 : n0 ≤ 9223372036854775807) (hn1 : n1 ≤ 9223372036854775807) :
    Calls Try.prog 9 #[v0, v1] w (RetB w true) := by
  have HA := Lib.hid h0
  have HB := Lib.hid h1
  obtain ⟨a0, k0, rfl, _⟩ := h0
  obtain ⟨a1, k1, rfl, _⟩ := h1
  go_enter Try.func9, Try.ntmps9
  go_wp2_with fail
  refine (big_any a0 a1 n0 n1 k0 k1 w hn0 hn1).mono ?_
  rintro e w1 ⟨rfl, hb1⟩
  by_cases hbig : n0 + n1 ≤ 1048576
  case neg =>
    rw [decide_eq_false hbig]
    go_wp2_with fail
    go_ret
    exact ⟨rfl, hb1⟩
  rw [decide_eq_true hbig]
  have HA1 := Lib.hid (HA.out.over hb1); clear HA
  have HB1 := Lib.hid (HB.out.over hb1); clear HB
  go_wp2_with fail
  refine (DrawFire_any _ n0 w1 HA1.out (by omega)).mono ?_
  rintro e w2 ⟨P, u, s, t, rfl, p0, p1, hnr, hs, ht0, ht1, hb2⟩
  obtain ⟨ts, hnet, hsm⟩ := hnr.net (by omega) p0 p1
  clear hnr
  obtain ⟨p, rfl⟩ : ∃ p : Nat, P = p := ⟨P.toNat, by omega⟩
  obtain ⟨ao, cap, rfl, _⟩ := hnet.shape
  have hwb2 : Below w.heap.size w w2 := hb1.trans (hb2.mono hb1.size)
  have HB2 := Lib.hid (HB1.out.over hb2); clear HB1 HA1
  have hal : Below w2.heap.size w2 (w2.alloc (.cells #[.int .i64 p, .slice ao ts.length cap] 32)) := (Below.refl _ _).alloc (Nat.le_refl _) _
  have HN := Lib.hid ((hnet.low (Nat.zero_le _)).keep (Carries.of 0 hal)); clear hnet
  have HB3 := Lib.hid (HB2.out.over hal); clear HB2
  have c0 : (w2.alloc (.cells #[.int .i64 p, .slice ao ts.length cap] 32)).cell? ⟨w2.heap.size, 0, none⟩ = some (.int .i64 p) := by simp
  have c1 : (w2.alloc (.cells #[.int .i64 p, .slice ao ts.length cap] 32)).cell? ⟨w2.heap.size, 1, none⟩ = some (.slice ao ts.length cap) := by simp
  have hwW : Below w.heap.size w (w2.alloc (.cells #[.int .i64 p, .slice ao ts.length cap] 32)) := hwb2.trans (hal.mono hwb2.size)
  obtain ⟨n, hn⟩ : ∃ n : NetD, n = ⟨p, ts⟩ := ⟨_, rfl⟩
  rw [← hn] at HN
  have hnp : n.places = (p : Int) := by rw [hn]
  have hnt : ts = n.ts := by rw [hn]
  clear hn
  obtain ⟨m, hm⟩ : ∃ m, m = ts.length := ⟨_, rfl⟩
  rw [← hm] at HN HB3 c0 c1 hwW ⊢
  rw [hnt] at hm hsm
  have HNP := Lib.hid hnp; clear hnp
  have HM := Lib.hid hm; clear hm
  have hmm : m ≤ 1048576 := by rw [HM.out]; exact hsm.1
  have HS := Lib.hid hsm; clear hsm hnt hal hb1 hb2 hwb2
  have hsz : s.size ≤ 1048576 := by omega
  obtain ⟨b, hb⟩ : ∃ b, b = w2.heap.size := ⟨_, rfl⟩
  go_wp2_with fail
  generalize w2.alloc (.cells #[.int .i64 p, .slice ao m cap] 32) = W at HN HB3 c0 c1 hwW ⊢
  rw [← hb] at c0 c1 ⊢
  clear hb
  refine (Fire_any _ n s t W 0 HN.out HS.out hsz).mono ?_
  rintro e w4 ⟨rfl, hb4⟩
  generalize hG0 : bstr (fireS n s t) = F
  have HG0 := Lib.hid hG0; clear hG0
  generalize hG1 : fireOk n s t = O
  have HG1 := Lib.hid hG1; clear hG1
  have d0 := cell_carry c0 (Carries.of 0 hb4)
  have d1 := cell_carry c1 (Carries.of 0 hb4)
  go_wp2_with fail
  refine (specFire_any _ n s t w4 0 (HN.out.keep (Carries.of 0 hb4)) HS.out hsz).mono ?_
  rintro e w5 ⟨rfl, hb5⟩
  rw [HG0.out, HG1.out]
  have bw5 : Below W.heap.size W w5 := hb4.trans (hb5.mono hb4.size)
  have e0 := cell_carry d0 (Carries.of 0 hb5)
  have e1 := cell_carry d1 (Carries.of 0 hb5)
  have HN5 := Lib.hid (HN.out.keep (Carries.of 0 bw5))
  have BD := bw5.drew
  clear hb4 hb5 d0 d1
  have hne1 : (O != O) = false := by simp
  go_wp2_with fail
  go_region_held3 (fun w' => w'.cell? ⟨b, 0, none⟩ = some (.int .i64 p) ∧ w'.cell? ⟨b, 1, none⟩ = some (.slice ao m cap))
    (first
      | exact ⟨e0, e1⟩
      | exact ⟨cell_carry (w := w5.drew) e0 (Carries.of 0 hb6), cell_carry (w := w5.drew) e1 (Carries.of 0 hb6)⟩
      | exact ⟨cell_carry (cell_carry (w := w5.drew) e0 (Carries.of 0 hb6)) (Carries.of 0 hb7), cell_carry (cell_carry (w := w5.drew) e1 (Carries.of 0 hb6)) (Carries.of 0 hb7)⟩)
    (first
      | (go_at_call 35; refine (IsValidNet_any _ n w5.drew 0 (HN.out.keep (Carries.of 0 BD)) HS.out).mono ?_; rintro e w6 ⟨rfl, hb6⟩)
      | (go_at_call 36; refine (specIsValidNet_any _ n _ 0 (HN.out.keep (Carries.trans (Carries.of 0 BD) (Carries.of 0 hb6))) HS.out).mono ?_; rintro e w7 ⟨rfl, hb7⟩))
  have bw6 : Below W.heap.size W w6 := BD.trans (hb6.mono BD.size)
  have bw7 : Below W.heap.size W w7 := bw6.trans (hb7.mono bw6.size)
  have f0 := cell_carry c0 (Carries.of 0 bw7)
  have f1 := cell_carry c1 (Carries.of 0 bw7)
  clear e0 e1 hb6 hb7 bw5 bw6 BD hne1 HN5
  generalize goodN n = gg
  have hgg : (gg != gg) = false := by simp
  cases O with
  | false =>
    go_wp2_with fail
    obtain ⟨X0, hX0⟩ : ∃ x, x = w7 := ⟨_, rfl⟩
    have BX := bw7
    rw [← hX0] at BX ⊢
    clear hX0
    refine (DrawFireSequence_any _ n1 X0 (HB3.out.over BX) (by omega)).mono ?_
    rintro e x1 ⟨Q, u2, s2, lv, rfl, q0, q1, hnr2, hs2, hset, hbx1⟩
    obtain ⟨ts2, hnet2, hsm2⟩ := hnr2.net (by omega) q0 q1
    clear hnr2
    obtain ⟨zs, hzl, hzi⟩ := hset.ints
    clear hset
    obtain ⟨ao2, cap2, rfl, _⟩ := hnet2.shape
    obtain ⟨la, lc, rfl⟩ := hzi.shape
    have HN2 := Lib.hid (hnet2.low (Nat.zero_le _)); clear hnet2
    have HZ2 := Lib.hid (hzi.low (Nat.zero_le _)); clear hzi
    have HS2 := Lib.hid hsm2; clear hsm2
    have BX1 : Below W.heap.size W x1 := BX.trans (hbx1.mono BX.size)
    obtain ⟨n2, hn2⟩ : ∃ n : NetD, n = ⟨Q, ts2⟩ := ⟨_, rfl⟩
    have hS2' : SmallTrs n2.ts := by rw [hn2]; exact HS2.out
    rw [← hn2] at HN2
    have HS3 := Lib.hid hS2'; clear hS2' HS2 hn2
    obtain ⟨m2, hm2⟩ : ∃ m, m = ts2.length := ⟨_, rfl⟩
    rw [← hm2] at HN2 ⊢
    clear hm2
    obtain ⟨zl, hzl2⟩ : ∃ m, m = zs.length := ⟨_, rfl⟩
    rw [← hzl2] at HZ2 ⊢
    have hz1 : zs.length ≤ 1048576 := by omega
    clear hzl hzl2
    have hsz2 : s2.size ≤ 1048576 := by omega
    have hal : Below x1.heap.size x1 (x1.alloc (.cells #[.int .i64 Q, .slice ao2 m2 cap2] 32)) := (Below.refl _ _).alloc (Nat.le_refl _) _
    have HN3 := Lib.hid (HN2.out.keep (Carries.of 0 hal)); clear HN2
    have HZ3 := Lib.hid (HZ2.out.keep (Carries.of 0 hal)); clear HZ2
    have y0 : (x1.alloc (.cells #[.int .i64 Q, .slice ao2 m2 cap2] 32)).cell? ⟨x1.heap.size, 0, none⟩ = some (.int .i64 Q) := by simp
    have y1 : (x1.alloc (.cells #[.int .i64 Q, .slice ao2 m2 cap2] 32)).cell? ⟨x1.heap.size, 1, none⟩ = some (.slice ao2 m2 cap2) := by simp
    have BX2 : Below W.heap.size W (x1.alloc (.cells #[.int .i64 Q, .slice ao2 m2 cap2] 32)) := BX1.trans (hal.mono BX1.size)
    clear hal hbx1
    go_wp2_with fail
    generalize x1.alloc (.cells #[.int .i64 Q, .slice ao2 m2 cap2] 32) = X2 at HN3 HZ3 y0 y1 BX2 ⊢
    generalize hR : seqR n2 s2 zs = R
    refine (FireSequence_any _ n2 s2 _ zs X2 0 0 HN3.out HS3.out hsz2 HZ3.out hz1).mono ?_
    rintro e x3 ⟨rfl, hb3⟩
    have y0 := cell_carry y0 (Carries.of 0 hb3)
    have y1 := cell_carry y1 (Carries.of 0 hb3)
    have BX3 : Below W.heap.size W x3 := BX2.trans (hb3.mono BX2.size)
    go_wp2_with fail
    refine (specFireSequence_any _ n2 s2 _ zs x3 0 0 (HN3.out.keep (Carries.of 0 hb3)) HS3.out hsz2 (HZ3.out.keep (Carries.of 0 hb3)) hz1).mono ?_
    rintro e x4 ⟨rfl, hb4⟩
    have BX4 : Below W.heap.size W x4 := BX3.trans (hb4.mono BX3.size)
    clear hb3 hb4
    obtain ⟨R1, R2, R3⟩ := R
    simp only [hR]
    clear hR
    have hq1 : (R3 == R3) = true := by simp
    have hq3 : ((R2 : Int) == (R2 : Int)) = true := by simp
    go_wp2_with fail
    go_ret
    exact ⟨by first | rfl | simp, hwW.trans (BX4.mono hwW.size)⟩
  | true =>
  have hfok : fireOk n s t = true := HG1.out
  obtain ⟨hgood, hmk, hin, _, _, _⟩ := fire_all hfok
  have hin' : 0 ≤ t ∧ t < m := by
    have h3 : 0 ≤ t ∧ t < n.ts.length := of_decide_eq_true hin
    rw [HM.out]; exact h3
  obtain ⟨tn, rfl⟩ : ∃ tn : Nat, t = tn := ⟨t.toNat, by omega⟩
  have hsp : s.size = p := by have h3 := mark_size hmk; rw [HNP.out] at h3; omega
  have hFp : F.size = p := by rw [← HG0.out, bstr_size, fired_length hfok]; exact hsp
  have HFM : Hid (goodN n = true ∧ markB n F = true) := Lib.hid ⟨hgood, by rw [← HG0.out]; exact fired_mark hfok⟩
  have HFO := Lib.hid hfok; clear hfok
  have HGN := Lib.hid hgood; clear hgood
  have HIN := Lib.hid hin; clear hin hmk
  have HBT : Hid (∀ k, k < p → ∀ (h1 : k < s.size) (h2 : k < F.size), ((F[k].toNat : Int) == 49) = (((s[k].toNat : Int) == 49) && !(hasB (n.ts.getD tn ([], [])).1 k) || hasB (n.ts.getD tn ([], [])).2 k)) := Lib.hid (fun k _ h1 h2 => by
    rw [byte_bit h1, byte_bit h2]
    have h3 := fired_bit HFO.out h1
    rw [← bytes_bstr (fireS n s tn), HG0.out] at h3
    exact h3)
  go_wp2_with fail
  refine (IsValidMarking_any _ n F _ 0 (HN.out.keep (Carries.of 0 bw7)) HS.out (by omega)).mono ?_
  rintro e w8 ⟨rfl, hb8⟩
  have bw8 : Below W.heap.size W w8 := bw7.trans (hb8.mono bw7.size)
  have g0 := cell_carry f0 (Carries.of 0 hb8)
  have g1 := cell_carry f1 (Carries.of 0 hb8)
  clear hb8 f0 f1
  rw [HFM.out.1, HFM.out.2]
  have t2 : decide ((tn : Int) < 0) = false := decide_eq_false (by omega)
  have t3 : decide ((m : Int) ≤ (tn : Int)) = false := decide_eq_false (by omega)
  have t4 : decide ((tn : Int) ≥ (m : Int)) = false := decide_eq_false (by omega)
  have t5 : decide (m ≤ tn) = false := decide_eq_false (by omega)
  go_wp2_with fail
  go_loopw [12] (fun i wr => ∃ k : Nat, k ≤ p ∧ i = .int .i64 k ∧ Below W.heap.size W wr) (fun i _ => p - (intOf i).toNat)
  case atStart => exact ⟨0, Nat.zero_le _, rfl, bw8⟩
  case round =>
    obtain ⟨k, hk, rfl, hbr⟩ := hrel
    clear bw7 bw8 g0 g1
    have g0 := cell_carry c0 (Carries.of 0 hbr)
    have g1 := cell_carry c1 (Carries.of 0 hbr)
    by_cases hlt : k < p
    · have hks : k < s.size := by omega
      have hkF : k < F.size := by omega
      have tb := HBT.out k hlt hks hkF
      have tlt : decide ((k : Int) < (p : Int)) = true := decide_eq_true (by omega)
      have tlt' : (tn : Int) < (m : Int) := by omega
      have hm1 : (n.ts.getD tn ([], [])).1.length ≤ 4611686018427387904 := by have := (HS.out.2 tn (by rw [← HM.out]; omega)).1; omega
      have hm2 : (n.ts.getD tn ([], [])).2.length ≤ 4611686018427387904 := by have := (HS.out.2 tn (by rw [← HM.out]; omega)).2; omega
      obtain ⟨bt, off, x0, x1, rfl, cx0, cx1, hx⟩ := (HN.out.keep (Carries.of 0 hbr)).tr (t := tn) (by rw [← HM.out]; omega)
      obtain ⟨hx0, hx1⟩ := hx
      obtain ⟨xa0, xk0, rfl⟩ := hx0.shape
      obtain ⟨xa1, xk1, rfl⟩ := hx1.shape
      obtain ⟨pre, hpre⟩ : ∃ x, x = hasB (n.ts.getD tn ([], [])).1 k := ⟨_, rfl⟩
      obtain ⟨post, hpost⟩ : ∃ x, x = hasB (n.ts.getD tn ([], [])).2 k := ⟨_, rfl⟩
      rw [← hpre, ← hpost] at tb
      obtain ⟨l0, hl0⟩ : ∃ x, x = (n.ts.getD tn ([], [])).1.length := ⟨_, rfl⟩
      obtain ⟨l1, hl1⟩ : ∃ x, x = (n.ts.getD tn ([], [])).2.length := ⟨_, rfl⟩
      have CP : Hid (∀ q, Calls Try.prog 38 #[.slice xa0 (n.ts.getD tn ([], [])).1.length xk0, .int .i64 k] (wr.drewN q) (fun e w' => e = .returned (.bool pre) ∧ w' = wr.drewN q)) := Lib.hid (fun q => by
        rw [hpre]; exact has_eq _ _ _ _ 0 (hx0.keep (Carries.of 0 (below_drewN (Below.refl _ _) q))) hm1)
      have CQ : Hid (∀ q, Calls Try.prog 38 #[.slice xa1 (n.ts.getD tn ([], [])).2.length xk1, .int .i64 k] (wr.drewN q) (fun e w' => e = .returned (.bool post) ∧ w' = wr.drewN q)) := Lib.hid (fun q => by
        rw [hpost]; exact has_eq _ _ _ _ 0 (hx1.keep (Carries.of 0 (below_drewN (Below.refl _ _) q))) hm2)
      rw [← hl0] at CP cx0
      rw [← hl1] at CQ cx1
      clear hl0 hl1 hpre hpost hx0 hx1 hm1 hm2 tlt
      go_wp2_with fail
      go_quiet (first | with_reducible refine Calls.quiet_of_same (CP.out _) | with_reducible refine Calls.quiet_of_same (CQ.out _))
  --MARK F
      have hbq := below_drewN hbr nq
      clear cx0 cx1 CP CQ g0 g1
      cases hA : ((s[k].toNat : Int) == 49) <;> cases pre <;> cases post <;> (
        rw [hA] at tb
        simp only [Bool.not_true, Bool.not_false, Bool.and_true, Bool.and_false, Bool.true_and, Bool.false_and, Bool.or_true, Bool.or_false, Bool.true_or, Bool.false_or] at tb
        go_wp2_with fail
        go_roundw
        case rel => exact ⟨k + 1, by omega, by go_num, hbq⟩
        case measure => simp [intOf]; omega)
  --MARK G
    · have hkk : k = p := by omega
      subst hkk
      have tz : decide ((k : Int) < (k : Int)) = false := decide_eq_false (by omega)
      go_wp2_with fail
      clear g0 g1
      obtain ⟨wo, rfl⟩ : ∃ wo, wo = wr := ⟨_, rfl⟩
  --MARK H
      go_loopw [130] (fun i wr2 => ∃ j : Nat, j ≤ m ∧ i = .int .i64 j ∧ Below W.heap.size W wr2) (fun i _ => m - (intOf i).toNat)
      case atStart => exact ⟨0, Nat.zero_le _, rfl, hbr⟩
      case round =>
        obtain ⟨j, hj, rfl, hbs⟩ := hrel
        clear hbr
        have g0 := cell_carry c0 (Carries.of 0 hbs)
        have g1 := cell_carry c1 (Carries.of 0 hbs)
        by_cases hlt2 : j < m
        · have tlt2 : decide ((j : Int) < (m : Int)) = true := decide_eq_true (by omega)
          have hpair : pairB n tn j = true := by
            unfold pairB
            rw [HGN.out, HIN.out]
            simp only [Bool.true_and]
            exact decide_eq_true ⟨by omega, by rw [← HM.out]; omega⟩
          go_wp2_with fail
          refine (AreIndependent_any _ n tn j _ 0 (HN.out.keep (Carries.of 0 hbs)) HS.out).mono ?_
          rintro e w9 ⟨rfl, hb9⟩
          rw [hpair, Bool.true_and]
          clear hpair
          generalize hI : indB n tn j = I
          have HI := Lib.hid hI; clear hI
          have bw9 : Below W.heap.size W w9 := hbs.trans (hb9.mono hbs.size)
          have q0 := cell_carry g0 (Carries.of 0 hb9)
          have q1 := cell_carry g1 (Carries.of 0 hb9)
          clear hb9 g0 g1
          go_wp2_with fail
          refine (Fire_any _ n s j _ 0 (HN.out.keep (Carries.of 0 bw9)) HS.out hsz).mono ?_
          rintro e w10 ⟨rfl, hb10⟩
          generalize hJ : bstr (fireS n s j) = F2
          have HJ := Lib.hid hJ; clear hJ
          generalize hK : fireOk n s j = O2
          have HK := Lib.hid hK; clear hK
          have bw10 : Below W.heap.size W w10 := bw9.trans (hb10.mono bw9.size)
          have q0 := cell_carry q0 (Carries.of 0 hb10)
          have q1 := cell_carry q1 (Carries.of 0 hb10)
          clear hb10
          cases I with
          | false =>
            go_wp2_with fail
            go_roundw
            case rel => first | exact ⟨j + 1, by omega, by go_num, bw10⟩ | ((repeat apply Exists.intro); exact ⟨⟨j + 1, by omega, by go_num, bw10⟩, rfl⟩)
            case measure => simp [intOf]; omega
          | true =>
          cases O2 with
          | false =>
            go_wp2_with fail
            go_roundw
            case rel => first | exact ⟨j + 1, by omega, by go_num, bw10⟩ | ((repeat apply Exists.intro); exact ⟨⟨j + 1, by omega, by go_num, bw10⟩, rfl⟩)
            case measure => simp [intOf]; omega
          | true =>
          have k1 := fire_then HI.out HFO.out HK.out
          have k2 := fire_then ((indB_comm n tn j).symm.trans HI.out) HK.out HFO.out
          have k3 := fire_swap HI.out HFO.out HK.out
          rw [HG0.out] at k1 k3
          rw [HJ.out] at k2 k3
          have HK1 := Lib.hid k1
          have HK2 := Lib.hid k2
          have HK3 := Lib.hid k3
          clear k1 k2 k3
          have hF2 : F2.size ≤ 1048576 := by rw [← HJ.out, bstr_size, fired_length HK.out]; exact hsz
          have hF1 : F.size ≤ 1048576 := by omega
          go_wp2_with fail
          refine (Fire_any _ n F j _ 0 (HN.out.keep (Carries.of 0 bw10)) HS.out hF1).mono ?_
          rintro e w11 ⟨rfl, hb11⟩
          rw [HK1.out, HK3.out]
          have bw11 : Below W.heap.size W w11 := bw10.trans (hb11.mono bw10.size)
          have q0 := cell_carry q0 (Carries.of 0 hb11)
          have q1 := cell_carry q1 (Carries.of 0 hb11)
          clear hb11
          generalize hY : bstr (fireS n F2 tn) = Y
          have HY := Lib.hid hY; clear hY
          go_wp2_with fail
          refine (Fire_any _ n F2 tn _ 0 (HN.out.keep (Carries.of 0 bw11)) HS.out hF2).mono ?_
          rintro e w12 ⟨rfl, hb12⟩
          rw [HK2.out, HY.out]
          have bw12 : Below W.heap.size W w12 := bw11.trans (hb12.mono bw11.size)
          clear hb12
          go_wp2_with fail
          go_roundw
          case rel => first | exact ⟨j + 1, by omega, by go_num, bw12⟩ | ((repeat apply Exists.intro); exact ⟨⟨j + 1, by omega, by go_num, bw12⟩, rfl⟩)
          case measure => simp [intOf]; omega
  --MARK I
        · have hjj : j = m := by omega
          have tz2 : decide ((j : Int) < (m : Int)) = false := decide_eq_false (by omega)
          go_wp2_with fail
          obtain ⟨X0, hX0⟩ : ∃ x, x = wr := ⟨_, rfl⟩
          have BX := hbs
          rw [← hX0] at BX ⊢
          clear hX0
          refine (DrawFireSequence_any _ n1 X0 (HB3.out.over BX) (by omega)).mono ?_
          rintro e x1 ⟨Q, u2, s2, lv, rfl, q0, q1, hnr2, hs2, hset, hbx1⟩
          obtain ⟨ts2, hnet2, hsm2⟩ := hnr2.net (by omega) q0 q1
          clear hnr2
          obtain ⟨zs, hzl, hzi⟩ := hset.ints
          clear hset
          obtain ⟨ao2, cap2, rfl, _⟩ := hnet2.shape
          obtain ⟨la, lc, rfl⟩ := hzi.shape
          have HN2 := Lib.hid (hnet2.low (Nat.zero_le _)); clear hnet2
          have HZ2 := Lib.hid (hzi.low (Nat.zero_le _)); clear hzi
          have HS2 := Lib.hid hsm2; clear hsm2
          have BX1 : Below W.heap.size W x1 := BX.trans (hbx1.mono BX.size)
          obtain ⟨n2, hn2⟩ : ∃ n : NetD, n = ⟨Q, ts2⟩ := ⟨_, rfl⟩
          have hS2' : SmallTrs n2.ts := by rw [hn2]; exact HS2.out
          rw [← hn2] at HN2
          have HS3 := Lib.hid hS2'; clear hS2' HS2 hn2
          obtain ⟨m2, hm2⟩ : ∃ m, m = ts2.length := ⟨_, rfl⟩
          rw [← hm2] at HN2 ⊢
          clear hm2
          obtain ⟨zl, hzl2⟩ : ∃ m, m = zs.length := ⟨_, rfl⟩
          rw [← hzl2] at HZ2 ⊢
          have hz1 : zs.length ≤ 1048576 := by omega
          clear hzl hzl2
          have hsz2 : s2.size ≤ 1048576 := by omega
          have hal : Below x1.heap.size x1 (x1.alloc (.cells #[.int .i64 Q, .slice ao2 m2 cap2] 32)) := (Below.refl _ _).alloc (Nat.le_refl _) _
          have HN3 := Lib.hid (HN2.out.keep (Carries.of 0 hal)); clear HN2
          have HZ3 := Lib.hid (HZ2.out.keep (Carries.of 0 hal)); clear HZ2
          have y0 : (x1.alloc (.cells #[.int .i64 Q, .slice ao2 m2 cap2] 32)).cell? ⟨x1.heap.size, 0, none⟩ = some (.int .i64 Q) := by simp
          have y1 : (x1.alloc (.cells #[.int .i64 Q, .slice ao2 m2 cap2] 32)).cell? ⟨x1.heap.size, 1, none⟩ = some (.slice ao2 m2 cap2) := by simp
          have BX2 : Below W.heap.size W (x1.alloc (.cells #[.int .i64 Q, .slice ao2 m2 cap2] 32)) := BX1.trans (hal.mono BX1.size)
          clear hal hbx1
          go_wp2_with fail
          generalize x1.alloc (.cells #[.int .i64 Q, .slice ao2 m2 cap2] 32) = X2 at HN3 HZ3 y0 y1 BX2 ⊢
          generalize hR : seqR n2 s2 zs = R
          refine (FireSequence_any _ n2 s2 _ zs X2 0 0 HN3.out HS3.out hsz2 HZ3.out hz1).mono ?_
          rintro e x3 ⟨rfl, hb3⟩
          have y0 := cell_carry y0 (Carries.of 0 hb3)
          have y1 := cell_carry y1 (Carries.of 0 hb3)
          have BX3 : Below W.heap.size W x3 := BX2.trans (hb3.mono BX2.size)
          go_wp2_with fail
          refine (specFireSequence_any _ n2 s2 _ zs x3 0 0 (HN3.out.keep (Carries.of 0 hb3)) HS3.out hsz2 (HZ3.out.keep (Carries.of 0 hb3)) hz1).mono ?_
          rintro e x4 ⟨rfl, hb4⟩
          have BX4 : Below W.heap.size W x4 := BX3.trans (hb4.mono BX3.size)
          clear hb3 hb4
          obtain ⟨R1, R2, R3⟩ := R
          simp only [hR]
          clear hR
          have hq1 : (R3 == R3) = true := by simp
          have hq3 : ((R2 : Int) == (R2 : Int)) = true := by simp
          go_wp2_with fail
          go_ret
          exact ⟨by first | rfl | simp, hwW.trans (BX4.mono hwW.size)⟩

end Go.Proofs.Ytkkfglolameogaa
