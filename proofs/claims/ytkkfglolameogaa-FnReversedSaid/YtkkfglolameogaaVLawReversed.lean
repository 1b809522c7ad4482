/- WALK of the law FnReversed. -/
import Derived.Test.YtkkfglolameogaaVFaid
import Derived.Test.YtkkfglolameogaaVSame
import Derived.Test.YtkkfglolameogaaVDrev
import Derived.Test.YtkkfglolameogaaVUng
import Derived.Test.YtkkfglolameogaaVPure
import Derived.Test.YtkkfglolameogaaVEna
import Derived.Deep.RegionHeld3
namespace Go.Proofs.Ytkkfglolameogaa
open Go.RowKit

theorem rev_un_small {a b : NetD} (ha : SmallTrs a.ts) (hb : SmallTrs b.ts) : SmallTrs (unR a b).ts := by
  unfold unR
  by_cases h : unB a b = true
  · rw [if_pos h]
    unfold unB at h
    simp only [Bool.and_eq_true] at h
    exact unT_small ha hb h.1 h.2.1
  · rw [if_neg h]; exact ⟨Nat.zero_le _, fun i hi => absurd hi (Nat.not_lt_zero _)⟩
theorem rev_un_places (a b : NetD) : -9223372036854775808 ≤ (unR a b).places ∧ (unR a b).places ≤ 9223372036854775807 := by
  unfold unR
  by_cases h : unB a b = true
  · rw [if_pos h]
    unfold unB at h
    simp only [Bool.and_eq_true] at h
    have := goodN_parts h.2.2
    omega
  · rw [if_neg h]; decide
theorem rev_places (n : NetD) : -9223372036854775808 ≤ (revR n).places ∧ (revR n).places ≤ 9223372036854775807 := by
  unfold revR
  by_cases h : revB n = true
  · rw [if_pos h]
    unfold revB at h
    simp only [Bool.and_eq_true] at h
    have := goodN_parts h.2
    omega
  · rw [if_neg h]; decide
theorem choice_same (n : NetD) : (goodN n && fcI n.ts) = (goodN n && fcB n.ts) := by
  cases h : goodN n with
  | false => rfl
  | true => rw [free_choice_same h]
theorem any_take_succ {zs : List Int} {f : Int → Bool} {k : Nat} (h : k < zs.length) : (zs.take (k + 1)).any f = ((zs.take k).any f || f (zs.getD k 0)) := by
  rw [List.take_succ_eq_append_getElem h, List.any_append, getD_eq h]
  simp
theorem same_add {P : Program} {f : FuncId} {args : Array Value} {X : World} {q r : Nat} (h : Calls P f args (X.drewN (q + r)) (fun e w' => e = .returned (.bool true) ∧ ∃ m, w' = (X.drewN (q + r)).drewN m)) : Calls P f args (X.drewN (q + r)) (fun e w' => e = .returned (.bool true) ∧ ∃ m, w' = X.drewN (q + m)) :=
  h.mono fun _ _ ⟨he, m, hm⟩ => ⟨he, r + m, by rw [hm, World.drewN_drewN, Nat.add_assoc]⟩

set_option maxRecDepth 100000 in
set_option maxHeartbeats 8000000 in
theorem lawReversed_any (v0 v1 : Value) (n0 n1 : Nat) (w : World) (h0 : CodeIn w.heap.size w v0 n0) (h1 : CodeIn w.heap.size w v1 n1) (hn0 : n0 ≤ 9223372036854775807) (hn1 : n1 ≤ 9223372036854775807) :
    Calls Try.prog 10 #[v0, v1] w (RetB w true) := by
  have HA := Lib.hid h0
  have HB := Lib.hid h1
  obtain ⟨a0, k0, rfl, _⟩ := h0
  obtain ⟨a1, k1, rfl, _⟩ := h1
  go_enter Try.func10, Try.ntmps10
  go_wp2_with fail
  refine (big_any a0 a1 n0 n1 k0 k1 w hn0 hn1).mono ?_
  rintro e w1 ⟨rfl, hb1⟩
  by_cases hbig : n0 + n1 ≤ 1048576
  case neg =>
    rw [decide_eq_false hbig]
    go_wp2_with fail
    go_ret
    exact ⟨rfl, hb1⟩
  rw [decide_eq_true hbig]
  have HA1 := Lib.hid (HA.out.over hb1); clear HA
  have HB1 := Lib.hid (HB.out.over hb1); clear HB
  go_wp2_with fail
  refine (DrawFire_any _ n0 w1 HA1.out (by omega)).mono ?_
  rintro e w2 ⟨P, u, s, t, rfl, p0, p1, hnr, hs, ht0, ht1, hb2⟩
  obtain ⟨ts, hnet, hsm⟩ := hnr.net (by omega) p0 p1
  clear hnr
  obtain ⟨p, rfl⟩ : ∃ p : Nat, P = p := ⟨P.toNat, by omega⟩
  obtain ⟨ao, cap, rfl, _⟩ := hnet.shape
  have hwb2 : Below w.heap.size w w2 := hb1.trans (hb2.mono hb1.size)
  have HB2 := Lib.hid (HB1.out.over hb2); clear HB1 HA1
  have hal : Below w2.heap.size w2 (w2.alloc (.cells #[.int .i64 p, .slice ao ts.length cap] 32)) := (Below.refl _ _).alloc (Nat.le_refl _) _
  have HN := Lib.hid ((hnet.low (Nat.zero_le _)).keep (Carries.of 0 hal)); clear hnet
  have HB3 := Lib.hid (HB2.out.over hal); clear HB2
  have c0 : (w2.alloc (.cells #[.int .i64 p, .slice ao ts.length cap] 32)).cell? ⟨w2.heap.size, 0, none⟩ = some (.int .i64 p) := by simp
  have c1 : (w2.alloc (.cells #[.int .i64 p, .slice ao ts.length cap] 32)).cell? ⟨w2.heap.size, 1, none⟩ = some (.slice ao ts.length cap) := by simp
  have hwW : Below w.heap.size w (w2.alloc (.cells #[.int .i64 p, .slice ao ts.length cap] 32)) := hwb2.trans (hal.mono hwb2.size)
  obtain ⟨n, hn⟩ : ∃ n : NetD, n = ⟨p, ts⟩ := ⟨_, rfl⟩
  rw [← hn] at HN
  have hnp : n.places = (p : Int) := by rw [hn]
  have hnt : ts = n.ts := by rw [hn]
  clear hn
  obtain ⟨m, hm⟩ : ∃ m, m = ts.length := ⟨_, rfl⟩
  rw [← hm] at HN HB3 c0 c1 hwW ⊢
  rw [hnt] at hm hsm
  have HNP := Lib.hid hnp; clear hnp
  have HM := Lib.hid hm; clear hm
  have hmm : m ≤ 1048576 := by rw [HM.out]; exact hsm.1
  have HS := Lib.hid hsm; clear hsm hnt hal hb1 hb2 hwb2
  have hsz : s.size ≤ 1048576 := by omega
  obtain ⟨b, hb⟩ : ∃ b, b = w2.heap.size := ⟨_, rfl⟩
  go_wp2_with fail
  generalize w2.alloc (.cells #[.int .i64 p, .slice ao m cap] 32) = W at HN HB3 c0 c1 hwW ⊢
  rw [← hb] at c0 c1 ⊢
  clear hb
  refine (Fire_any _ n s t W 0 HN.out HS.out hsz).mono ?_
  rintro e w4 ⟨rfl, hb4⟩
  generalize hG0 : bstr (fireS n s t) = F
  have HG0 := Lib.hid hG0; clear hG0
  generalize hG1 : fireOk n s t = O
  have HG1 := Lib.hid hG1; clear hG1
  have d0 := cell_carry c0 (Carries.of 0 hb4)
  have d1 := cell_carry c1 (Carries.of 0 hb4)
  go_wp2_with fail
  refine (ReverseNet_any _ n w4 0 (HN.out.keep (Carries.of 0 hb4)) HS.out).mono ?_
  rintro e w5 ⟨vr, rfl, ⟨cc, _, _, hsep⟩, hb5⟩
  have hrp := rev_places n
  generalize hR : revR n = RN at hsep hrp ⊢
  have HR := Lib.hid hR; clear hR
  generalize hB : revB n = BR
  have HBR := Lib.hid hB; clear hB
  have hta := hsep.at
  clear hsep
  obtain ⟨ra, rk, rfl, _⟩ := id hta
  have hnr := Lib.hid (show NetAt 0 w5 (.agg #[.int .i64 RN.places, .slice ra RN.ts.length rk]) RN from ⟨hrp.1, hrp.2, _, rfl, hta⟩)
  clear hta hrp
  obtain ⟨rp, hrp⟩ : ∃ x, x = RN.places := ⟨_, rfl⟩
  obtain ⟨rl, hrl⟩ : ∃ x, x = RN.ts.length := ⟨_, rfl⟩
  rw [← hrp, ← hrl] at hnr ⊢
  clear hrp hrl
  have bw5 : Below W.heap.size W w5 := hb4.trans (hb5.mono hb4.size)
  have hal : Below w5.heap.size w5 (w5.alloc (.cells #[.int .i64 rp, .slice ra rl rk] 32)) := (Below.refl _ _).alloc (Nat.le_refl _) _
  have HNR := Lib.hid (hnr.out.keep (Carries.of 0 hal)); clear hnr
  have r0 : (w5.alloc (.cells #[.int .i64 rp, .slice ra rl rk] 32)).cell? ⟨w5.heap.size, 0, none⟩ = some (.int .i64 rp) := by simp
  have r1 : (w5.alloc (.cells #[.int .i64 rp, .slice ra rl rk] 32)).cell? ⟨w5.heap.size, 1, none⟩ = some (.slice ra rl rk) := by simp
  have bX : Below W.heap.size W (w5.alloc (.cells #[.int .i64 rp, .slice ra rl rk] 32)) := bw5.trans (hal.mono bw5.size)
  have e0 := cell_carry c0 (Carries.of 0 bw5)
  have e1 := cell_carry c1 (Carries.of 0 bw5)
  clear d0 d1 hb4 hb5 hal
  obtain ⟨rb, hrb⟩ : ∃ b, b = w5.heap.size := ⟨_, rfl⟩
  have g0 := cell_carry c0 (Carries.of 0 bX)
  have g1 := cell_carry c1 (Carries.of 0 bX)
  cases O with
  | false =>
    go_wp2_with fail
    generalize w5.alloc (.cells #[.int .i64 rp, .slice ra rl rk] 32) = X at HNR r0 r1 g0 g1 bX ⊢
    rw [← hrb] at r0 r1 ⊢
    clear hrb bw5 e0 e1
    obtain ⟨X0, hX0⟩ : ∃ x, x = X := ⟨_, rfl⟩
    have BX : Below W.heap.size W X0 := by rw [hX0]; exact bX
    rw [← hX0]
    clear hX0
    refine (DrawUnion_any _ n1 X0 (HB3.out.over BX) (by omega)).mono ?_
    rintro e x1 ⟨PA, ua, PB, ub, rfl, pa0, pa1, pb0, pb1, hra, hrb, hbx1⟩
    obtain ⟨ta, hna, hsa⟩ := hra.net (by omega) pa0 pa1
    obtain ⟨tb, hnb, hsb⟩ := hrb.net (by omega) pb0 pb1
    clear hra hrb
    obtain ⟨aa, ka, rfl, _⟩ := hna.shape
    obtain ⟨ab, kb, rfl, _⟩ := hnb.shape
    have HNA := Lib.hid (hna.low (Nat.zero_le _)); clear hna
    have HNB := Lib.hid (hnb.low (Nat.zero_le _)); clear hnb
    obtain ⟨A, hA⟩ : ∃ n : NetD, n = ⟨PA, ta⟩ := ⟨_, rfl⟩
    obtain ⟨B, hB⟩ : ∃ n : NetD, n = ⟨PB, tb⟩ := ⟨_, rfl⟩
    have hSA : SmallTrs A.ts := by rw [hA]; exact hsa
    have hSB : SmallTrs B.ts := by rw [hB]; exact hsb
    rw [← hA] at HNA
    rw [← hB] at HNB
    clear hA hB hsa hsb
    obtain ⟨ma, hma⟩ : ∃ m, m = ta.length := ⟨_, rfl⟩
    obtain ⟨mb, hmb⟩ : ∃ m, m = tb.length := ⟨_, rfl⟩
    rw [← hma] at HNA ⊢
    rw [← hmb] at HNB ⊢
    clear hma hmb pa0 pa1 pb0 pb1
    have HSA := Lib.hid hSA; clear hSA
    have HSB := Lib.hid hSB; clear hSB
    have BX1 : Below W.heap.size W x1 := BX.trans (hbx1.mono BX.size)
    clear hbx1 BX
    have hala : Below x1.heap.size x1 (x1.alloc (.cells #[.int .i64 PA, .slice aa ma ka] 32)) := (Below.refl _ _).alloc (Nat.le_refl _) _
    have za : (x1.alloc (.cells #[.int .i64 PA, .slice aa ma ka] 32)).heap.size = x1.heap.size + 1 := by simp
    have BA0 := NBox.new x1 (.int .i64 PA) (.slice aa ma ka) 32
    have BB0 := NBox.new (x1.alloc (.cells #[.int .i64 PA, .slice aa ma ka] 32)) (.int .i64 PB) (.slice ab mb kb) 32
    have BXa : Below x1.heap.size x1 ((x1.alloc (.cells #[.int .i64 PA, .slice aa ma ka] 32)).alloc (.cells #[.int .i64 PB, .slice ab mb kb] 32)) := hala.alloc (by simp) _
    have CA := BA0.keep (w' := (x1.alloc (.cells #[.int .i64 PA, .slice aa ma ka] 32)).alloc (.cells #[.int .i64 PB, .slice ab mb kb] 32)) (((Below.refl (x1.alloc (.cells #[.int .i64 PA, .slice aa ma ka] 32)).heap.size _).alloc (Nat.le_refl _) _).block _ (by omega))
    rw [za] at BB0
    obtain ⟨sa0, sa1, _, _⟩ := CA
    obtain ⟨sb0, sb1, _, _⟩ := BB0
    clear hala za BA0
    go_wp2_with fail
    generalize (x1.alloc (.cells #[.int .i64 PA, .slice aa ma ka] 32)).alloc (.cells #[.int .i64 PB, .slice ab mb kb] 32) = X2 at BXa sa0 sa1 sb0 sb1 ⊢
    have BX2 : Below W.heap.size W X2 := BX1.trans (BXa.mono BX1.size)
    have HNA2 := Lib.hid (HNA.out.keep (Carries.of 0 BXa)); clear HNA
    have HNB2 := Lib.hid (HNB.out.keep (Carries.of 0 BXa)); clear HNB
    clear BXa BX1
    obtain ⟨xb, hxb⟩ : ∃ x, x = x1.heap.size := ⟨_, rfl⟩
    rw [← hxb] at sa0 sa1 sb0 sb1 ⊢
    clear hxb
    refine (UnionNets_any _ _ A B X2 0 HNA2.out HSA.out HNB2.out HSB.out).mono ?_
    rintro e x3 ⟨vj, rfl, _, htj, hb3⟩
    have hSU : SmallTrs (unR A B).ts := rev_un_small HSA.out HSB.out
    have hup := rev_un_places A B
    generalize hU : unR A B = U at htj hSU hup ⊢
    have HU := Lib.hid hU; clear hU
    generalize hBU : unB A B = BU
    have HBU := Lib.hid hBU; clear hBU
    obtain ⟨ja, jk, rfl, _⟩ := id htj
    have HJ := Lib.hid (show NetAt 0 x3 (.agg #[.int .i64 U.places, .slice ja U.ts.length jk]) U from ⟨hup.1, hup.2, _, rfl, htj.low (Nat.zero_le _)⟩)
    have HSU := Lib.hid hSU; clear hSU htj
    have HUP := Lib.hid hup; clear hup
    have BX3 : Below W.heap.size W x3 := BX2.trans (hb3.mono BX2.size)
    have sa0 := cell_carry sa0 (Carries.of 0 hb3)
    have sa1 := cell_carry sa1 (Carries.of 0 hb3)
    have sb0 := cell_carry sb0 (Carries.of 0 hb3)
    have sb1 := cell_carry sb1 (Carries.of 0 hb3)
    have HNA3 := Lib.hid (HNA2.out.keep (Carries.of 0 hb3)); clear HNA2
    have HNB3 := Lib.hid (HNB2.out.keep (Carries.of 0 hb3)); clear HNB2
    clear hb3 BX2
    obtain ⟨up, hup⟩ : ∃ x, x = U.places := ⟨_, rfl⟩
    obtain ⟨ul, hul⟩ : ∃ x, x = U.ts.length := ⟨_, rfl⟩
    rw [← hup, ← hul] at HJ ⊢
    have HUQ := Lib.hid hup; clear hup
    have HUL := Lib.hid hul; clear hul
    have hal4 : Below x3.heap.size x3 (x3.alloc (.cells #[.int .i64 up, .slice ja ul jk] 32)) := (Below.refl _ _).alloc (Nat.le_refl _) _
    have j0 : (x3.alloc (.cells #[.int .i64 up, .slice ja ul jk] 32)).cell? ⟨x3.heap.size, 0, none⟩ = some (.int .i64 up) := by simp
    have j1 : (x3.alloc (.cells #[.int .i64 up, .slice ja ul jk] 32)).cell? ⟨x3.heap.size, 1, none⟩ = some (.slice ja ul jk) := by simp
    have sa0 := cell_carry sa0 (Carries.of 0 hal4)
    have sa1 := cell_carry sa1 (Carries.of 0 hal4)
    have sb0 := cell_carry sb0 (Carries.of 0 hal4)
    have sb1 := cell_carry sb1 (Carries.of 0 hal4)
    have HNA4 := Lib.hid (HNA3.out.keep (Carries.of 0 hal4)); clear HNA3
    have HNB4 := Lib.hid (HNB3.out.keep (Carries.of 0 hal4)); clear HNB3
    have HJ4 := Lib.hid (HJ.out.keep (Carries.of 0 hal4)); clear HJ
    have BX4 := BX3.trans (hal4.mono BX3.size)
    go_wp2_with fail
    generalize x3.alloc (.cells #[.int .i64 up, .slice ja ul jk] 32) = X4 at j0 j1 sa0 sa1 sb0 sb1 HNA4 HNB4 HJ4 BX4 ⊢
    clear hal4 BX3
    obtain ⟨jb, hjb⟩ : ∃ x, x = x3.heap.size := ⟨_, rfl⟩
    rw [← hjb] at j0 j1 ⊢
    clear hjb
    refine (specUnionNets_any _ _ A B X4 0 HNA4.out HSA.out HNB4.out HSB.out).mono ?_
    rintro e x5 ⟨vk, rfl, htk, hb5⟩
    rw [HU.out] at htk ⊢
    rw [HBU.out]
    obtain ⟨qa, qk, rfl, _⟩ := id htk
    have HK := Lib.hid (show NetAt 0 x5 (.agg #[.int .i64 U.places, .slice qa U.ts.length qk]) U from ⟨HUP.out.1, HUP.out.2, _, rfl, htk.low (Nat.zero_le _)⟩)
    rw [← HUQ.out, ← HUL.out] at HK ⊢
    have hulz : ul ≤ 1048576 := by rw [HUL.out]; exact HSU.out.1
    clear htk HNA4 HNB4 sa0 sa1 sb0 sb1
    have j0 := cell_carry j0 (Carries.of 0 hb5)
    have j1 := cell_carry j1 (Carries.of 0 hb5)
    have HJ5 := Lib.hid (HJ4.out.keep (Carries.of 0 hb5)); clear HJ4
    have BX5 := BX4.trans (hb5.mono BX4.size)
    clear hb5 BX4
    have hal6 : Below x5.heap.size x5 (x5.alloc (.cells #[.int .i64 up, .slice qa ul qk] 32)) := (Below.refl _ _).alloc (Nat.le_refl _) _
    have k0 : (x5.alloc (.cells #[.int .i64 up, .slice qa ul qk] 32)).cell? ⟨x5.heap.size, 0, none⟩ = some (.int .i64 up) := by simp
    have k1 : (x5.alloc (.cells #[.int .i64 up, .slice qa ul qk] 32)).cell? ⟨x5.heap.size, 1, none⟩ = some (.slice qa ul qk) := by simp
    have j0 := cell_carry j0 (Carries.of 0 hal6)
    have j1 := cell_carry j1 (Carries.of 0 hal6)
    have HJ6 := Lib.hid (HJ5.out.keep (Carries.of 0 hal6)); clear HJ5
    have HK6 := Lib.hid (HK.out.keep (Carries.of 0 hal6)); clear HK
    have BX6 := BX5.trans (hal6.mono BX5.size)
    have hbu : (BU != BU) = false := by simp
    have hpu : ((up : Int) != (up : Int)) = false := by simp
    have hlu : ((ul : Int) != (ul : Int)) = false := by simp
    obtain ⟨kb2, hkb⟩ : ∃ x, x = x5.heap.size := ⟨_, rfl⟩
    go_wp2_with fail
    generalize x5.alloc (.cells #[.int .i64 up, .slice qa ul qk] 32) = X6 at j0 j1 k0 k1 HJ6 HK6 BX6 ⊢
    rw [← hkb] at k0 k1 ⊢
    clear hal6 BX5 hkb hbu hpu hlu
    try go_wp2_with fail
    go_loopw [151] (fun i wr => ∃ k : Nat, k ≤ ul ∧ i = .int .i64 k ∧ ∃ q, wr = X6.drewN q) (fun i _ => ul - (intOf i).toNat)
    case atStart => exact ⟨0, Nat.zero_le _, rfl, 0, rfl⟩
    case round =>
      obtain ⟨k, hk, rfl, q, rfl⟩ := hrel
      by_cases hlt : k < ul
      · have hlt' : (k : Int) < (ul : Int) := by omega
        have tlt : decide ((k : Int) < (ul : Int)) = true := decide_eq_true hlt'
        have htr := HSU.out.2 k (by rw [← HUL.out]; exact hlt)
        obtain ⟨b1, o1, x0, x1', rfl, cx0, cx1, hx0, hx1⟩ := HJ6.out.tr (t := k) (by rw [← HUL.out]; exact hlt)
        obtain ⟨b2, o2, y0, y1, rfl, cy0, cy1, hy0, hy1⟩ := HK6.out.tr (t := k) (by rw [← HUL.out]; exact hlt)
        obtain ⟨xa0, xk0, rfl⟩ := hx0.shape
        obtain ⟨xa1, xk1, rfl⟩ := hx1.shape
        obtain ⟨ya0, yk0, rfl⟩ := hy0.shape
        obtain ⟨ya1, yk1, rfl⟩ := hy1.shape
        have CP : Hid (∀ r, Calls Try.prog 47 #[.slice xa0 (U.ts.getD k ([], [])).1.length xk0, .slice ya0 (U.ts.getD k ([], [])).1.length yk0] (X6.drewN (q + r)) (fun e w' => e = .returned (.bool true) ∧ ∃ m, w' = X6.drewN (q + m))) := Lib.hid (fun r => same_add (
          sameInts_self _ _ _ _ 0 0 (hx0.keep (Carries.of 0 (below_drewN (Below.refl _ _) (q + r)))) (hy0.keep (Carries.of 0 (below_drewN (Below.refl _ _) (q + r)))) (by omega)))
        have CQ : Hid (∀ r, Calls Try.prog 47 #[.slice xa1 (U.ts.getD k ([], [])).2.length xk1, .slice ya1 (U.ts.getD k ([], [])).2.length yk1] (X6.drewN (q + r)) (fun e w' => e = .returned (.bool true) ∧ ∃ m, w' = X6.drewN (q + m))) := Lib.hid (fun r => same_add (
          sameInts_self _ _ _ _ 0 0 (hx1.keep (Carries.of 0 (below_drewN (Below.refl _ _) (q + r)))) (hy1.keep (Carries.of 0 (below_drewN (Below.refl _ _) (q + r)))) (by omega)))
        clear htr hx0 hx1 hy0 hy1
        obtain ⟨l0, hl0⟩ : ∃ x, x = (U.ts.getD k ([], [])).1.length := ⟨_, rfl⟩
        obtain ⟨l1, hl1⟩ : ∃ x, x = (U.ts.getD k ([], [])).2.length := ⟨_, rfl⟩
        rw [← hl0] at CP cx0 cy0
        rw [← hl1] at CQ cx1 cy1
        clear hl0 hl1
        go_wp2_with fail
        go_quiet (first | with_reducible exact CP.out _ | with_reducible exact CQ.out _)
        go_wp2_with fail
        go_roundw
        case rel => exact ⟨k + 1, by omega, by go_num, _, rfl⟩
        case measure => simp [intOf]; omega
      · have hkk : k = ul := by omega
        have tz : decide ((k : Int) < (ul : Int)) = false := decide_eq_false (by omega)
        have BX7 := below_drewN BX6 q
        go_wp2_with fail
        generalize X6.drewN q = X7 at BX7 ⊢
        clear j0 j1 k0 k1 HJ6 HK6 BX6 HSU HUP HSA HSB
        refine (DrawFree_any _ n1 X7 (HB3.out.over BX7) (by omega)).mono ?_
        rintro e x8 ⟨PC, uc, rfl, pc0, pc1, hrc, hb8⟩
        obtain ⟨tc, hnc, hsc⟩ := hrc.net (by omega) pc0 pc1
        clear hrc
        obtain ⟨ac, kc, rfl, _⟩ := hnc.shape
        have HNC := Lib.hid (hnc.low (Nat.zero_le _)); clear hnc
        obtain ⟨C, hC⟩ : ∃ n : NetD, n = ⟨PC, tc⟩ := ⟨_, rfl⟩
        have hSC : SmallTrs C.ts := by rw [hC]; exact hsc
        rw [← hC] at HNC
        have HSC := Lib.hid hSC; clear hSC hsc hC
        obtain ⟨mc, hmc⟩ : ∃ m, m = tc.length := ⟨_, rfl⟩
        rw [← hmc] at HNC ⊢
        clear hmc pc0 pc1
        have BX8 : Below W.heap.size W x8 := BX7.trans (hb8.mono BX7.size)
        clear hb8 BX7
        have hal9 : Below x8.heap.size x8 (x8.alloc (.cells #[.int .i64 PC, .slice ac mc kc] 32)) := (Below.refl _ _).alloc (Nat.le_refl _) _
        have s0 : (x8.alloc (.cells #[.int .i64 PC, .slice ac mc kc] 32)).cell? ⟨x8.heap.size, 0, none⟩ = some (.int .i64 PC) := by simp
        have s1 : (x8.alloc (.cells #[.int .i64 PC, .slice ac mc kc] 32)).cell? ⟨x8.heap.size, 1, none⟩ = some (.slice ac mc kc) := by simp
        have HNC9 := Lib.hid (HNC.out.keep (Carries.of 0 hal9)); clear HNC
        have BX9 := BX8.trans (hal9.mono BX8.size)
        go_wp2_with fail
        generalize x8.alloc (.cells #[.int .i64 PC, .slice ac mc kc] 32) = X9 at s0 s1 HNC9 BX9 ⊢
        clear hal9 BX8
        refine (IsFreeChoice_any _ C X9 0 HNC9.out HSC.out).mono ?_
        rintro e x10 ⟨rfl, hb10⟩
        have s0 := cell_carry s0 (Carries.of 0 hb10)
        have s1 := cell_carry s1 (Carries.of 0 hb10)
        have BX10 := BX9.trans (hb10.mono BX9.size)
        rw [choice_same C]
        generalize hfc : (goodN C && fcB C.ts) = FC
        generalize hgc : goodN C = GC
        have HFC := Lib.hid hfc; clear hfc
        have HGC := Lib.hid hgc; clear hgc
        go_wp2_with fail
        refine (specIsFreeChoice_any _ C x10 0 (HNC9.out.keep (Carries.of 0 hb10)) HSC.out).mono ?_
        rintro e x11 ⟨rfl, hb11⟩
        rw [HFC.out, HGC.out]
        have BX11 := BX10.trans (hb11.mono BX10.size)
        clear hb10 hb11 BX10 BX9 HNC9 s0 s1 HSC HFC HGC
        go_wp2_with fail
        refine (DrawEnabled_any _ n1 x11 (HB3.out.over BX11) (by omega)).mono ?_
        rintro e x12 ⟨PD, ud, sd, rfl, pd0, pd1, hrd, hsd, hb12⟩
        obtain ⟨td, hnd, hsd2⟩ := hrd.net (by omega) pd0 pd1
        clear hrd
        obtain ⟨ad, kd, rfl, _⟩ := hnd.shape
        have HND := Lib.hid (hnd.low (Nat.zero_le _)); clear hnd
        obtain ⟨D, hD⟩ : ∃ n : NetD, n = ⟨PD, td⟩ := ⟨_, rfl⟩
        have hSD : SmallTrs D.ts := by rw [hD]; exact hsd2
        rw [← hD] at HND
        have HSD := Lib.hid hSD; clear hSD hsd2 hD
        obtain ⟨md, hmd⟩ : ∃ m, m = td.length := ⟨_, rfl⟩
        rw [← hmd] at HND ⊢
        clear hmd pd0 pd1
        have hsd3 : sd.size ≤ 1048576 := by omega
        have BX12 : Below W.heap.size W x12 := BX11.trans (hb12.mono BX11.size)
        clear hb12 BX11
        have hal13 : Below x12.heap.size x12 (x12.alloc (.cells #[.int .i64 PD, .slice ad md kd] 32)) := (Below.refl _ _).alloc (Nat.le_refl _) _
        have s0 : (x12.alloc (.cells #[.int .i64 PD, .slice ad md kd] 32)).cell? ⟨x12.heap.size, 0, none⟩ = some (.int .i64 PD) := by simp
        have s1 : (x12.alloc (.cells #[.int .i64 PD, .slice ad md kd] 32)).cell? ⟨x12.heap.size, 1, none⟩ = some (.slice ad md kd) := by simp
        have HND13 := Lib.hid (HND.out.keep (Carries.of 0 hal13)); clear HND
        have BX13 := BX12.trans (hal13.mono BX12.size)
        go_wp2_with fail
        generalize x12.alloc (.cells #[.int .i64 PD, .slice ad md kd] 32) = X13 at s0 s1 HND13 BX13 ⊢
        clear hal13 BX12
        refine (Enabled_any _ D sd X13 0 HND13.out HSD.out hsd3).mono ?_
        rintro e x14 ⟨ve, rfl, hve, hb14⟩
        have hEL : (enL D sd).length ≤ 1048576 := enL_small HSD.out
        generalize hel : enL D sd = EL at hve hEL ⊢
        generalize heb : enB D sd = EB
        have HEL := Lib.hid hel; clear hel
        have HEB := Lib.hid heb; clear heb
        have hvi := hve.at
        obtain ⟨ea, ek, rfl⟩ := IntsAt.shape hvi
        have HVE := Lib.hid (hvi.low (Nat.zero_le _)); clear hve hvi
        have s0 := cell_carry s0 (Carries.of 0 hb14)
        have s1 := cell_carry s1 (Carries.of 0 hb14)
        have BX14 := BX13.trans (hb14.mono BX13.size)
        go_wp2_with fail
        refine (specEnabled_any _ D sd x14 0 (HND13.out.keep (Carries.of 0 hb14)) HSD.out hsd3).mono ?_
        rintro e x15 ⟨vf, rfl, hvf, hb15⟩
        rw [HEL.out] at hvf
        rw [HEB.out]
        obtain ⟨fa, fk, rfl⟩ := hvf.shape
        have HVF := Lib.hid (hvf.low (Nat.zero_le _)); clear hvf
        have HVE2 := Lib.hid (HVE.out.keep (Carries.of 0 hb15)); clear HVE
        have BX15 := BX14.trans (hb15.mono BX14.size)
        clear hb14 hb15 BX13 BX14 s0 s1 HND13
        have hq1 : (GC == GC) = true := by simp
        have hq2 : (FC == FC) = true := by simp
        have hq3 : (EB == EB) = true := by simp
        obtain ⟨el, hel⟩ : ∃ x, x = EL.length := ⟨_, rfl⟩
        rw [← hel]
        have HEQ := Lib.hid hel; clear hel
        go_wp2_with fail
        rw [HEQ.out]
        refine (sameInts_self _ _ EL x15 0 0 HVE2.out HVF.out (by omega)).mono ?_
        rintro e x16 ⟨rfl, q2, rfl⟩
        have BX16 := below_drewN BX15 q2
        go_wp2_with fail
        go_ret
        exact ⟨by first | rfl | simp, hwW.trans (BX16.mono hwW.size)⟩
  | true =>
  cases BR with
  | false =>
    go_wp2_with fail
    generalize w5.alloc (.cells #[.int .i64 rp, .slice ra rl rk] 32) = X at HNR r0 r1 g0 g1 bX ⊢
    rw [← hrb] at r0 r1 ⊢
    clear hrb bw5 e0 e1
    obtain ⟨X0, hX0⟩ : ∃ x, x = X := ⟨_, rfl⟩
    have BX : Below W.heap.size W X0 := by rw [hX0]; exact bX
    rw [← hX0]
    clear hX0
    refine (DrawUnion_any _ n1 X0 (HB3.out.over BX) (by omega)).mono ?_
    rintro e x1 ⟨PA, ua, PB, ub, rfl, pa0, pa1, pb0, pb1, hra, hrb, hbx1⟩
    obtain ⟨ta, hna, hsa⟩ := hra.net (by omega) pa0 pa1
    obtain ⟨tb, hnb, hsb⟩ := hrb.net (by omega) pb0 pb1
    clear hra hrb
    obtain ⟨aa, ka, rfl, _⟩ := hna.shape
    obtain ⟨ab, kb, rfl, _⟩ := hnb.shape
    have HNA := Lib.hid (hna.low (Nat.zero_le _)); clear hna
    have HNB := Lib.hid (hnb.low (Nat.zero_le _)); clear hnb
    obtain ⟨A, hA⟩ : ∃ n : NetD, n = ⟨PA, ta⟩ := ⟨_, rfl⟩
    obtain ⟨B, hB⟩ : ∃ n : NetD, n = ⟨PB, tb⟩ := ⟨_, rfl⟩
    have hSA : SmallTrs A.ts := by rw [hA]; exact hsa
    have hSB : SmallTrs B.ts := by rw [hB]; exact hsb
    rw [← hA] at HNA
    rw [← hB] at HNB
    clear hA hB hsa hsb
    obtain ⟨ma, hma⟩ : ∃ m, m = ta.length := ⟨_, rfl⟩
    obtain ⟨mb, hmb⟩ : ∃ m, m = tb.length := ⟨_, rfl⟩
    rw [← hma] at HNA ⊢
    rw [← hmb] at HNB ⊢
    clear hma hmb pa0 pa1 pb0 pb1
    have HSA := Lib.hid hSA; clear hSA
    have HSB := Lib.hid hSB; clear hSB
    have BX1 : Below W.heap.size W x1 := BX.trans (hbx1.mono BX.size)
    clear hbx1 BX
    have hala : Below x1.heap.size x1 (x1.alloc (.cells #[.int .i64 PA, .slice aa ma ka] 32)) := (Below.refl _ _).alloc (Nat.le_refl _) _
    have za : (x1.alloc (.cells #[.int .i64 PA, .slice aa ma ka] 32)).heap.size = x1.heap.size + 1 := by simp
    have BA0 := NBox.new x1 (.int .i64 PA) (.slice aa ma ka) 32
    have BB0 := NBox.new (x1.alloc (.cells #[.int .i64 PA, .slice aa ma ka] 32)) (.int .i64 PB) (.slice ab mb kb) 32
    have BXa : Below x1.heap.size x1 ((x1.alloc (.cells #[.int .i64 PA, .slice aa ma ka] 32)).alloc (.cells #[.int .i64 PB, .slice ab mb kb] 32)) := hala.alloc (by simp) _
    have CA := BA0.keep (w' := (x1.alloc (.cells #[.int .i64 PA, .slice aa ma ka] 32)).alloc (.cells #[.int .i64 PB, .slice ab mb kb] 32)) (((Below.refl (x1.alloc (.cells #[.int .i64 PA, .slice aa ma ka] 32)).heap.size _).alloc (Nat.le_refl _) _).block _ (by omega))
    rw [za] at BB0
    obtain ⟨sa0, sa1, _, _⟩ := CA
    obtain ⟨sb0, sb1, _, _⟩ := BB0
    clear hala za BA0
    go_wp2_with fail
    generalize (x1.alloc (.cells #[.int .i64 PA, .slice aa ma ka] 32)).alloc (.cells #[.int .i64 PB, .slice ab mb kb] 32) = X2 at BXa sa0 sa1 sb0 sb1 ⊢
    have BX2 : Below W.heap.size W X2 := BX1.trans (BXa.mono BX1.size)
    have HNA2 := Lib.hid (HNA.out.keep (Carries.of 0 BXa)); clear HNA
    have HNB2 := Lib.hid (HNB.out.keep (Carries.of 0 BXa)); clear HNB
    clear BXa BX1
    obtain ⟨xb, hxb⟩ : ∃ x, x = x1.heap.size := ⟨_, rfl⟩
    rw [← hxb] at sa0 sa1 sb0 sb1 ⊢
    clear hxb
    refine (UnionNets_any _ _ A B X2 0 HNA2.out HSA.out HNB2.out HSB.out).mono ?_
    rintro e x3 ⟨vj, rfl, _, htj, hb3⟩
    have hSU : SmallTrs (unR A B).ts := rev_un_small HSA.out HSB.out
    have hup := rev_un_places A B
    generalize hU : unR A B = U at htj hSU hup ⊢
    have HU := Lib.hid hU; clear hU
    generalize hBU : unB A B = BU
    have HBU := Lib.hid hBU; clear hBU
    obtain ⟨ja, jk, rfl, _⟩ := id htj
    have HJ := Lib.hid (show NetAt 0 x3 (.agg #[.int .i64 U.places, .slice ja U.ts.length jk]) U from ⟨hup.1, hup.2, _, rfl, htj.low (Nat.zero_le _)⟩)
    have HSU := Lib.hid hSU; clear hSU htj
    have HUP := Lib.hid hup; clear hup
    have BX3 : Below W.heap.size W x3 := BX2.trans (hb3.mono BX2.size)
    have sa0 := cell_carry sa0 (Carries.of 0 hb3)
    have sa1 := cell_carry sa1 (Carries.of 0 hb3)
    have sb0 := cell_carry sb0 (Carries.of 0 hb3)
    have sb1 := cell_carry sb1 (Carries.of 0 hb3)
    have HNA3 := Lib.hid (HNA2.out.keep (Carries.of 0 hb3)); clear HNA2
    have HNB3 := Lib.hid (HNB2.out.keep (Carries.of 0 hb3)); clear HNB2
    clear hb3 BX2
    obtain ⟨up, hup⟩ : ∃ x, x = U.places := ⟨_, rfl⟩
    obtain ⟨ul, hul⟩ : ∃ x, x = U.ts.length := ⟨_, rfl⟩
    rw [← hup, ← hul] at HJ ⊢
    have HUQ := Lib.hid hup; clear hup
    have HUL := Lib.hid hul; clear hul
    have hal4 : Below x3.heap.size x3 (x3.alloc (.cells #[.int .i64 up, .slice ja ul jk] 32)) := (Below.refl _ _).alloc (Nat.le_refl _) _
    have j0 : (x3.alloc (.cells #[.int .i64 up, .slice ja ul jk] 32)).cell? ⟨x3.heap.size, 0, none⟩ = some (.int .i64 up) := by simp
    have j1 : (x3.alloc (.cells #[.int .i64 up, .slice ja ul jk] 32)).cell? ⟨x3.heap.size, 1, none⟩ = some (.slice ja ul jk) := by simp
    have sa0 := cell_carry sa0 (Carries.of 0 hal4)
    have sa1 := cell_carry sa1 (Carries.of 0 hal4)
    have sb0 := cell_carry sb0 (Carries.of 0 hal4)
    have sb1 := cell_carry sb1 (Carries.of 0 hal4)
    have HNA4 := Lib.hid (HNA3.out.keep (Carries.of 0 hal4)); clear HNA3
    have HNB4 := Lib.hid (HNB3.out.keep (Carries.of 0 hal4)); clear HNB3
    have HJ4 := Lib.hid (HJ.out.keep (Carries.of 0 hal4)); clear HJ
    have BX4 := BX3.trans (hal4.mono BX3.size)
    go_wp2_with fail
    generalize x3.alloc (.cells #[.int .i64 up, .slice ja ul jk] 32) = X4 at j0 j1 sa0 sa1 sb0 sb1 HNA4 HNB4 HJ4 BX4 ⊢
    clear hal4 BX3
    obtain ⟨jb, hjb⟩ : ∃ x, x = x3.heap.size := ⟨_, rfl⟩
    rw [← hjb] at j0 j1 ⊢
    clear hjb
    refine (specUnionNets_any _ _ A B X4 0 HNA4.out HSA.out HNB4.out HSB.out).mono ?_
    rintro e x5 ⟨vk, rfl, htk, hb5⟩
    rw [HU.out] at htk ⊢
    rw [HBU.out]
    obtain ⟨qa, qk, rfl, _⟩ := id htk
    have HK := Lib.hid (show NetAt 0 x5 (.agg #[.int .i64 U.places, .slice qa U.ts.length qk]) U from ⟨HUP.out.1, HUP.out.2, _, rfl, htk.low (Nat.zero_le _)⟩)
    rw [← HUQ.out, ← HUL.out] at HK ⊢
    have hulz : ul ≤ 1048576 := by rw [HUL.out]; exact HSU.out.1
    clear htk HNA4 HNB4 sa0 sa1 sb0 sb1
    have j0 := cell_carry j0 (Carries.of 0 hb5)
    have j1 := cell_carry j1 (Carries.of 0 hb5)
    have HJ5 := Lib.hid (HJ4.out.keep (Carries.of 0 hb5)); clear HJ4
    have BX5 := BX4.trans (hb5.mono BX4.size)
    clear hb5 BX4
    have hal6 : Below x5.heap.size x5 (x5.alloc (.cells #[.int .i64 up, .slice qa ul qk] 32)) := (Below.refl _ _).alloc (Nat.le_refl _) _
    have k0 : (x5.alloc (.cells #[.int .i64 up, .slice qa ul qk] 32)).cell? ⟨x5.heap.size, 0, none⟩ = some (.int .i64 up) := by simp
    have k1 : (x5.alloc (.cells #[.int .i64 up, .slice qa ul qk] 32)).cell? ⟨x5.heap.size, 1, none⟩ = some (.slice qa ul qk) := by simp
    have j0 := cell_carry j0 (Carries.of 0 hal6)
    have j1 := cell_carry j1 (Carries.of 0 hal6)
    have HJ6 := Lib.hid (HJ5.out.keep (Carries.of 0 hal6)); clear HJ5
    have HK6 := Lib.hid (HK.out.keep (Carries.of 0 hal6)); clear HK
    have BX6 := BX5.trans (hal6.mono BX5.size)
    have hbu : (BU != BU) = false := by simp
    have hpu : ((up : Int) != (up : Int)) = false := by simp
    have hlu : ((ul : Int) != (ul : Int)) = false := by simp
    obtain ⟨kb2, hkb⟩ : ∃ x, x = x5.heap.size := ⟨_, rfl⟩
    go_wp2_with fail
    generalize x5.alloc (.cells #[.int .i64 up, .slice qa ul qk] 32) = X6 at j0 j1 k0 k1 HJ6 HK6 BX6 ⊢
    rw [← hkb] at k0 k1 ⊢
    clear hal6 BX5 hkb hbu hpu hlu
    try go_wp2_with fail
    go_loopw [151] (fun i wr => ∃ k : Nat, k ≤ ul ∧ i = .int .i64 k ∧ ∃ q, wr = X6.drewN q) (fun i _ => ul - (intOf i).toNat)
    case atStart => exact ⟨0, Nat.zero_le _, rfl, 0, rfl⟩
    case round =>
      obtain ⟨k, hk, rfl, q, rfl⟩ := hrel
      by_cases hlt : k < ul
      · have hlt' : (k : Int) < (ul : Int) := by omega
        have tlt : decide ((k : Int) < (ul : Int)) = true := decide_eq_true hlt'
        have htr := HSU.out.2 k (by rw [← HUL.out]; exact hlt)
        obtain ⟨b1, o1, x0, x1', rfl, cx0, cx1, hx0, hx1⟩ := HJ6.out.tr (t := k) (by rw [← HUL.out]; exact hlt)
        obtain ⟨b2, o2, y0, y1, rfl, cy0, cy1, hy0, hy1⟩ := HK6.out.tr (t := k) (by rw [← HUL.out]; exact hlt)
        obtain ⟨xa0, xk0, rfl⟩ := hx0.shape
        obtain ⟨xa1, xk1, rfl⟩ := hx1.shape
        obtain ⟨ya0, yk0, rfl⟩ := hy0.shape
        obtain ⟨ya1, yk1, rfl⟩ := hy1.shape
        have CP : Hid (∀ r, Calls Try.prog 47 #[.slice xa0 (U.ts.getD k ([], [])).1.length xk0, .slice ya0 (U.ts.getD k ([], [])).1.length yk0] (X6.drewN (q + r)) (fun e w' => e = .returned (.bool true) ∧ ∃ m, w' = X6.drewN (q + m))) := Lib.hid (fun r => same_add (
          sameInts_self _ _ _ _ 0 0 (hx0.keep (Carries.of 0 (below_drewN (Below.refl _ _) (q + r)))) (hy0.keep (Carries.of 0 (below_drewN (Below.refl _ _) (q + r)))) (by omega)))
        have CQ : Hid (∀ r, Calls Try.prog 47 #[.slice xa1 (U.ts.getD k ([], [])).2.length xk1, .slice ya1 (U.ts.getD k ([], [])).2.length yk1] (X6.drewN (q + r)) (fun e w' => e = .returned (.bool true) ∧ ∃ m, w' = X6.drewN (q + m))) := Lib.hid (fun r => same_add (
          sameInts_self _ _ _ _ 0 0 (hx1.keep (Carries.of 0 (below_drewN (Below.refl _ _) (q + r)))) (hy1.keep (Carries.of 0 (below_drewN (Below.refl _ _) (q + r)))) (by omega)))
        clear htr hx0 hx1 hy0 hy1
        obtain ⟨l0, hl0⟩ : ∃ x, x = (U.ts.getD k ([], [])).1.length := ⟨_, rfl⟩
        obtain ⟨l1, hl1⟩ : ∃ x, x = (U.ts.getD k ([], [])).2.length := ⟨_, rfl⟩
        rw [← hl0] at CP cx0 cy0
        rw [← hl1] at CQ cx1 cy1
        clear hl0 hl1
        go_wp2_with fail
        go_quiet (first | with_reducible exact CP.out _ | with_reducible exact CQ.out _)
        go_wp2_with fail
        go_roundw
        case rel => exact ⟨k + 1, by omega, by go_num, _, rfl⟩
        case measure => simp [intOf]; omega
      · have hkk : k = ul := by omega
        have tz : decide ((k : Int) < (ul : Int)) = false := decide_eq_false (by omega)
        have BX7 := below_drewN BX6 q
        go_wp2_with fail
        generalize X6.drewN q = X7 at BX7 ⊢
        clear j0 j1 k0 k1 HJ6 HK6 BX6 HSU HUP HSA HSB
        refine (DrawFree_any _ n1 X7 (HB3.out.over BX7) (by omega)).mono ?_
        rintro e x8 ⟨PC, uc, rfl, pc0, pc1, hrc, hb8⟩
        obtain ⟨tc, hnc, hsc⟩ := hrc.net (by omega) pc0 pc1
        clear hrc
        obtain ⟨ac, kc, rfl, _⟩ := hnc.shape
        have HNC := Lib.hid (hnc.low (Nat.zero_le _)); clear hnc
        obtain ⟨C, hC⟩ : ∃ n : NetD, n = ⟨PC, tc⟩ := ⟨_, rfl⟩
        have hSC : SmallTrs C.ts := by rw [hC]; exact hsc
        rw [← hC] at HNC
        have HSC := Lib.hid hSC; clear hSC hsc hC
        obtain ⟨mc, hmc⟩ : ∃ m, m = tc.length := ⟨_, rfl⟩
        rw [← hmc] at HNC ⊢
        clear hmc pc0 pc1
        have BX8 : Below W.heap.size W x8 := BX7.trans (hb8.mono BX7.size)
        clear hb8 BX7
        have hal9 : Below x8.heap.size x8 (x8.alloc (.cells #[.int .i64 PC, .slice ac mc kc] 32)) := (Below.refl _ _).alloc (Nat.le_refl _) _
        have s0 : (x8.alloc (.cells #[.int .i64 PC, .slice ac mc kc] 32)).cell? ⟨x8.heap.size, 0, none⟩ = some (.int .i64 PC) := by simp
        have s1 : (x8.alloc (.cells #[.int .i64 PC, .slice ac mc kc] 32)).cell? ⟨x8.heap.size, 1, none⟩ = some (.slice ac mc kc) := by simp
        have HNC9 := Lib.hid (HNC.out.keep (Carries.of 0 hal9)); clear HNC
        have BX9 := BX8.trans (hal9.mono BX8.size)
        go_wp2_with fail
        generalize x8.alloc (.cells #[.int .i64 PC, .slice ac mc kc] 32) = X9 at s0 s1 HNC9 BX9 ⊢
        clear hal9 BX8
        refine (IsFreeChoice_any _ C X9 0 HNC9.out HSC.out).mono ?_
        rintro e x10 ⟨rfl, hb10⟩
        have s0 := cell_carry s0 (Carries.of 0 hb10)
        have s1 := cell_carry s1 (Carries.of 0 hb10)
        have BX10 := BX9.trans (hb10.mono BX9.size)
        rw [choice_same C]
        generalize hfc : (goodN C && fcB C.ts) = FC
        generalize hgc : goodN C = GC
        have HFC := Lib.hid hfc; clear hfc
        have HGC := Lib.hid hgc; clear hgc
        go_wp2_with fail
        refine (specIsFreeChoice_any _ C x10 0 (HNC9.out.keep (Carries.of 0 hb10)) HSC.out).mono ?_
        rintro e x11 ⟨rfl, hb11⟩
        rw [HFC.out, HGC.out]
        have BX11 := BX10.trans (hb11.mono BX10.size)
        clear hb10 hb11 BX10 BX9 HNC9 s0 s1 HSC HFC HGC
        go_wp2_with fail
        refine (DrawEnabled_any _ n1 x11 (HB3.out.over BX11) (by omega)).mono ?_
        rintro e x12 ⟨PD, ud, sd, rfl, pd0, pd1, hrd, hsd, hb12⟩
        obtain ⟨td, hnd, hsd2⟩ := hrd.net (by omega) pd0 pd1
        clear hrd
        obtain ⟨ad, kd, rfl, _⟩ := hnd.shape
        have HND := Lib.hid (hnd.low (Nat.zero_le _)); clear hnd
        obtain ⟨D, hD⟩ : ∃ n : NetD, n = ⟨PD, td⟩ := ⟨_, rfl⟩
        have hSD : SmallTrs D.ts := by rw [hD]; exact hsd2
        rw [← hD] at HND
        have HSD := Lib.hid hSD; clear hSD hsd2 hD
        obtain ⟨md, hmd⟩ : ∃ m, m = td.length := ⟨_, rfl⟩
        rw [← hmd] at HND ⊢
        clear hmd pd0 pd1
        have hsd3 : sd.size ≤ 1048576 := by omega
        have BX12 : Below W.heap.size W x12 := BX11.trans (hb12.mono BX11.size)
        clear hb12 BX11
        have hal13 : Below x12.heap.size x12 (x12.alloc (.cells #[.int .i64 PD, .slice ad md kd] 32)) := (Below.refl _ _).alloc (Nat.le_refl _) _
        have s0 : (x12.alloc (.cells #[.int .i64 PD, .slice ad md kd] 32)).cell? ⟨x12.heap.size, 0, none⟩ = some (.int .i64 PD) := by simp
        have s1 : (x12.alloc (.cells #[.int .i64 PD, .slice ad md kd] 32)).cell? ⟨x12.heap.size, 1, none⟩ = some (.slice ad md kd) := by simp
        have HND13 := Lib.hid (HND.out.keep (Carries.of 0 hal13)); clear HND
        have BX13 := BX12.trans (hal13.mono BX12.size)
        go_wp2_with fail
        generalize x12.alloc (.cells #[.int .i64 PD, .slice ad md kd] 32) = X13 at s0 s1 HND13 BX13 ⊢
        clear hal13 BX12
        refine (Enabled_any _ D sd X13 0 HND13.out HSD.out hsd3).mono ?_
        rintro e x14 ⟨ve, rfl, hve, hb14⟩
        have hEL : (enL D sd).length ≤ 1048576 := enL_small HSD.out
        generalize hel : enL D sd = EL at hve hEL ⊢
        generalize heb : enB D sd = EB
        have HEL := Lib.hid hel; clear hel
        have HEB := Lib.hid heb; clear heb
        have hvi := hve.at
        obtain ⟨ea, ek, rfl⟩ := IntsAt.shape hvi
        have HVE := Lib.hid (hvi.low (Nat.zero_le _)); clear hve hvi
        have s0 := cell_carry s0 (Carries.of 0 hb14)
        have s1 := cell_carry s1 (Carries.of 0 hb14)
        have BX14 := BX13.trans (hb14.mono BX13.size)
        go_wp2_with fail
        refine (specEnabled_any _ D sd x14 0 (HND13.out.keep (Carries.of 0 hb14)) HSD.out hsd3).mono ?_
        rintro e x15 ⟨vf, rfl, hvf, hb15⟩
        rw [HEL.out] at hvf
        rw [HEB.out]
        obtain ⟨fa, fk, rfl⟩ := hvf.shape
        have HVF := Lib.hid (hvf.low (Nat.zero_le _)); clear hvf
        have HVE2 := Lib.hid (HVE.out.keep (Carries.of 0 hb15)); clear HVE
        have BX15 := BX14.trans (hb15.mono BX14.size)
        clear hb14 hb15 BX13 BX14 s0 s1 HND13
        have hq1 : (GC == GC) = true := by simp
        have hq2 : (FC == FC) = true := by simp
        have hq3 : (EB == EB) = true := by simp
        obtain ⟨el, hel⟩ : ∃ x, x = EL.length := ⟨_, rfl⟩
        rw [← hel]
        have HEQ := Lib.hid hel; clear hel
        go_wp2_with fail
        rw [HEQ.out]
        refine (sameInts_self _ _ EL x15 0 0 HVE2.out HVF.out (by omega)).mono ?_
        rintro e x16 ⟨rfl, q2, rfl⟩
        have BX16 := below_drewN BX15 q2
        go_wp2_with fail
        go_ret
        exact ⟨by first | rfl | simp, hwW.trans (BX16.mono hwW.size)⟩
  | true =>
  have hfok : fireOk n s t = true := HG1.out
  obtain ⟨hgood, hmk, hin, _, _, _⟩ := fire_all hfok
  have hin' : 0 ≤ t ∧ t < m := by
    have h3 : 0 ≤ t ∧ t < n.ts.length := of_decide_eq_true hin
    rw [HM.out]; exact h3
  obtain ⟨tn, rfl⟩ : ∃ tn : Nat, t = tn := ⟨t.toNat, by omega⟩
  have hFp : F.size ≤ 1048576 := by rw [← HG0.out, bstr_size, fired_length hfok]; exact hsz
  have HFO := Lib.hid hfok; clear hfok hgood hmk
  have hRN : RN = ⟨n.places, revTs n.ts⟩ := by rw [← HR.out]; unfold revR; rw [if_pos HBR.out]
  have hgr : goodN ⟨n.places, revTs n.ts⟩ = true := by have := HBR.out; unfold revB at this; simp only [Bool.and_eq_true] at this; exact this.2
  have HSR : Hid (SmallTrs RN.ts) := Lib.hid (by rw [hRN]; exact revTs_small HS.out)
  have HRN := Lib.hid hRN; clear hRN
  have HGR := Lib.hid hgr; clear hgr
  have HIN := Lib.hid hin; clear hin
  obtain ⟨bt, off, x0, x1, rfl, cx0, cx1, hx0, hx1⟩ := (HN.out.keep (Carries.of 0 bX)).tr (t := tn) (by rw [← HM.out]; omega)
  have hm2 : (n.ts.getD tn ([], [])).2.length ≤ 4611686018427387904 := by have := (HS.out.2 tn (by rw [← HM.out]; omega)).2; omega
  have hm1 : (n.ts.getD tn ([], [])).1.length ≤ 4611686018427387904 := by have := (HS.out.2 tn (by rw [← HM.out]; omega)).1; omega
  have hloop : loopB (trOf n tn) = (n.ts.getD tn ([], [])).1.any (hasB (n.ts.getD tn ([], [])).2) := by
    unfold loopB trOf; simp only [Int.toNat_natCast]
  obtain ⟨zs, hzs⟩ : ∃ z, z = (n.ts.getD tn ([], [])).1 := ⟨_, rfl⟩
  obtain ⟨ys, hys⟩ : ∃ z, z = (n.ts.getD tn ([], [])).2 := ⟨_, rfl⟩
  rw [← hzs] at hx0 hm1
  rw [← hys] at hx1 hm2
  rw [← hzs, ← hys] at hloop
  clear hzs hys
  have HLP := Lib.hid hloop; clear hloop
  obtain ⟨xa1, xk1, rfl⟩ := hx1.shape
  have HX1 := Lib.hid hx1; clear hx1
  obtain ⟨xa0, xk0, rfl, _, hz0⟩ := hx0
  have HF := Lib.hid hz0; clear hz0
  have tge : decide ((tn : Int) ≥ 0) = true := decide_eq_true (by omega)
  have tge' : decide ((0 : Int) ≤ (tn : Int)) = true := decide_eq_true (by omega)
  have tlt : decide ((tn : Int) < (m : Int)) = true := decide_eq_true (by omega)
  have tltp : (tn : Int) < (m : Int) := by omega
  have tltn : decide (tn < m) = true := decide_eq_true (by omega)
  go_wp2_with fail
  generalize w5.alloc (.cells #[.int .i64 rp, .slice ra rl rk] 32) = X at HNR HF HX1 cx0 cx1 r0 r1 g0 g1 bX ⊢
  rw [← hrb] at r0 r1 ⊢
  clear hrb bw5 e0 e1
  go_loop [12, 78] (fun l i => ∃ k : Nat, k ≤ zs.length ∧ i = .int .i64 k ∧ l = .bool ((zs.take k).any (hasB ys))) (fun _ i => zs.length - (intOf i).toNat)
  case atStart => exact ⟨0, Nat.zero_le _, rfl, rfl⟩
  case round =>
    obtain ⟨k, hk, rfl, rfl⟩ := hrel
    by_cases hlt : k < zs.length
    · rcases HF.out with hnil | ⟨b', off', rfl, hlo, hcell⟩
      · rw [hnil] at hlt; exact absurd hlt (Nat.not_lt_zero _)
      have c1' := hcell k hlt
      have hsucc := any_take_succ (f := hasB ys) hlt
      obtain ⟨y, hy⟩ : ∃ y, y = zs.getD k 0 := ⟨_, rfl⟩
      rw [← hy] at c1' hsucc
      clear hy hcell
      have hlt' : (k : Int) < (zs.length : Int) := by omega
      obtain ⟨f, hf⟩ : ∃ f, f = (zs.take k).any (hasB ys) := ⟨_, rfl⟩
      rw [← hf] at hsucc ⊢
      clear hf
      have HSC := Lib.hid hsucc; clear hsucc
      cases f with
      | true =>
        go_wp2_with fail
        go_round
        case rel => exact ⟨k + 1, by omega, by go_num, by rw [HSC.out]; rfl⟩
        case measure => simp [intOf]; omega
      | false =>
        go_wp2_with fail
        refine (has_eq _ ys y X 0 HX1.out hm2).mono ?_
        rintro e w' ⟨rfl, rfl⟩
        generalize hh : hasB ys y = hv
        have HH := Lib.hid hh; clear hh
        go_wp2_with fail
        go_round
        case rel => exact ⟨k + 1, by omega, by go_num, by rw [HSC.out, HH.out]; rfl⟩
        case measure => simp [intOf]; omega
    · have hkk : k = zs.length := by omega
      have hfin : (zs.take k).any (hasB ys) = loopB (trOf n tn) := by rw [hkk, List.take_length]; exact HLP.out.symm
      rw [hfin]
      clear hfin
      have tz : decide ((k : Int) < (zs.length : Int)) = false := decide_eq_false (by omega)
      generalize hf : loopB (trOf n tn) = f
      have HLF := Lib.hid hf; clear hf
      go_wp2_with fail
      refine (Fire_any _ RN F tn X 0 HNR.out HSR.out hFp).mono ?_
      rintro e w9 ⟨rfl, hb9⟩
      have bw9 : Below W.heap.size W w9 := bX.trans (hb9.mono bX.size)
      cases f with
      | true =>
        go_wp2_with fail
        obtain ⟨X0, hX0⟩ : ∃ x, x = w9 := ⟨_, rfl⟩
        have BX : Below W.heap.size W X0 := by rw [hX0]; exact bw9
        rw [← hX0]
        clear hX0
        refine (DrawUnion_any _ n1 X0 (HB3.out.over BX) (by omega)).mono ?_
        rintro e x1 ⟨PA, ua, PB, ub, rfl, pa0, pa1, pb0, pb1, hra, hrb, hbx1⟩
        obtain ⟨ta, hna, hsa⟩ := hra.net (by omega) pa0 pa1
        obtain ⟨tb, hnb, hsb⟩ := hrb.net (by omega) pb0 pb1
        clear hra hrb
        obtain ⟨aa, ka, rfl, _⟩ := hna.shape
        obtain ⟨ab, kb, rfl, _⟩ := hnb.shape
        have HNA := Lib.hid (hna.low (Nat.zero_le _)); clear hna
        have HNB := Lib.hid (hnb.low (Nat.zero_le _)); clear hnb
        obtain ⟨A, hA⟩ : ∃ n : NetD, n = ⟨PA, ta⟩ := ⟨_, rfl⟩
        obtain ⟨B, hB⟩ : ∃ n : NetD, n = ⟨PB, tb⟩ := ⟨_, rfl⟩
        have hSA : SmallTrs A.ts := by rw [hA]; exact hsa
        have hSB : SmallTrs B.ts := by rw [hB]; exact hsb
        rw [← hA] at HNA
        rw [← hB] at HNB
        clear hA hB hsa hsb
        obtain ⟨ma, hma⟩ : ∃ m, m = ta.length := ⟨_, rfl⟩
        obtain ⟨mb, hmb⟩ : ∃ m, m = tb.length := ⟨_, rfl⟩
        rw [← hma] at HNA ⊢
        rw [← hmb] at HNB ⊢
        clear hma hmb pa0 pa1 pb0 pb1
        have HSA := Lib.hid hSA; clear hSA
        have HSB := Lib.hid hSB; clear hSB
        have BX1 : Below W.heap.size W x1 := BX.trans (hbx1.mono BX.size)
        clear hbx1 BX
        have hala : Below x1.heap.size x1 (x1.alloc (.cells #[.int .i64 PA, .slice aa ma ka] 32)) := (Below.refl _ _).alloc (Nat.le_refl _) _
        have za : (x1.alloc (.cells #[.int .i64 PA, .slice aa ma ka] 32)).heap.size = x1.heap.size + 1 := by simp
        have BA0 := NBox.new x1 (.int .i64 PA) (.slice aa ma ka) 32
        have BB0 := NBox.new (x1.alloc (.cells #[.int .i64 PA, .slice aa ma ka] 32)) (.int .i64 PB) (.slice ab mb kb) 32
        have BXa : Below x1.heap.size x1 ((x1.alloc (.cells #[.int .i64 PA, .slice aa ma ka] 32)).alloc (.cells #[.int .i64 PB, .slice ab mb kb] 32)) := hala.alloc (by simp) _
        have CA := BA0.keep (w' := (x1.alloc (.cells #[.int .i64 PA, .slice aa ma ka] 32)).alloc (.cells #[.int .i64 PB, .slice ab mb kb] 32)) (((Below.refl (x1.alloc (.cells #[.int .i64 PA, .slice aa ma ka] 32)).heap.size _).alloc (Nat.le_refl _) _).block _ (by omega))
        rw [za] at BB0
        obtain ⟨sa0, sa1, _, _⟩ := CA
        obtain ⟨sb0, sb1, _, _⟩ := BB0
        clear hala za BA0
        go_wp2_with fail
        generalize (x1.alloc (.cells #[.int .i64 PA, .slice aa ma ka] 32)).alloc (.cells #[.int .i64 PB, .slice ab mb kb] 32) = X2 at BXa sa0 sa1 sb0 sb1 ⊢
        have BX2 : Below W.heap.size W X2 := BX1.trans (BXa.mono BX1.size)
        have HNA2 := Lib.hid (HNA.out.keep (Carries.of 0 BXa)); clear HNA
        have HNB2 := Lib.hid (HNB.out.keep (Carries.of 0 BXa)); clear HNB
        clear BXa BX1
        obtain ⟨xb, hxb⟩ : ∃ x, x = x1.heap.size := ⟨_, rfl⟩
        rw [← hxb] at sa0 sa1 sb0 sb1 ⊢
        clear hxb
        refine (UnionNets_any _ _ A B X2 0 HNA2.out HSA.out HNB2.out HSB.out).mono ?_
        rintro e x3 ⟨vj, rfl, _, htj, hb3⟩
        have hSU : SmallTrs (unR A B).ts := rev_un_small HSA.out HSB.out
        have hup := rev_un_places A B
        generalize hU : unR A B = U at htj hSU hup ⊢
        have HU := Lib.hid hU; clear hU
        generalize hBU : unB A B = BU
        have HBU := Lib.hid hBU; clear hBU
        obtain ⟨ja, jk, rfl, _⟩ := id htj
        have HJ := Lib.hid (show NetAt 0 x3 (.agg #[.int .i64 U.places, .slice ja U.ts.length jk]) U from ⟨hup.1, hup.2, _, rfl, htj.low (Nat.zero_le _)⟩)
        have HSU := Lib.hid hSU; clear hSU htj
        have HUP := Lib.hid hup; clear hup
        have BX3 : Below W.heap.size W x3 := BX2.trans (hb3.mono BX2.size)
        have sa0 := cell_carry sa0 (Carries.of 0 hb3)
        have sa1 := cell_carry sa1 (Carries.of 0 hb3)
        have sb0 := cell_carry sb0 (Carries.of 0 hb3)
        have sb1 := cell_carry sb1 (Carries.of 0 hb3)
        have HNA3 := Lib.hid (HNA2.out.keep (Carries.of 0 hb3)); clear HNA2
        have HNB3 := Lib.hid (HNB2.out.keep (Carries.of 0 hb3)); clear HNB2
        clear hb3 BX2
        obtain ⟨up, hup⟩ : ∃ x, x = U.places := ⟨_, rfl⟩
        obtain ⟨ul, hul⟩ : ∃ x, x = U.ts.length := ⟨_, rfl⟩
        rw [← hup, ← hul] at HJ ⊢
        have HUQ := Lib.hid hup; clear hup
        have HUL := Lib.hid hul; clear hul
        have hal4 : Below x3.heap.size x3 (x3.alloc (.cells #[.int .i64 up, .slice ja ul jk] 32)) := (Below.refl _ _).alloc (Nat.le_refl _) _
        have j0 : (x3.alloc (.cells #[.int .i64 up, .slice ja ul jk] 32)).cell? ⟨x3.heap.size, 0, none⟩ = some (.int .i64 up) := by simp
        have j1 : (x3.alloc (.cells #[.int .i64 up, .slice ja ul jk] 32)).cell? ⟨x3.heap.size, 1, none⟩ = some (.slice ja ul jk) := by simp
        have sa0 := cell_carry sa0 (Carries.of 0 hal4)
        have sa1 := cell_carry sa1 (Carries.of 0 hal4)
        have sb0 := cell_carry sb0 (Carries.of 0 hal4)
        have sb1 := cell_carry sb1 (Carries.of 0 hal4)
        have HNA4 := Lib.hid (HNA3.out.keep (Carries.of 0 hal4)); clear HNA3
        have HNB4 := Lib.hid (HNB3.out.keep (Carries.of 0 hal4)); clear HNB3
        have HJ4 := Lib.hid (HJ.out.keep (Carries.of 0 hal4)); clear HJ
        have BX4 := BX3.trans (hal4.mono BX3.size)
        go_wp2_with fail
        generalize x3.alloc (.cells #[.int .i64 up, .slice ja ul jk] 32) = X4 at j0 j1 sa0 sa1 sb0 sb1 HNA4 HNB4 HJ4 BX4 ⊢
        clear hal4 BX3
        obtain ⟨jb, hjb⟩ : ∃ x, x = x3.heap.size := ⟨_, rfl⟩
        rw [← hjb] at j0 j1 ⊢
        clear hjb
        refine (specUnionNets_any _ _ A B X4 0 HNA4.out HSA.out HNB4.out HSB.out).mono ?_
        rintro e x5 ⟨vk, rfl, htk, hb5⟩
        rw [HU.out] at htk ⊢
        rw [HBU.out]
        obtain ⟨qa, qk, rfl, _⟩ := id htk
        have HK := Lib.hid (show NetAt 0 x5 (.agg #[.int .i64 U.places, .slice qa U.ts.length qk]) U from ⟨HUP.out.1, HUP.out.2, _, rfl, htk.low (Nat.zero_le _)⟩)
        rw [← HUQ.out, ← HUL.out] at HK ⊢
        have hulz : ul ≤ 1048576 := by rw [HUL.out]; exact HSU.out.1
        clear htk HNA4 HNB4 sa0 sa1 sb0 sb1
        have j0 := cell_carry j0 (Carries.of 0 hb5)
        have j1 := cell_carry j1 (Carries.of 0 hb5)
        have HJ5 := Lib.hid (HJ4.out.keep (Carries.of 0 hb5)); clear HJ4
        have BX5 := BX4.trans (hb5.mono BX4.size)
        clear hb5 BX4
        have hal6 : Below x5.heap.size x5 (x5.alloc (.cells #[.int .i64 up, .slice qa ul qk] 32)) := (Below.refl _ _).alloc (Nat.le_refl _) _
        have k0 : (x5.alloc (.cells #[.int .i64 up, .slice qa ul qk] 32)).cell? ⟨x5.heap.size, 0, none⟩ = some (.int .i64 up) := by simp
        have k1 : (x5.alloc (.cells #[.int .i64 up, .slice qa ul qk] 32)).cell? ⟨x5.heap.size, 1, none⟩ = some (.slice qa ul qk) := by simp
        have j0 := cell_carry j0 (Carries.of 0 hal6)
        have j1 := cell_carry j1 (Carries.of 0 hal6)
        have HJ6 := Lib.hid (HJ5.out.keep (Carries.of 0 hal6)); clear HJ5
        have HK6 := Lib.hid (HK.out.keep (Carries.of 0 hal6)); clear HK
        have BX6 := BX5.trans (hal6.mono BX5.size)
        have hbu : (BU != BU) = false := by simp
        have hpu : ((up : Int) != (up : Int)) = false := by simp
        have hlu : ((ul : Int) != (ul : Int)) = false := by simp
        obtain ⟨kb2, hkb⟩ : ∃ x, x = x5.heap.size := ⟨_, rfl⟩
        go_wp2_with fail
        generalize x5.alloc (.cells #[.int .i64 up, .slice qa ul qk] 32) = X6 at j0 j1 k0 k1 HJ6 HK6 BX6 ⊢
        rw [← hkb] at k0 k1 ⊢
        clear hal6 BX5 hkb hbu hpu hlu
        try go_wp2_with fail
        go_loopw [151] (fun i wr => ∃ k : Nat, k ≤ ul ∧ i = .int .i64 k ∧ ∃ q, wr = X6.drewN q) (fun i _ => ul - (intOf i).toNat)
        case atStart => exact ⟨0, Nat.zero_le _, rfl, 0, rfl⟩
        case round =>
          obtain ⟨k, hk, rfl, q, rfl⟩ := hrel
          by_cases hlt : k < ul
          · have hlt' : (k : Int) < (ul : Int) := by omega
            have tlt : decide ((k : Int) < (ul : Int)) = true := decide_eq_true hlt'
            have htr := HSU.out.2 k (by rw [← HUL.out]; exact hlt)
            obtain ⟨b1, o1, x0, x1', rfl, cx0, cx1, hx0, hx1⟩ := HJ6.out.tr (t := k) (by rw [← HUL.out]; exact hlt)
            obtain ⟨b2, o2, y0, y1, rfl, cy0, cy1, hy0, hy1⟩ := HK6.out.tr (t := k) (by rw [← HUL.out]; exact hlt)
            obtain ⟨xa0, xk0, rfl⟩ := hx0.shape
            obtain ⟨xa1, xk1, rfl⟩ := hx1.shape
            obtain ⟨ya0, yk0, rfl⟩ := hy0.shape
            obtain ⟨ya1, yk1, rfl⟩ := hy1.shape
            have CP : Hid (∀ r, Calls Try.prog 47 #[.slice xa0 (U.ts.getD k ([], [])).1.length xk0, .slice ya0 (U.ts.getD k ([], [])).1.length yk0] (X6.drewN (q + r)) (fun e w' => e = .returned (.bool true) ∧ ∃ m, w' = X6.drewN (q + m))) := Lib.hid (fun r => same_add (
              sameInts_self _ _ _ _ 0 0 (hx0.keep (Carries.of 0 (below_drewN (Below.refl _ _) (q + r)))) (hy0.keep (Carries.of 0 (below_drewN (Below.refl _ _) (q + r)))) (by omega)))
            have CQ : Hid (∀ r, Calls Try.prog 47 #[.slice xa1 (U.ts.getD k ([], [])).2.length xk1, .slice ya1 (U.ts.getD k ([], [])).2.length yk1] (X6.drewN (q + r)) (fun e w' => e = .returned (.bool true) ∧ ∃ m, w' = X6.drewN (q + m))) := Lib.hid (fun r => same_add (
              sameInts_self _ _ _ _ 0 0 (hx1.keep (Carries.of 0 (below_drewN (Below.refl _ _) (q + r)))) (hy1.keep (Carries.of 0 (below_drewN (Below.refl _ _) (q + r)))) (by omega)))
            clear htr hx0 hx1 hy0 hy1
            obtain ⟨l0, hl0⟩ : ∃ x, x = (U.ts.getD k ([], [])).1.length := ⟨_, rfl⟩
            obtain ⟨l1, hl1⟩ : ∃ x, x = (U.ts.getD k ([], [])).2.length := ⟨_, rfl⟩
            rw [← hl0] at CP cx0 cy0
            rw [← hl1] at CQ cx1 cy1
            clear hl0 hl1
            go_wp2_with fail
            go_quiet (first | with_reducible exact CP.out _ | with_reducible exact CQ.out _)
            go_wp2_with fail
            go_roundw
            case rel => exact ⟨k + 1, by omega, by go_num, _, rfl⟩
            case measure => simp [intOf]; omega
          · have hkk : k = ul := by omega
            have tz : decide ((k : Int) < (ul : Int)) = false := decide_eq_false (by omega)
            have BX7 := below_drewN BX6 q
            go_wp2_with fail
            generalize X6.drewN q = X7 at BX7 ⊢
            clear j0 j1 k0 k1 HJ6 HK6 BX6 HSU HUP HSA HSB
            refine (DrawFree_any _ n1 X7 (HB3.out.over BX7) (by omega)).mono ?_
            rintro e x8 ⟨PC, uc, rfl, pc0, pc1, hrc, hb8⟩
            obtain ⟨tc, hnc, hsc⟩ := hrc.net (by omega) pc0 pc1
            clear hrc
            obtain ⟨ac, kc, rfl, _⟩ := hnc.shape
            have HNC := Lib.hid (hnc.low (Nat.zero_le _)); clear hnc
            obtain ⟨C, hC⟩ : ∃ n : NetD, n = ⟨PC, tc⟩ := ⟨_, rfl⟩
            have hSC : SmallTrs C.ts := by rw [hC]; exact hsc
            rw [← hC] at HNC
            have HSC := Lib.hid hSC; clear hSC hsc hC
            obtain ⟨mc, hmc⟩ : ∃ m, m = tc.length := ⟨_, rfl⟩
            rw [← hmc] at HNC ⊢
            clear hmc pc0 pc1
            have BX8 : Below W.heap.size W x8 := BX7.trans (hb8.mono BX7.size)
            clear hb8 BX7
            have hal9 : Below x8.heap.size x8 (x8.alloc (.cells #[.int .i64 PC, .slice ac mc kc] 32)) := (Below.refl _ _).alloc (Nat.le_refl _) _
            have s0 : (x8.alloc (.cells #[.int .i64 PC, .slice ac mc kc] 32)).cell? ⟨x8.heap.size, 0, none⟩ = some (.int .i64 PC) := by simp
            have s1 : (x8.alloc (.cells #[.int .i64 PC, .slice ac mc kc] 32)).cell? ⟨x8.heap.size, 1, none⟩ = some (.slice ac mc kc) := by simp
            have HNC9 := Lib.hid (HNC.out.keep (Carries.of 0 hal9)); clear HNC
            have BX9 := BX8.trans (hal9.mono BX8.size)
            go_wp2_with fail
            generalize x8.alloc (.cells #[.int .i64 PC, .slice ac mc kc] 32) = X9 at s0 s1 HNC9 BX9 ⊢
            clear hal9 BX8
            refine (IsFreeChoice_any _ C X9 0 HNC9.out HSC.out).mono ?_
            rintro e x10 ⟨rfl, hb10⟩
            have s0 := cell_carry s0 (Carries.of 0 hb10)
            have s1 := cell_carry s1 (Carries.of 0 hb10)
            have BX10 := BX9.trans (hb10.mono BX9.size)
            rw [choice_same C]
            generalize hfc : (goodN C && fcB C.ts) = FC
            generalize hgc : goodN C = GC
            have HFC := Lib.hid hfc; clear hfc
            have HGC := Lib.hid hgc; clear hgc
            go_wp2_with fail
            refine (specIsFreeChoice_any _ C x10 0 (HNC9.out.keep (Carries.of 0 hb10)) HSC.out).mono ?_
            rintro e x11 ⟨rfl, hb11⟩
            rw [HFC.out, HGC.out]
            have BX11 := BX10.trans (hb11.mono BX10.size)
            clear hb10 hb11 BX10 BX9 HNC9 s0 s1 HSC HFC HGC
            go_wp2_with fail
            refine (DrawEnabled_any _ n1 x11 (HB3.out.over BX11) (by omega)).mono ?_
            rintro e x12 ⟨PD, ud, sd, rfl, pd0, pd1, hrd, hsd, hb12⟩
            obtain ⟨td, hnd, hsd2⟩ := hrd.net (by omega) pd0 pd1
            clear hrd
            obtain ⟨ad, kd, rfl, _⟩ := hnd.shape
            have HND := Lib.hid (hnd.low (Nat.zero_le _)); clear hnd
            obtain ⟨D, hD⟩ : ∃ n : NetD, n = ⟨PD, td⟩ := ⟨_, rfl⟩
            have hSD : SmallTrs D.ts := by rw [hD]; exact hsd2
            rw [← hD] at HND
            have HSD := Lib.hid hSD; clear hSD hsd2 hD
            obtain ⟨md, hmd⟩ : ∃ m, m = td.length := ⟨_, rfl⟩
            rw [← hmd] at HND ⊢
            clear hmd pd0 pd1
            have hsd3 : sd.size ≤ 1048576 := by omega
            have BX12 : Below W.heap.size W x12 := BX11.trans (hb12.mono BX11.size)
            clear hb12 BX11
            have hal13 : Below x12.heap.size x12 (x12.alloc (.cells #[.int .i64 PD, .slice ad md kd] 32)) := (Below.refl _ _).alloc (Nat.le_refl _) _
            have s0 : (x12.alloc (.cells #[.int .i64 PD, .slice ad md kd] 32)).cell? ⟨x12.heap.size, 0, none⟩ = some (.int .i64 PD) := by simp
            have s1 : (x12.alloc (.cells #[.int .i64 PD, .slice ad md kd] 32)).cell? ⟨x12.heap.size, 1, none⟩ = some (.slice ad md kd) := by simp
            have HND13 := Lib.hid (HND.out.keep (Carries.of 0 hal13)); clear HND
            have BX13 := BX12.trans (hal13.mono BX12.size)
            go_wp2_with fail
            generalize x12.alloc (.cells #[.int .i64 PD, .slice ad md kd] 32) = X13 at s0 s1 HND13 BX13 ⊢
            clear hal13 BX12
            refine (Enabled_any _ D sd X13 0 HND13.out HSD.out hsd3).mono ?_
            rintro e x14 ⟨ve, rfl, hve, hb14⟩
            have hEL : (enL D sd).length ≤ 1048576 := enL_small HSD.out
            generalize hel : enL D sd = EL at hve hEL ⊢
            generalize heb : enB D sd = EB
            have HEL := Lib.hid hel; clear hel
            have HEB := Lib.hid heb; clear heb
            have hvi := hve.at
            obtain ⟨ea, ek, rfl⟩ := IntsAt.shape hvi
            have HVE := Lib.hid (hvi.low (Nat.zero_le _)); clear hve hvi
            have s0 := cell_carry s0 (Carries.of 0 hb14)
            have s1 := cell_carry s1 (Carries.of 0 hb14)
            have BX14 := BX13.trans (hb14.mono BX13.size)
            go_wp2_with fail
            refine (specEnabled_any _ D sd x14 0 (HND13.out.keep (Carries.of 0 hb14)) HSD.out hsd3).mono ?_
            rintro e x15 ⟨vf, rfl, hvf, hb15⟩
            rw [HEL.out] at hvf
            rw [HEB.out]
            obtain ⟨fa, fk, rfl⟩ := hvf.shape
            have HVF := Lib.hid (hvf.low (Nat.zero_le _)); clear hvf
            have HVE2 := Lib.hid (HVE.out.keep (Carries.of 0 hb15)); clear HVE
            have BX15 := BX14.trans (hb15.mono BX14.size)
            clear hb14 hb15 BX13 BX14 s0 s1 HND13
            have hq1 : (GC == GC) = true := by simp
            have hq2 : (FC == FC) = true := by simp
            have hq3 : (EB == EB) = true := by simp
            obtain ⟨el, hel⟩ : ∃ x, x = EL.length := ⟨_, rfl⟩
            rw [← hel]
            have HEQ := Lib.hid hel; clear hel
            go_wp2_with fail
            rw [HEQ.out]
            refine (sameInts_self _ _ EL x15 0 0 HVE2.out HVF.out (by omega)).mono ?_
            rintro e x16 ⟨rfl, q2, rfl⟩
            have BX16 := below_drewN BX15 q2
            go_wp2_with fail
            go_ret
            exact ⟨by first | rfl | simp, hwW.trans (BX16.mono hwW.size)⟩
      | false =>
        have hone : fireOk RN F tn = true := by rw [HRN.out, ← HG0.out]; exact fire_back_ok HFO.out HGR.out HLF.out
        have htwo : bstr (fireS RN F tn) = s := by rw [HRN.out, ← HG0.out]; exact fire_back HFO.out HGR.out HLF.out
        rw [hone, htwo]
        clear hone htwo
        go_wp2_with fail
        obtain ⟨X0, hX0⟩ : ∃ x, x = w9 := ⟨_, rfl⟩
        have BX : Below W.heap.size W X0 := by rw [hX0]; exact bw9
        rw [← hX0]
        clear hX0
        refine (DrawUnion_any _ n1 X0 (HB3.out.over BX) (by omega)).mono ?_
        rintro e x1 ⟨PA, ua, PB, ub, rfl, pa0, pa1, pb0, pb1, hra, hrb, hbx1⟩
        obtain ⟨ta, hna, hsa⟩ := hra.net (by omega) pa0 pa1
        obtain ⟨tb, hnb, hsb⟩ := hrb.net (by omega) pb0 pb1
        clear hra hrb
        obtain ⟨aa, ka, rfl, _⟩ := hna.shape
        obtain ⟨ab, kb, rfl, _⟩ := hnb.shape
        have HNA := Lib.hid (hna.low (Nat.zero_le _)); clear hna
        have HNB := Lib.hid (hnb.low (Nat.zero_le _)); clear hnb
        obtain ⟨A, hA⟩ : ∃ n : NetD, n = ⟨PA, ta⟩ := ⟨_, rfl⟩
        obtain ⟨B, hB⟩ : ∃ n : NetD, n = ⟨PB, tb⟩ := ⟨_, rfl⟩
        have hSA : SmallTrs A.ts := by rw [hA]; exact hsa
        have hSB : SmallTrs B.ts := by rw [hB]; exact hsb
        rw [← hA] at HNA
        rw [← hB] at HNB
        clear hA hB hsa hsb
        obtain ⟨ma, hma⟩ : ∃ m, m = ta.length := ⟨_, rfl⟩
        obtain ⟨mb, hmb⟩ : ∃ m, m = tb.length := ⟨_, rfl⟩
        rw [← hma] at HNA ⊢
        rw [← hmb] at HNB ⊢
        clear hma hmb pa0 pa1 pb0 pb1
        have HSA := Lib.hid hSA; clear hSA
        have HSB := Lib.hid hSB; clear hSB
        have BX1 : Below W.heap.size W x1 := BX.trans (hbx1.mono BX.size)
        clear hbx1 BX
        have hala : Below x1.heap.size x1 (x1.alloc (.cells #[.int .i64 PA, .slice aa ma ka] 32)) := (Below.refl _ _).alloc (Nat.le_refl _) _
        have za : (x1.alloc (.cells #[.int .i64 PA, .slice aa ma ka] 32)).heap.size = x1.heap.size + 1 := by simp
        have BA0 := NBox.new x1 (.int .i64 PA) (.slice aa ma ka) 32
        have BB0 := NBox.new (x1.alloc (.cells #[.int .i64 PA, .slice aa ma ka] 32)) (.int .i64 PB) (.slice ab mb kb) 32
        have BXa : Below x1.heap.size x1 ((x1.alloc (.cells #[.int .i64 PA, .slice aa ma ka] 32)).alloc (.cells #[.int .i64 PB, .slice ab mb kb] 32)) := hala.alloc (by simp) _
        have CA := BA0.keep (w' := (x1.alloc (.cells #[.int .i64 PA, .slice aa ma ka] 32)).alloc (.cells #[.int .i64 PB, .slice ab mb kb] 32)) (((Below.refl (x1.alloc (.cells #[.int .i64 PA, .slice aa ma ka] 32)).heap.size _).alloc (Nat.le_refl _) _).block _ (by omega))
        rw [za] at BB0
        obtain ⟨sa0, sa1, _, _⟩ := CA
        obtain ⟨sb0, sb1, _, _⟩ := BB0
        clear hala za BA0
        go_wp2_with fail
        generalize (x1.alloc (.cells #[.int .i64 PA, .slice aa ma ka] 32)).alloc (.cells #[.int .i64 PB, .slice ab mb kb] 32) = X2 at BXa sa0 sa1 sb0 sb1 ⊢
        have BX2 : Below W.heap.size W X2 := BX1.trans (BXa.mono BX1.size)
        have HNA2 := Lib.hid (HNA.out.keep (Carries.of 0 BXa)); clear HNA
        have HNB2 := Lib.hid (HNB.out.keep (Carries.of 0 BXa)); clear HNB
        clear BXa BX1
        obtain ⟨xb, hxb⟩ : ∃ x, x = x1.heap.size := ⟨_, rfl⟩
        rw [← hxb] at sa0 sa1 sb0 sb1 ⊢
        clear hxb
        refine (UnionNets_any _ _ A B X2 0 HNA2.out HSA.out HNB2.out HSB.out).mono ?_
        rintro e x3 ⟨vj, rfl, _, htj, hb3⟩
        have hSU : SmallTrs (unR A B).ts := rev_un_small HSA.out HSB.out
        have hup := rev_un_places A B
        generalize hU : unR A B = U at htj hSU hup ⊢
        have HU := Lib.hid hU; clear hU
        generalize hBU : unB A B = BU
        have HBU := Lib.hid hBU; clear hBU
        obtain ⟨ja, jk, rfl, _⟩ := id htj
        have HJ := Lib.hid (show NetAt 0 x3 (.agg #[.int .i64 U.places, .slice ja U.ts.length jk]) U from ⟨hup.1, hup.2, _, rfl, htj.low (Nat.zero_le _)⟩)
        have HSU := Lib.hid hSU; clear hSU htj
        have HUP := Lib.hid hup; clear hup
        have BX3 : Below W.heap.size W x3 := BX2.trans (hb3.mono BX2.size)
        have sa0 := cell_carry sa0 (Carries.of 0 hb3)
        have sa1 := cell_carry sa1 (Carries.of 0 hb3)
        have sb0 := cell_carry sb0 (Carries.of 0 hb3)
        have sb1 := cell_carry sb1 (Carries.of 0 hb3)
        have HNA3 := Lib.hid (HNA2.out.keep (Carries.of 0 hb3)); clear HNA2
        have HNB3 := Lib.hid (HNB2.out.keep (Carries.of 0 hb3)); clear HNB2
        clear hb3 BX2
        obtain ⟨up, hup⟩ : ∃ x, x = U.places := ⟨_, rfl⟩
        obtain ⟨ul, hul⟩ : ∃ x, x = U.ts.length := ⟨_, rfl⟩
        rw [← hup, ← hul] at HJ ⊢
        have HUQ := Lib.hid hup; clear hup
        have HUL := Lib.hid hul; clear hul
        have hal4 : Below x3.heap.size x3 (x3.alloc (.cells #[.int .i64 up, .slice ja ul jk] 32)) := (Below.refl _ _).alloc (Nat.le_refl _) _
        have j0 : (x3.alloc (.cells #[.int .i64 up, .slice ja ul jk] 32)).cell? ⟨x3.heap.size, 0, none⟩ = some (.int .i64 up) := by simp
        have j1 : (x3.alloc (.cells #[.int .i64 up, .slice ja ul jk] 32)).cell? ⟨x3.heap.size, 1, none⟩ = some (.slice ja ul jk) := by simp
        have sa0 := cell_carry sa0 (Carries.of 0 hal4)
        have sa1 := cell_carry sa1 (Carries.of 0 hal4)
        have sb0 := cell_carry sb0 (Carries.of 0 hal4)
        have sb1 := cell_carry sb1 (Carries.of 0 hal4)
        have HNA4 := Lib.hid (HNA3.out.keep (Carries.of 0 hal4)); clear HNA3
        have HNB4 := Lib.hid (HNB3.out.keep (Carries.of 0 hal4)); clear HNB3
        have HJ4 := Lib.hid (HJ.out.keep (Carries.of 0 hal4)); clear HJ
        have BX4 := BX3.trans (hal4.mono BX3.size)
        go_wp2_with fail
        generalize x3.alloc (.cells #[.int .i64 up, .slice ja ul jk] 32) = X4 at j0 j1 sa0 sa1 sb0 sb1 HNA4 HNB4 HJ4 BX4 ⊢
        clear hal4 BX3
        obtain ⟨jb, hjb⟩ : ∃ x, x = x3.heap.size := ⟨_, rfl⟩
        rw [← hjb] at j0 j1 ⊢
        clear hjb
        refine (specUnionNets_any _ _ A B X4 0 HNA4.out HSA.out HNB4.out HSB.out).mono ?_
        rintro e x5 ⟨vk, rfl, htk, hb5⟩
        rw [HU.out] at htk ⊢
        rw [HBU.out]
        obtain ⟨qa, qk, rfl, _⟩ := id htk
        have HK := Lib.hid (show NetAt 0 x5 (.agg #[.int .i64 U.places, .slice qa U.ts.length qk]) U from ⟨HUP.out.1, HUP.out.2, _, rfl, htk.low (Nat.zero_le _)⟩)
        rw [← HUQ.out, ← HUL.out] at HK ⊢
        have hulz : ul ≤ 1048576 := by rw [HUL.out]; exact HSU.out.1
        clear htk HNA4 HNB4 sa0 sa1 sb0 sb1
        have j0 := cell_carry j0 (Carries.of 0 hb5)
        have j1 := cell_carry j1 (Carries.of 0 hb5)
        have HJ5 := Lib.hid (HJ4.out.keep (Carries.of 0 hb5)); clear HJ4
        have BX5 := BX4.trans (hb5.mono BX4.size)
        clear hb5 BX4
        have hal6 : Below x5.heap.size x5 (x5.alloc (.cells #[.int .i64 up, .slice qa ul qk] 32)) := (Below.refl _ _).alloc (Nat.le_refl _) _
        have k0 : (x5.alloc (.cells #[.int .i64 up, .slice qa ul qk] 32)).cell? ⟨x5.heap.size, 0, none⟩ = some (.int .i64 up) := by simp
        have k1 : (x5.alloc (.cells #[.int .i64 up, .slice qa ul qk] 32)).cell? ⟨x5.heap.size, 1, none⟩ = some (.slice qa ul qk) := by simp
        have j0 := cell_carry j0 (Carries.of 0 hal6)
        have j1 := cell_carry j1 (Carries.of 0 hal6)
        have HJ6 := Lib.hid (HJ5.out.keep (Carries.of 0 hal6)); clear HJ5
        have HK6 := Lib.hid (HK.out.keep (Carries.of 0 hal6)); clear HK
        have BX6 := BX5.trans (hal6.mono BX5.size)
        have hbu : (BU != BU) = false := by simp
        have hpu : ((up : Int) != (up : Int)) = false := by simp
        have hlu : ((ul : Int) != (ul : Int)) = false := by simp
        obtain ⟨kb2, hkb⟩ : ∃ x, x = x5.heap.size := ⟨_, rfl⟩
        go_wp2_with fail
        generalize x5.alloc (.cells #[.int .i64 up, .slice qa ul qk] 32) = X6 at j0 j1 k0 k1 HJ6 HK6 BX6 ⊢
        rw [← hkb] at k0 k1 ⊢
        clear hal6 BX5 hkb hbu hpu hlu
        try go_wp2_with fail
        go_loopw [151] (fun i wr => ∃ k : Nat, k ≤ ul ∧ i = .int .i64 k ∧ ∃ q, wr = X6.drewN q) (fun i _ => ul - (intOf i).toNat)
        case atStart => exact ⟨0, Nat.zero_le _, rfl, 0, rfl⟩
        case round =>
          obtain ⟨k, hk, rfl, q, rfl⟩ := hrel
          by_cases hlt : k < ul
          · have hlt' : (k : Int) < (ul : Int) := by omega
            have tlt : decide ((k : Int) < (ul : Int)) = true := decide_eq_true hlt'
            have htr := HSU.out.2 k (by rw [← HUL.out]; exact hlt)
            obtain ⟨b1, o1, x0, x1', rfl, cx0, cx1, hx0, hx1⟩ := HJ6.out.tr (t := k) (by rw [← HUL.out]; exact hlt)
            obtain ⟨b2, o2, y0, y1, rfl, cy0, cy1, hy0, hy1⟩ := HK6.out.tr (t := k) (by rw [← HUL.out]; exact hlt)
            obtain ⟨xa0, xk0, rfl⟩ := hx0.shape
            obtain ⟨xa1, xk1, rfl⟩ := hx1.shape
            obtain ⟨ya0, yk0, rfl⟩ := hy0.shape
            obtain ⟨ya1, yk1, rfl⟩ := hy1.shape
            have CP : Hid (∀ r, Calls Try.prog 47 #[.slice xa0 (U.ts.getD k ([], [])).1.length xk0, .slice ya0 (U.ts.getD k ([], [])).1.length yk0] (X6.drewN (q + r)) (fun e w' => e = .returned (.bool true) ∧ ∃ m, w' = X6.drewN (q + m))) := Lib.hid (fun r => same_add (
              sameInts_self _ _ _ _ 0 0 (hx0.keep (Carries.of 0 (below_drewN (Below.refl _ _) (q + r)))) (hy0.keep (Carries.of 0 (below_drewN (Below.refl _ _) (q + r)))) (by omega)))
            have CQ : Hid (∀ r, Calls Try.prog 47 #[.slice xa1 (U.ts.getD k ([], [])).2.length xk1, .slice ya1 (U.ts.getD k ([], [])).2.length yk1] (X6.drewN (q + r)) (fun e w' => e = .returned (.bool true) ∧ ∃ m, w' = X6.drewN (q + m))) := Lib.hid (fun r => same_add (
              sameInts_self _ _ _ _ 0 0 (hx1.keep (Carries.of 0 (below_drewN (Below.refl _ _) (q + r)))) (hy1.keep (Carries.of 0 (below_drewN (Below.refl _ _) (q + r)))) (by omega)))
            clear htr hx0 hx1 hy0 hy1
            obtain ⟨l0, hl0⟩ : ∃ x, x = (U.ts.getD k ([], [])).1.length := ⟨_, rfl⟩
            obtain ⟨l1, hl1⟩ : ∃ x, x = (U.ts.getD k ([], [])).2.length := ⟨_, rfl⟩
            rw [← hl0] at CP cx0 cy0
            rw [← hl1] at CQ cx1 cy1
            clear hl0 hl1
            go_wp2_with fail
            go_quiet (first | with_reducible exact CP.out _ | with_reducible exact CQ.out _)
            go_wp2_with fail
            go_roundw
            case rel => exact ⟨k + 1, by omega, by go_num, _, rfl⟩
            case measure => simp [intOf]; omega
          · have hkk : k = ul := by omega
            have tz : decide ((k : Int) < (ul : Int)) = false := decide_eq_false (by omega)
            have BX7 := below_drewN BX6 q
            go_wp2_with fail
            generalize X6.drewN q = X7 at BX7 ⊢
            clear j0 j1 k0 k1 HJ6 HK6 BX6 HSU HUP HSA HSB
            refine (DrawFree_any _ n1 X7 (HB3.out.over BX7) (by omega)).mono ?_
            rintro e x8 ⟨PC, uc, rfl, pc0, pc1, hrc, hb8⟩
            obtain ⟨tc, hnc, hsc⟩ := hrc.net (by omega) pc0 pc1
            clear hrc
            obtain ⟨ac, kc, rfl, _⟩ := hnc.shape
            have HNC := Lib.hid (hnc.low (Nat.zero_le _)); clear hnc
            obtain ⟨C, hC⟩ : ∃ n : NetD, n = ⟨PC, tc⟩ := ⟨_, rfl⟩
            have hSC : SmallTrs C.ts := by rw [hC]; exact hsc
            rw [← hC] at HNC
            have HSC := Lib.hid hSC; clear hSC hsc hC
            obtain ⟨mc, hmc⟩ : ∃ m, m = tc.length := ⟨_, rfl⟩
            rw [← hmc] at HNC ⊢
            clear hmc pc0 pc1
            have BX8 : Below W.heap.size W x8 := BX7.trans (hb8.mono BX7.size)
            clear hb8 BX7
            have hal9 : Below x8.heap.size x8 (x8.alloc (.cells #[.int .i64 PC, .slice ac mc kc] 32)) := (Below.refl _ _).alloc (Nat.le_refl _) _
            have s0 : (x8.alloc (.cells #[.int .i64 PC, .slice ac mc kc] 32)).cell? ⟨x8.heap.size, 0, none⟩ = some (.int .i64 PC) := by simp
            have s1 : (x8.alloc (.cells #[.int .i64 PC, .slice ac mc kc] 32)).cell? ⟨x8.heap.size, 1, none⟩ = some (.slice ac mc kc) := by simp
            have HNC9 := Lib.hid (HNC.out.keep (Carries.of 0 hal9)); clear HNC
            have BX9 := BX8.trans (hal9.mono BX8.size)
            go_wp2_with fail
            generalize x8.alloc (.cells #[.int .i64 PC, .slice ac mc kc] 32) = X9 at s0 s1 HNC9 BX9 ⊢
            clear hal9 BX8
            refine (IsFreeChoice_any _ C X9 0 HNC9.out HSC.out).mono ?_
            rintro e x10 ⟨rfl, hb10⟩
            have s0 := cell_carry s0 (Carries.of 0 hb10)
            have s1 := cell_carry s1 (Carries.of 0 hb10)
            have BX10 := BX9.trans (hb10.mono BX9.size)
            rw [choice_same C]
            generalize hfc : (goodN C && fcB C.ts) = FC
            generalize hgc : goodN C = GC
            have HFC := Lib.hid hfc; clear hfc
            have HGC := Lib.hid hgc; clear hgc
            go_wp2_with fail
            refine (specIsFreeChoice_any _ C x10 0 (HNC9.out.keep (Carries.of 0 hb10)) HSC.out).mono ?_
            rintro e x11 ⟨rfl, hb11⟩
            rw [HFC.out, HGC.out]
            have BX11 := BX10.trans (hb11.mono BX10.size)
            clear hb10 hb11 BX10 BX9 HNC9 s0 s1 HSC HFC HGC
            go_wp2_with fail
            refine (DrawEnabled_any _ n1 x11 (HB3.out.over BX11) (by omega)).mono ?_
            rintro e x12 ⟨PD, ud, sd, rfl, pd0, pd1, hrd, hsd, hb12⟩
            obtain ⟨td, hnd, hsd2⟩ := hrd.net (by omega) pd0 pd1
            clear hrd
            obtain ⟨ad, kd, rfl, _⟩ := hnd.shape
            have HND := Lib.hid (hnd.low (Nat.zero_le _)); clear hnd
            obtain ⟨D, hD⟩ : ∃ n : NetD, n = ⟨PD, td⟩ := ⟨_, rfl⟩
            have hSD : SmallTrs D.ts := by rw [hD]; exact hsd2
            rw [← hD] at HND
            have HSD := Lib.hid hSD; clear hSD hsd2 hD
            obtain ⟨md, hmd⟩ : ∃ m, m = td.length := ⟨_, rfl⟩
            rw [← hmd] at HND ⊢
            clear hmd pd0 pd1
            have hsd3 : sd.size ≤ 1048576 := by omega
            have BX12 : Below W.heap.size W x12 := BX11.trans (hb12.mono BX11.size)
            clear hb12 BX11
            have hal13 : Below x12.heap.size x12 (x12.alloc (.cells #[.int .i64 PD, .slice ad md kd] 32)) := (Below.refl _ _).alloc (Nat.le_refl _) _
            have s0 : (x12.alloc (.cells #[.int .i64 PD, .slice ad md kd] 32)).cell? ⟨x12.heap.size, 0, none⟩ = some (.int .i64 PD) := by simp
            have s1 : (x12.alloc (.cells #[.int .i64 PD, .slice ad md kd] 32)).cell? ⟨x12.heap.size, 1, none⟩ = some (.slice ad md kd) := by simp
            have HND13 := Lib.hid (HND.out.keep (Carries.of 0 hal13)); clear HND
            have BX13 := BX12.trans (hal13.mono BX12.size)
            go_wp2_with fail
            generalize x12.alloc (.cells #[.int .i64 PD, .slice ad md kd] 32) = X13 at s0 s1 HND13 BX13 ⊢
            clear hal13 BX12
            refine (Enabled_any _ D sd X13 0 HND13.out HSD.out hsd3).mono ?_
            rintro e x14 ⟨ve, rfl, hve, hb14⟩
            have hEL : (enL D sd).length ≤ 1048576 := enL_small HSD.out
            generalize hel : enL D sd = EL at hve hEL ⊢
            generalize heb : enB D sd = EB
            have HEL := Lib.hid hel; clear hel
            have HEB := Lib.hid heb; clear heb
            have hvi := hve.at
            obtain ⟨ea, ek, rfl⟩ := IntsAt.shape hvi
            have HVE := Lib.hid (hvi.low (Nat.zero_le _)); clear hve hvi
            have s0 := cell_carry s0 (Carries.of 0 hb14)
            have s1 := cell_carry s1 (Carries.of 0 hb14)
            have BX14 := BX13.trans (hb14.mono BX13.size)
            go_wp2_with fail
            refine (specEnabled_any _ D sd x14 0 (HND13.out.keep (Carries.of 0 hb14)) HSD.out hsd3).mono ?_
            rintro e x15 ⟨vf, rfl, hvf, hb15⟩
            rw [HEL.out] at hvf
            rw [HEB.out]
            obtain ⟨fa, fk, rfl⟩ := hvf.shape
            have HVF := Lib.hid (hvf.low (Nat.zero_le _)); clear hvf
            have HVE2 := Lib.hid (HVE.out.keep (Carries.of 0 hb15)); clear HVE
            have BX15 := BX14.trans (hb15.mono BX14.size)
            clear hb14 hb15 BX13 BX14 s0 s1 HND13
            have hq1 : (GC == GC) = true := by simp
            have hq2 : (FC == FC) = true := by simp
            have hq3 : (EB == EB) = true := by simp
            obtain ⟨el, hel⟩ : ∃ x, x = EL.length := ⟨_, rfl⟩
            rw [← hel]
            have HEQ := Lib.hid hel; clear hel
            go_wp2_with fail
            rw [HEQ.out]
            refine (sameInts_self _ _ EL x15 0 0 HVE2.out HVF.out (by omega)).mono ?_
            rintro e x16 ⟨rfl, q2, rfl⟩
            have BX16 := below_drewN BX15 q2
            go_wp2_with fail
            go_ret
            exact ⟨by first | rfl | simp, hwW.trans (BX16.mono hwW.size)⟩

end Go.Proofs.Ytkkfglolameogaa
