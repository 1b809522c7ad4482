/-
  DRAWS: markOf, spoilt: texts.
-/
import Derived.Test.YtkkfglolameogaaDnet
import Derived.Test.YtkkfglolameogaaMtext
import Derived.Laws.DeepStrings4
namespace Go.Proofs.Ytkkfglolameogaa
open Go.RowKit

theorem strs_three (w : World) (b : Nat) (hb : b < w.heap.size) : StrsAt b (w.alloc (.cells #[.string ⟨#[48]⟩, .string ⟨#[49]⟩, .string ⟨#[49]⟩] 9)) (.slice (some ⟨w.heap.size, 0, none⟩) 3 3) 3 (fun s => s.size ≤ 1) := by
  refine ⟨w.heap.size, 0, 3, rfl, hb, fun i hi => ?_⟩
  rcases (by omega : i = 0 ∨ i = 1 ∨ i = 2) with rfl | rfl | rfl
  · exact ⟨⟨#[48]⟩, by simp, by decide⟩
  · exact ⟨⟨#[49]⟩, by simp, by decide⟩
  · exact ⟨⟨#[49]⟩, by simp, by decide⟩

set_option maxRecDepth 100000 in
set_option maxHeartbeats 2000000 in
theorem markOf_any (b a : Nat) (n : Int) (w : World) (hc : CurAt b w a) (ha : a ≤ 1099511600000) (hn : n ≤ 40) :
    Calls Try.prog 136 #[.pointer (some ⟨b, 0, none⟩), .int .i64 n] w (fun e w' => ∃ (s : ByteArray) (a' : Nat), e = .returned (.string s) ∧ s.size ≤ 40 ∧ a' ≤ a + 100 ∧ CurAt b w' a' ∧ w.grownBy w' (some b)) := by
  have hbo := hc.old
  have HC := Lib.hid hc; clear hc
  go_enter Try.func136, Try.ntmps136
  go_wp2_with fail
  go_loopw [5, 6] (fun sv k wr => ∃ (j a' : Nat) (s : ByteArray), sv = .string s ∧ k = .int .i64 j ∧ j ≤ 40 ∧ s.size ≤ j ∧ a' ≤ a + 2 * j ∧ Hid (CurAt b wr a') ∧ Hid (w.grownBy wr (some b))) (fun _ k _ => 40 - (intOf k).toNat)
  case atStart => exact ⟨0, a, _, rfl, rfl, by omega, Nat.le_refl _, by omega, HC.out, ⟨rfl, rfl, rfl, Nat.le_refl _, fun _ _ _ => rfl⟩⟩
  case round =>
    obtain ⟨j, a', s, rfl, rfl, hj, hs, haj, hcur, hgr⟩ := hrel
    have zz := hgr.out.size
    by_cases hlt : (j : Int) < n
    · have t1 : decide ((j : Int) < n) = true := decide_eq_true hlt
      have hal : Below wr.heap.size wr (wr.alloc (.cells #[.string ⟨#[48]⟩, .string ⟨#[49]⟩, .string ⟨#[49]⟩] 9)) := (Below.refl _ _).alloc (Nat.le_refl _) _
      have HC1 := Lib.hid (hcur.out.below hal)
      have HS1 := Lib.hid (strs_three wr b (by omega))
      have HG1 := Lib.hid (Lib.grownBy_trans hgr.out (grown_below hal))
      clear hal hcur hgr
      go_wp2_with fail
      generalize (wr.alloc (.cells #[.string ⟨#[48]⟩, .string ⟨#[49]⟩, .string ⟨#[49]⟩] 9)) = w1 at HC1 HS1 HG1 ⊢
      refine (of_any b a' _ 3 _ w1 HC1.out (by omega) HS1.out (by omega) (by omega)).mono ?_
      rintro e w2 ⟨s2, a2, rfl, hs2, ha2, hc2, hg2⟩
      have HC2 := Lib.hid hc2
      have HG2 := Lib.hid (Lib.grownBy_trans HG1.out hg2)
      have hcat : ¬ 9223372036854775807 < s.size + s2.size := by have : s2.size ≤ 1 := hs2; omega
      have hsz : (s ++ s2).size ≤ j + 1 := by rw [ByteArray.size_append]; have : s2.size ≤ 1 := hs2; omega
      clear hc2 hg2 hs2
      go_wp2_with fail
      go_roundw
      case rel => exact ⟨j + 1, a2, _, rfl, by go_num, by omega, hsz, by omega, HC2.out, HG2.out⟩
      case measure => simp [intOf]; omega
    · have t1 : decide ((j : Int) < n) = false := decide_eq_false hlt
      go_wp2_with fail
      go_ret
      first | exact ⟨s, a', rfl, by omega, by omega, hcur.out, hgr.out⟩ | exact ⟨s, rfl, by omega, a', by omega, hcur.out, hgr.out⟩

set_option maxRecDepth 100000 in
set_option maxHeartbeats 4000000 in
theorem spoilt_any (b a : Nat) (s0 wi : ByteArray) (w : World) (hc : CurAt b w a) (ha : a ≤ 1099511600000) (hs0 : s0.size ≤ 1000) (hw0 : 0 < wi.size) (hw1 : wi.size ≤ 1000) :
    Calls Try.prog 137 #[.pointer (some ⟨b, 0, none⟩), .string s0, .string wi] w (fun e w' => ∃ (s : ByteArray) (a' : Nat), e = .returned (.string s) ∧ s.size ≤ 1010 ∧ a' ≤ a + 100 ∧ CurAt b w' a' ∧ w.grownBy w' (some b)) := by
  have hbo := hc.old
  have HC := Lib.hid hc; clear hc
  have kc := conv_one
  go_enter Try.func137, Try.ntmps137
  go_wp2_with fail
  refine (pick_any b a 2 w HC.out (by omega) (by omega) (by omega)).mono ?_
  rintro e w1 ⟨r, a1, rfl, r0, r1, ha1, hc1, hg1⟩
  obtain ⟨M, rfl⟩ : ∃ M : Nat, r = M := ⟨r.toNat, by omega⟩
  have hM : M ≤ 1 := by omega
  have HC1 := Lib.hid (And.intro hc1 hg1); clear hc1 hg1 r0 r1
  go_wp2_with fail
  go_loopw [1, 7] (fun sv k wr => ∃ (j a' : Nat) (s : ByteArray), sv = .string s ∧ k = .int .i64 j ∧ j ≤ 1 + M ∧ s.size + j ≤ 1000 + 1 + M ∧ a' + 6 * j ≤ a + 20 ∧ Hid (CurAt b wr a') ∧ Hid (w.grownBy wr (some b))) (fun _ k _ => (intOf k).toNat)
  case atStart => exact ⟨1 + M, a1, s0, rfl, by simp, Nat.le_refl _, by omega, by omega, HC1.out.1, HC1.out.2⟩
  case round =>
    obtain ⟨j, a', s, rfl, rfl, hj, hs, haj, hcur, hgr⟩ := hrel
    have zz := hgr.out.size
    by_cases hjp : 0 < j
    case neg =>
      have t1 : decide ((0 : Int) < (j : Int)) = false := decide_eq_false (by omega)
      have hj0 : j = 0 := by omega
      subst hj0
      go_wp2_with fail
      go_ret
      exact ⟨s, a', rfl, by omega, by omega, hcur.out, hgr.out⟩
    have t1 : decide ((0 : Int) < (j : Int)) = true := decide_eq_true (by omega)
    by_cases hsp : 0 < s.size
    case neg =>
      have t2 : decide ((0 : Int) < (s.size : Int)) = false := decide_eq_false (by omega)
      go_wp2_with fail
      go_ret
      exact ⟨s, a', rfl, by omega, by omega, hcur.out, hgr.out⟩
    have t2 : decide ((0 : Int) < (s.size : Int)) = true := decide_eq_true (by omega)
    go_wp2_with fail
    refine (pick_any b a' (s.size : Int) wr hcur.out (by omega) (by omega) (by omega)).mono ?_
    rintro e w2 ⟨i, a2, rfl, i0, i1, ha2, hc2, hg2⟩
    obtain ⟨i, rfl⟩ : ∃ k : Nat, i = k := ⟨i.toNat, by omega⟩
    have hi : i < s.size := by omega
    have HC2 := Lib.hid hc2
    have HG2 := Lib.hid (Lib.grownBy_trans hgr.out hg2)
    clear hc2 hg2 i1 hcur hgr
    go_wp2_with fail
    refine (pick_any b a2 (wi.size : Int) w2 HC2.out (by omega) (by omega) (by omega)).mono ?_
    rintro e w3 ⟨q, a3, rfl, q0, q1, ha3, hc3, hg3⟩
    obtain ⟨q, rfl⟩ : ∃ k : Nat, q = k := ⟨q.toNat, by omega⟩
    have hq : q < wi.size := by omega
    have hq1 : (q : Int) < (wi.size : Int) := by omega
    have HC3 := Lib.hid hc3
    have HG3 := Lib.hid (Lib.grownBy_trans HG2.out hg3)
    clear hc3 hg3 q1 HC2 HG2
    have hal : Below w3.heap.size w3 (w3.alloc (.cells #[.int .u8 (wi[q].toNat : Int)] 5)) := (Below.refl _ _).alloc (Nat.le_refl _) _
    have HC4 := Lib.hid (HC3.out.below hal)
    have HG4 := Lib.hid (Lib.grownBy_trans HG3.out (grown_below hal))
    clear hal HC3 HG3
    go_wp2_with fail
    generalize (w3.alloc (.cells #[.int .u8 (wi[q].toNat : Int)] 5)) = w4 at HC4 HG4 ⊢
    obtain ⟨ww, hww⟩ : ∃ ww, ww = ByteArray.empty.push wi[q] := ⟨_, rfl⟩
    have hws : ww.size = 1 := by rw [hww]; rfl
    rw [← hww]
    clear hww
    have HWS := Lib.hid hws; clear hws
    refine (pick_any b a3 3 w4 HC4.out (by omega) (by omega) (by omega)).mono ?_
    rintro e w5 ⟨r, a5, rfl, r0, r1, ha5, hc5, hg5⟩
    have HC5 := Lib.hid hc5
    have HG5 := Lib.hid (Lib.grownBy_trans HG4.out hg5)
    clear hc5 hg5 HC4 HG4
    have f1 : (i : Int) ≤ (s.size : Int) := by omega
    have f2 : (i : Int) + 1 ≤ (s.size : Int) := by omega
    have f3 : (0 : Int) ≤ (i : Int) + 1 := by omega
    have f4 : IntKind.i64.wrap ((i : Int) + 1) = (i : Int) + 1 := IntWalk.i64_in _ ⟨by omega, by omega⟩
    have f5 : ¬ 9223372036854775807 < min i s.size + ww.size := by have := HWS.out; omega
    by_cases e0 : r = 0
    · subst e0
      have f6 : ¬ 9223372036854775807 < min i s.size + ww.size + (s.size - i) := by have := HWS.out; omega
      have hfin : ((s.extract 0 i ++ ww) ++ s.extract i s.size).size + (j - 1) ≤ 1000 + 1 + M := by have := HWS.out; simp only [ByteArray.size_append, ByteArray.size_extract]; omega
      have HFIN := Lib.hid hfin; clear hfin
      go_wp2_with fail
      go_quiet (fail)
      go_wp2_with fail
      trace_state
      go_roundw
      case rel => exact ⟨j - 1, a5, _, rfl, by go_num, by omega, HFIN.out, by omega, HC5.out.drewN _, grownBy_drewN HG5.out _⟩
      case measure => simp [intOf]; omega
    have t3 : (r == 0) = false := by rw [beq_eq_false_iff_ne]; exact e0
    by_cases e1 : r = 1
    · subst e1
      clear e0 t3
      have f6 : ¬ 9223372036854775807 < min i s.size + ww.size + (s.size - (i + 1)) := by have := HWS.out; omega
      have hfin : ((s.extract 0 i ++ ww) ++ s.extract (i + 1) s.size).size + (j - 1) ≤ 1000 + 1 + M := by have := HWS.out; simp only [ByteArray.size_append, ByteArray.size_extract]; omega
      have HFIN := Lib.hid hfin; clear hfin
      go_wp2_with fail
      go_quiet (fail)
      go_wp2_with fail
      go_roundw
      case rel => exact ⟨j - 1, a5, _, rfl, by go_num, by omega, HFIN.out, by omega, HC5.out.drewN _, grownBy_drewN HG5.out _⟩
      case measure => simp [intOf]; omega
    have t4 : (r == 1) = false := by rw [beq_eq_false_iff_ne]; exact e1
    have f6 : ¬ 9223372036854775807 < min i s.size + (s.size - (i + 1)) := by omega
    have hfin : (s.extract 0 i ++ s.extract (i + 1) s.size).size + (j - 1) ≤ 1000 + 1 + M := by simp only [ByteArray.size_append, ByteArray.size_extract]; omega
    have HFIN := Lib.hid hfin; clear hfin
    go_wp2_with fail
    go_quiet (fail)
    go_wp2_with fail
    go_roundw
    case rel => exact ⟨j - 1, a5, _, rfl, by go_num, by omega, HFIN.out, by omega, HC5.out.drewN _, grownBy_drewN HG5.out _⟩
    case measure => simp [intOf]; omega

end Go.Proofs.Ytkkfglolameogaa
