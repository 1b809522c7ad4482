/- WALKS: l7Asked, IsSafe of the model. -/
import Derived.Test.YtigkgfdnnfmmmaaVScm
import Derived.Test.YtigkgfdnnfmmmaaVExj
import Derived.Test.YtigkgfdnnfmmmaaVGood
namespace Go.Proofs.Ytigkgfdnnfmmmaa
open Go.RowKit

set_option maxRecDepth 100000 in
set_option maxHeartbeats 400000 in
theorem l7AskedX_any (v : Value) (n : NetD) (s : ByteArray) (w : World) (lo : Nat) (hv : NetAt lo w v n) (hsm : SmallTrs n.ts) (hs : s.size ≤ 1048576) :
    Calls Try.prog 61 #[v, .string s] w (RetB w (askB n s)) := by
  obtain ⟨a, ha⟩ : ∃ q, q = askB n s := ⟨_, rfl⟩
  rw [← ha]
  have HA := Lib.hid ha
  clear ha
  obtain ⟨p, hp⟩ : ∃ p, p = n.places := ⟨_, rfl⟩
  have hv' := hv
  obtain ⟨hp0, hp1, u, rfl, ht⟩ := hv'
  obtain ⟨ao, cap, hu, hc, hz⟩ := id ht
  subst hu
  obtain ⟨m, hm⟩ : ∃ m, m = n.ts.length := ⟨_, rfl⟩
  rw [← hp, ← hm] at hv ⊢
  have HV := Lib.hid hv; have HS := Lib.hid hsm
  clear hv ht hz hc hm hsm hp hp0 hp1
  go_enter Try.func61, Try.ntmps61
  go_wp2_with fail
  have hb0 : Below w.heap.size w (w.alloc (.cells #[.int .i64 p, .slice ao m cap] 38)) := (Below.refl _ _).alloc (Nat.le_refl _) _
  have c0 : (w.alloc (.cells #[.int .i64 p, .slice ao m cap] 38)).cell? ⟨w.heap.size, 0, none⟩ = some (.int .i64 p) := by simp
  have c1 : (w.alloc (.cells #[.int .i64 p, .slice ao m cap] 38)).cell? ⟨w.heap.size, 1, none⟩ = some (.slice ao m cap) := by simp
  generalize w.alloc (.cells #[.int .i64 p, .slice ao m cap] 38) = W at hb0 c0 c1 ⊢
  refine (l1Good_any _ n W lo (HV.out.keep (Carries.of lo hb0)) HS.out).mono ?_
  rintro e w1 ⟨rfl, hb1⟩
  have hw1 : Below w.heap.size w w1 := hb0.trans (hb1.mono hb0.size)
  have c0 := cell_carry c0 (Carries.of 0 hb1)
  have c1 := cell_carry c1 (Carries.of 0 hb1)
  clear hb0 hb1
  cases hq : goodN n with
  | false =>
    have e1 : a = false := by rw [HA.out]; unfold askB; rw [hq]; rfl
    subst e1
    clear hq
    go_wp2_with fail
    go_ret
    exact ⟨rfl, hw1⟩
  | true =>
  have e1 : a = markB n s := by rw [HA.out]; unfold askB; rw [hq]; rfl
  have HE := Lib.hid e1
  clear hq e1
  go_wp2_with fail
  refine (l1Mark_any _ n s w1 lo (HV.out.keep (Carries.of lo hw1)) hs).mono ?_
  rintro e w2 ⟨rfl, hb2⟩
  rw [← HE.out]
  have hw2 : Below w.heap.size w w2 := hw1.trans (hb2.mono hw1.size)
  go_wp2_with fail
  go_ret
  exact ⟨rfl, hw2⟩

set_option maxRecDepth 100000 in
set_option maxHeartbeats 400000 in
theorem specIsSafe_any (v : Value) (n : NetD) (s : ByteArray) (w : World) (lo : Nat) (hv : NetAt lo w v n) (hsm : SmallTrs n.ts) (hs : s.size ≤ 1048576) :
    Calls Try.prog 25 #[v, .string s] w (RetBB w (sfV n s) (sfB n s)) := by
  obtain ⟨a, ha⟩ : ∃ q, q = sfV n s := ⟨_, rfl⟩
  obtain ⟨b, hb⟩ : ∃ q, q = sfB n s := ⟨_, rfl⟩
  rw [← ha, ← hb]
  have HA := Lib.hid ha; have HB := Lib.hid hb
  clear ha hb
  obtain ⟨p, hp⟩ : ∃ p, p = n.places := ⟨_, rfl⟩
  have hv' := hv
  obtain ⟨hp0, hp1, u, rfl, ht⟩ := hv'
  obtain ⟨ao, cap, hu, hc, hz⟩ := id ht
  subst hu
  obtain ⟨m, hm⟩ : ∃ m, m = n.ts.length := ⟨_, rfl⟩
  rw [← hp, ← hm] at hv ⊢
  have HV := Lib.hid hv; have HS := Lib.hid hsm
  clear hv ht hz hc hm hsm hp hp0 hp1
  go_enter Try.func25, Try.ntmps25
  go_wp2_with fail
  have hb0 : Below w.heap.size w (w.alloc (.cells #[.int .i64 p, .slice ao m cap] 38)) := (Below.refl _ _).alloc (Nat.le_refl _) _
  have c0 : (w.alloc (.cells #[.int .i64 p, .slice ao m cap] 38)).cell? ⟨w.heap.size, 0, none⟩ = some (.int .i64 p) := by simp
  have c1 : (w.alloc (.cells #[.int .i64 p, .slice ao m cap] 38)).cell? ⟨w.heap.size, 1, none⟩ = some (.slice ao m cap) := by simp
  generalize w.alloc (.cells #[.int .i64 p, .slice ao m cap] 38) = W at hb0 c0 c1 ⊢
  refine (l7AskedX_any _ n s W lo (HV.out.keep (Carries.of lo hb0)) HS.out hs).mono ?_
  rintro e w1 ⟨rfl, hb1⟩
  have hw1 : Below w.heap.size w w1 := hb0.trans (hb1.mono hb0.size)
  have c0 := cell_carry c0 (Carries.of 0 hb1)
  have c1 := cell_carry c1 (Carries.of 0 hb1)
  clear hb0 hb1
  cases hq : askB n s with
  | false =>
    have e1 : a = false := by rw [HA.out]; unfold sfV; rw [hq]; rfl
    have e2 : b = false := by rw [HB.out]; unfold sfB; rw [hq]; rfl
    subst e1; subst e2
    clear hq
    go_wp2_with fail
    go_ret2
    exact ⟨rfl, hw1⟩
  | true =>
  have HAK := Lib.hid hq
  have hq2 := hq
  unfold askB at hq2
  simp only [Bool.and_eq_true] at hq2
  have HG := Lib.hid hq2.1; have HM := Lib.hid hq2.2
  clear hq hq2
  go_wp2_with fail
  refine (l9Met_any _ n s w1 lo (HV.out.keep (Carries.of lo hw1)) HS.out HG.out HM.out).mono ?_
  rintro e w2 ⟨hb2, hc⟩
  have hw2 : Below w.heap.size w w2 := hw1.trans (hb2.mono hw1.size)
  rcases hc with ⟨s', v', i, k, t, hf, rfl, ho, hro⟩ | ⟨k, t, s', hf, rfl⟩ | ⟨hf, rfl⟩
  · have e1 : a = true := by rw [HA.out]; unfold sfV; rw [HAK.out, hf]; rfl
    have e2 : b = true := by rw [HB.out]; unfold sfB; rw [HAK.out, hf]; rfl
    subst e1; subst e2
    clear hf ho hro hb2
    go_wp2_with fail
    go_ret2
    exact ⟨rfl, hw2⟩
  · have e1 : a = false := by rw [HA.out]; unfold sfV; rw [HAK.out, hf]; rfl
    have e2 : b = true := by rw [HB.out]; unfold sfB; rw [HAK.out, hf]; rfl
    subst e1; subst e2
    clear hf hb2
    go_wp2_with fail
    go_ret2
    exact ⟨rfl, hw2⟩
  · have e1 : a = false := by rw [HA.out]; unfold sfV; rw [HAK.out, hf]; rfl
    have e2 : b = false := by rw [HB.out]; unfold sfB; rw [HAK.out, hf]; rfl
    subst e1; subst e2
    clear hf hb2
    go_wp2_with fail
    go_ret2
    exact ⟨rfl, hw2⟩

end Go.Proofs.Ytigkgfdnnfmmmaa
