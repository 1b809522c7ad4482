/-
  WALKS: markNet on any net that may be written, from a number that an earlier net's marks ended with.
-/
import Derived.Test.YtlakcjcmbhkcdaaMk
namespace Go.Proofs.Ytlakcjcmbhkcdaa
open Go.RowKit

theorem Same.marks {lo l h : Nat} {a w w' : World} (hs : Same lo a w) (hm : Marks l h w w') (hl : h ≤ lo) : Same lo a w' :=
  hs.trans ⟨by rw [hm.size]; exact Nat.le_refl _, fun b hb _ => hm.block b (Or.inr (by omega))⟩

set_option maxHeartbeats 1000000 in
theorem markTransitionS_wide (v : Value) (ts : List Tr) (k : Int) (w0 w : World) (lo : Nat) (hv : TrsOw lo w0 v ts) (hsm : Same lo w0 w) (hs : SmallTrs ts) (h0 : 0 ≤ k) (h1 : k ≤ 4398046511104) :
    Calls Try.prog 76 #[v, .int .i64 k] w (RetMarkN lo w0.heap.size w (k + (totTo ts ts.length : Nat))) := by
  obtain ⟨ao, cap, rfl, hc, hz⟩ := hv
  have HF := Lib.hid hz; clear hz
  have HT := Lib.hid (totTo_le hs)
  obtain ⟨hn, hsl⟩ := hs
  have HS := Lib.hid hsl; clear hsl
  have HM := Lib.hid hsm; clear hsm
  obtain ⟨T, hT⟩ : ∃ T, T = totTo ts := ⟨_, rfl⟩
  have hTs : ∀ j, T (j + 1) = T j + (ts.getD j ([], [])).1.length + (ts.getD j ([], [])).2.length := fun j => by rw [hT]; rfl
  have hT0 : T 0 = 0 := by rw [hT]; rfl
  rw [← hT] at HT ⊢
  have HTS := Lib.hid hTs; clear hTs hT
  go_enter Try.func76, Try.ntmps76
  go_wp2_with fail
  go_loopw [1, 5] (fun kv i wr => ∃ j : Nat, j ≤ ts.length ∧ i = .int .i64 j ∧ kv = .int .i64 (k + (T j : Nat)) ∧ Marks lo w0.heap.size w wr) (fun _ i _ => ts.length - (intOf i).toNat)
  case atStart => exact ⟨0, Nat.zero_le _, rfl, by simp [hT0], Marks.refl _ _ _⟩
  case round =>
    obtain ⟨j, hj, rfl, rfl, hm⟩ := hrel
    by_cases hlt : j < ts.length
    · rcases HF.out with rfl | ⟨b, off, rfl, hlo, hcell⟩
      · simp at hlt
      obtain ⟨x0, x1, c0, c1, hx0, hx1⟩ := hcell j hlt
      have s1 := HS.out j hlt
      have tj := HT.out j hj
      have tj1 := HTS.out j
      obtain ⟨X, hX⟩ : ∃ X, X = ts.getD j ([], []) := ⟨_, rfl⟩
      rw [← hX] at hx0 hx1 s1 tj1
      obtain ⟨s1, s2⟩ := s1
      have B0 := Lib.hid ((hx0.box.same HM.out).marks hm)
      have B1 := Lib.hid ((hx1.box.same HM.out).marks hm)
      have he := HM.out.2 b hlo (by have := cell_old c0; simpa using this)
      obtain ⟨p0, q0, rfl, _, _⟩ := hx0
      obtain ⟨p1, q1, rfl, _, _⟩ := hx1
      have d0 := hm.slice _ _ _ _ ((World.cell?_of_block (w := w0) (w' := w) (a := ⟨b, off + j * 2, none⟩) he).trans c0)
      have d1 := hm.slice _ _ _ _ ((World.cell?_of_block (w := w0) (w' := w) (a := ⟨b, off + j * 2 + 1, none⟩) he).trans c1)
      clear hcell c0 c1 he hX
      have MM := Lib.hid hm; clear hm
      go_wp2_with fail
      refine (markIntS_any _ X.1.length _ _ lo w0.heap.size B0.out s1 (by omega) (by omega)).mono ?_
      rintro e w1 ⟨rfl, hm1, _⟩
      have e1 := hm1.slice _ _ _ _ d1
      have B2 := Lib.hid (B1.out.marks hm1)
      have MM1 := Lib.hid (MM.out.trans hm1)
      clear hm1 d0 d1
      go_wp2_with fail
      refine (markIntS_any _ X.2.length _ _ lo w0.heap.size B2.out s2 (by omega) (by omega)).mono ?_
      rintro e w2 ⟨rfl, hm2, _⟩
      have MM2 := Lib.hid (MM1.out.trans hm2)
      clear hm2 e1
      go_wp2_with fail
      go_roundw
      case rel => exact ⟨j + 1, by omega, by go_num, by simp [tj1, Int.add_assoc], MM2.out⟩
      case measure => simp [intOf]; omega
    · have hjj : j = ts.length := by omega
      subst hjj
      go_wp2_with fail
      go_ret
      exact ⟨rfl, hm⟩

set_option maxHeartbeats 400000 in
theorem markNet_wide (v : Value) (n : NetD) (k : Int) (w0 w : World) (lo : Nat) (hv : NetOw lo w0 v n) (hsm : Same lo w0 w) (hs : SmallTrs n.ts) (h0 : 0 ≤ k) (h1 : k ≤ 4398046511104) :
    Calls Try.prog 32 #[v, .int .i64 k] w (fun e w' => ∃ wa, e = .returned (.int .i64 (k + (totTo n.ts n.ts.length : Nat))) ∧ Below w.heap.size w wa ∧ Marks lo w0.heap.size wa w') := by
  obtain ⟨hp0, hp1, u, rfl, ht⟩ := hv
  have HT := Lib.hid ht
  obtain ⟨ao, cap, rfl, _, _⟩ := ht
  go_enter Try.func32, Try.ntmps32
  go_wp2_with fail
  refine (markTransitionS_wide _ n.ts k w0 _ lo HT.out (hsm.alloc _) hs h0 h1).mono ?_
  rintro e w1 ⟨rfl, hm⟩
  go_wp2_with fail
  go_ret
  exact ⟨_, rfl, (Below.refl _ _).alloc (Nat.le_refl _) _, hm⟩

end Go.Proofs.Ytlakcjcmbhkcdaa
