/- WALKS: markNet on any net that may be written, from a number that an earlier net's marks ended with.
   WALK: markSTG from a number that earlier marks ended with; the union's answer is small. -/
import Derived.Test.YtgmnknlnlmcmfaaVMk
import Derived.Test.YtgmnknlnlmcmfaaVStgn
import Derived.Test.YtgmnknlnlmcmfaaVUnse
namespace Go.Proofs.Ytgmnknlnlmcmfaa
open Go.RowKit

theorem Same.marks {lo l h : Nat} {a w w' : World} (hs : Same lo a w) (hm : Marks l h w w') (hl : h ≤ lo) : Same lo a w' :=
  hs.trans ⟨by rw [hm.size]; exact Nat.le_refl _, fun b hb _ => hm.block b (Or.inr (by omega))⟩

set_option maxHeartbeats 1000000 in
theorem markTransitionS_wide (v : Value) (ts : List Tr) (k : Int) (w0 w : World) (lo : Nat) (hv : TrsOw lo w0 v ts) (hsm : Same lo w0 w) (hs : SmallTrs ts) (h0 : 0 ≤ k) (h1 : k ≤ 4398046511104) :
    Calls Try.prog 153 #[v, .int .i64 k] w (RetMarkN lo w0.heap.size w (k + (totTo ts ts.length : Nat))) := by
  obtain ⟨ao, cap, rfl, hc, hz⟩ := hv
  have HF := Lib.hid hz; clear hz
  have HT := Lib.hid (totTo_le hs)
  obtain ⟨hn, hsl⟩ := hs
  have HS := Lib.hid hsl; clear hsl
  have HM := Lib.hid hsm; clear hsm
  obtain ⟨T, hT⟩ : ∃ T, T = totTo ts := ⟨_, rfl⟩
  have hTs : ∀ j, T (j + 1) = T j + (ts.getD j ([], [])).1.length + (ts.getD j ([], [])).2.length := fun j => by rw [hT]; rfl
  have hT0 : T 0 = 0 := by rw [hT]; rfl
  rw [← hT] at HT ⊢
  have HTS := Lib.hid hTs; clear hTs hT
  go_enter Try.func153, Try.ntmps153
  go_wp2_with fail
  go_loopw [1, 5] (fun kv i wr => ∃ j : Nat, j ≤ ts.length ∧ i = .int .i64 j ∧ kv = .int .i64 (k + (T j : Nat)) ∧ Marks lo w0.heap.size w wr) (fun _ i _ => ts.length - (intOf i).toNat)
  case atStart => exact ⟨0, Nat.zero_le _, rfl, by simp [hT0], Marks.refl _ _ _⟩
  case round =>
    obtain ⟨j, hj, rfl, rfl, hm⟩ := hrel
    by_cases hlt : j < ts.length
    · rcases HF.out with rfl | ⟨b, off, rfl, hlo, hcell⟩
      · simp at hlt
      obtain ⟨x0, x1, c0, c1, hx0, hx1⟩ := hcell j hlt
      have s1 := HS.out j hlt
      have tj := HT.out j hj
      have tj1 := HTS.out j
      obtain ⟨X, hX⟩ : ∃ X, X = ts.getD j ([], []) := ⟨_, rfl⟩
      rw [← hX] at hx0 hx1 s1 tj1
      obtain ⟨s1, s2⟩ := s1
      have B0 := Lib.hid ((hx0.box.same HM.out).marks hm)
      have B1 := Lib.hid ((hx1.box.same HM.out).marks hm)
      have he := HM.out.2 b hlo (by have := cell_old c0; simpa using this)
      obtain ⟨p0, q0, rfl, _, _⟩ := hx0
      obtain ⟨p1, q1, rfl, _, _⟩ := hx1
      have d0 := hm.slice _ _ _ _ ((World.cell?_of_block (w := w0) (w' := w) (a := ⟨b, off + j * 2, none⟩) he).trans c0)
      have d1 := hm.slice _ _ _ _ ((World.cell?_of_block (w := w0) (w' := w) (a := ⟨b, off + j * 2 + 1, none⟩) he).trans c1)
      clear hcell c0 c1 he hX
      have MM := Lib.hid hm; clear hm
      go_wp2_with fail
      refine (markIntS_any _ X.1.length _ _ lo w0.heap.size B0.out s1 (by omega) (by omega)).mono ?_
      rintro e w1 ⟨rfl, hm1, _⟩
      have e1 := hm1.slice _ _ _ _ d1
      have B2 := Lib.hid (B1.out.marks hm1)
      have MM1 := Lib.hid (MM.out.trans hm1)
      clear hm1 d0 d1
      go_wp2_with fail
      refine (markIntS_any _ X.2.length _ _ lo w0.heap.size B2.out s2 (by omega) (by omega)).mono ?_
      rintro e w2 ⟨rfl, hm2, _⟩
      have MM2 := Lib.hid (MM1.out.trans hm2)
      clear hm2 e1
      go_wp2_with fail
      go_roundw
      case rel => exact ⟨j + 1, by omega, by go_num, by simp [tj1, Int.add_assoc], MM2.out⟩
      case measure => simp [intOf]; omega
    · have hjj : j = ts.length := by omega
      subst hjj
      go_wp2_with fail
      go_ret
      exact ⟨rfl, hm⟩

set_option maxHeartbeats 400000 in
theorem markNet_wide (v : Value) (n : NetD) (k : Int) (w0 w : World) (lo : Nat) (hv : NetOw lo w0 v n) (hsm : Same lo w0 w) (hs : SmallTrs n.ts) (h0 : 0 ≤ k) (h1 : k ≤ 4398046511104) :
    Calls Try.prog 91 #[v, .int .i64 k] w (fun e w' => ∃ wa, e = .returned (.int .i64 (k + (totTo n.ts n.ts.length : Nat))) ∧ Below w.heap.size w wa ∧ Marks lo w0.heap.size wa w') := by
  obtain ⟨hp0, hp1, u, rfl, ht⟩ := hv
  have HT := Lib.hid ht
  obtain ⟨ao, cap, rfl, _, _⟩ := ht
  go_enter Try.func91, Try.ntmps91
  go_wp2_with fail
  refine (markTransitionS_wide _ n.ts k w0 _ lo HT.out (hsm.alloc _) hs h0 h1).mono ?_
  rintro e w1 ⟨rfl, hm⟩
  go_wp2_with fail
  go_ret
  exact ⟨_, rfl, (Below.refl _ _).alloc (Nat.le_refl _) _, hm⟩

end Go.Proofs.Ytgmnknlnlmcmfaa

namespace Go.Proofs.Ytgmnknlnlmcmfaa
open Go.RowKit

set_option maxRecDepth 100000 in
set_option maxHeartbeats 1000000 in
theorem markSTG_wide (v : Value) (s : StgD) (k : Int) (w0 w : World) (B : Nat) (hv : StgOw B w0 v s) (hsm : Same B w0 w) (hs : SmallStg s) (hk0 : 0 ≤ k) (hk1 : k ≤ 2200000000000) :
    Calls Try.prog 40 #[v, .int .i64 k] w (fun e w' => ∃ r : Int, e = .returned (.int .i64 r) ∧ 0 ≤ r ∧ Stir B w0.heap.size w w') := by
  obtain ⟨wN, l, m, vt, vs, vl, rfl, hBl, hlN, hNm, hm0, hno, hsN, hbs, hbl, hat⟩ := hv
  obtain ⟨n, ss, ls, st⟩ := s
  obtain ⟨k1, k2, k3, k4⟩ := hs
  simp only at hno hbs hbl hat k1 k2 k3 k4 ⊢
  obtain ⟨a0, c0, e0⟩ := hno.at.form
  obtain rfl : vt = .slice a0 n.ts.length c0 := by
    injection e0 with e; injection e with e; injection e with e1 e2; injection e2 with e2
  obtain ⟨a1, c1, rfl⟩ := hbs.form
  obtain ⟨a2, c2, rfl⟩ := hbl.form
  have z0 := hsm.1
  have hsl : Same l wN w := ⟨Nat.le_trans hsN.1 hsm.1, fun b h1 h2 => (hsm.2 b (by omega) (Nat.lt_of_lt_of_le h2 hsN.1)).trans (hsN.2 b h1 h2)⟩
  have hst : Stir 0 B w0 w ∨ True := Or.inr trivial
  have hbs' : PairBox wN.heap.size m w (.slice a1 ss.length c1) ss.length := by
    obtain ⟨ao, cap, hv, hz⟩ := hbs
    refine ⟨ao, cap, hv, ?_⟩
    rcases hz with hz | ⟨b, off, ha, q1, q2, hcell⟩
    · exact Or.inl hz
    · refine Or.inr ⟨b, off, ha, q1, q2, fun i hi => ?_⟩
      obtain ⟨⟨u, hu⟩, hf⟩ := hcell i hi
      have he := hsm.2 b (by omega) (by have := cell_old hu; simpa using this)
      exact ⟨⟨u, (World.cell?_of_block (w := w0) (w' := w) (a := ⟨b, off + i, none⟩) he).trans hu⟩, (World.frozen?_of_block (w := w0) (w' := w) (a := ⟨b, off + i, none⟩) he).trans hf⟩
  have hbl' : PairBox m w0.heap.size w (.slice a2 ls.length c2) ls.length := by
    obtain ⟨ao, cap, hv, hz⟩ := hbl
    refine ⟨ao, cap, hv, ?_⟩
    rcases hz with hz | ⟨b, off, ha, q1, q2, hcell⟩
    · exact Or.inl hz
    · refine Or.inr ⟨b, off, ha, q1, q2, fun i hi => ?_⟩
      obtain ⟨⟨u, hu⟩, hf⟩ := hcell i hi
      have he := hsm.2 b (by omega) (by have := cell_old hu; simpa using this)
      exact ⟨⟨u, (World.cell?_of_block (w := w0) (w' := w) (a := ⟨b, off + i, none⟩) he).trans hu⟩, (World.frozen?_of_block (w := w0) (w' := w) (a := ⟨b, off + i, none⟩) he).trans hf⟩
  have HN := Lib.hid hno; clear hno e0
  have HSL := Lib.hid hsl; clear hsl hsN
  have HBS := Lib.hid hbs'; clear hbs hbs'
  have HBL := Lib.hid hbl'; clear hbl hbl' hat hst
  have K1 := Lib.hid k1; clear k1
  have K2 := k2.1; clear k2
  have hTr := totTo_le K1.out n.ts.length (Nat.le_refl _)
  have hl1 : n.ts.length ≤ 1048576 := K1.out.1
  have hT2 : totTo n.ts n.ts.length ≤ 2199023255552 := by omega
  go_enter Try.func40, Try.ntmps40
  have hal : Below w.heap.size w (w.alloc (.cells #[.int .i64 n.places, .slice a0 n.ts.length c0, .slice a1 ss.length c1, .slice a2 ls.length c2, .string st] 63)) := (Below.refl _ _).alloc (Nat.le_refl _) _
  go_wp2_with fail
  have x2 : (w.alloc (.cells #[.int .i64 n.places, .slice a0 n.ts.length c0, .slice a1 ss.length c1, .slice a2 ls.length c2, .string st] 63)).cell? ⟨w.heap.size, 2, none⟩ = some (.slice a1 ss.length c1) := by simp
  have x3 : (w.alloc (.cells #[.int .i64 n.places, .slice a0 n.ts.length c0, .slice a1 ss.length c1, .slice a2 ls.length c2, .string st] 63)).cell? ⟨w.heap.size, 3, none⟩ = some (.slice a2 ls.length c2) := by simp
  generalize w.alloc (.cells #[.int .i64 n.places, .slice a0 n.ts.length c0, .slice a1 ss.length c1, .slice a2 ls.length c2, .string st] 63) = W at hal x2 x3 ⊢
  have zW := hal.size
  refine (markNet_wide _ n k wN W l HN.out (HSL.out.trans (Same.of _ hal)) K1.out (by omega) (by omega)).mono ?_
  rintro e w1 ⟨wa, rfl, hba, hmk⟩
  have ST1 : Stir B w0.heap.size w w1 := (Stir.of _ _ hal).trans ((Stir.of _ _ hba).trans (hmk.stir.wide (by omega) (by omega)))
  have y2 := hmk.cell (Or.inr (by simp; omega)) (cell_carry x2 (Carries.of 0 hba))
  have y3 := hmk.cell (Or.inr (by simp; omega)) (cell_carry x3 (Carries.of 0 hba))
  have B1 := Lib.hid (((HBS.out.after hal).after hba).stir hmk.stir (Or.inr (Nat.le_refl _)))
  have B2 := Lib.hid (((HBL.out.after hal).after hba).stir hmk.stir (Or.inr (by omega)))
  clear hmk hba x2 x3 hal HBS HBL
  generalize totTo n.ts n.ts.length = T at hT2
  go_wp2_with fail
  refine (markSignalS_any _ ss.length _ _ _ _ B1.out K2 (by omega) (by omega)).mono ?_
  rintro e w2 ⟨rfl, hst⟩
  have ST2 := ST1.trans (hst.wide (by omega) (by omega))
  have y3 := hst.cell (Or.inr (by simp; omega)) y3
  have B3 := Lib.hid (B2.out.stir hst (Or.inr (Nat.le_refl _)))
  clear hst y2 B1 B2
  go_wp2_with fail
  refine (markLabelS_any _ ls.length _ _ _ _ B3.out k3 (by omega) (by omega)).mono ?_
  rintro e w3 ⟨rfl, hst⟩
  have ST3 := ST2.trans (hst.wide (by omega) (by omega))
  go_wp2_with fail
  go_ret
  exact ⟨_, rfl, by omega, ST3⟩


theorem zeroS_small : SmallStg zeroS := by
  refine ⟨⟨Nat.zero_le _, fun i hi => absurd hi (Nat.not_lt_zero _)⟩, ⟨Nat.zero_le _, fun i hi => absurd hi (Nat.not_lt_zero _)⟩, Nat.zero_le _, by decide⟩
theorem uniR_small {a b : StgD} (ha : SmallStg a) (hb : SmallStg b) : SmallStg (uniR a b) := by
  cases h : uniB a b with
  | false => rw [uniR_no h]; exact zeroS_small
  | true =>
    rw [uniR_yes h]
    unfold uniB at h
    simp only [Bool.and_eq_true] at h
    exact uniS_small ha hb h.1 h.2.1 h.2.2.1
/-- behind the region that makes a union: its box, its value -/
def SMid (W : World) (rp : Int) (rm rns rnl : Nat) (rst : ByteArray) (RN : StgD) (mk : Nat → Value → Value → Option Addr → Nat → Option Addr → Nat → Option Addr → Nat → Act) (e : Exit) (a' : Act) (w' : World) : Prop :=
  e = .normal ∧ ∃ (G : Nat) (v2 v3 : Value) (u0 : Option Addr) (k0 : Nat) (u1 : Option Addr) (k1 : Nat) (u2 : Option Addr) (k2 : Nat), a' = mk G v2 v3 u0 k0 u1 k1 u2 k2 ∧ W.heap.size ≤ G ∧ G < w'.heap.size ∧
    w'.cell? ⟨G, 0, none⟩ = some (.int .i64 rp) ∧ w'.cell? ⟨G, 1, none⟩ = some (.slice u0 rm k0) ∧ w'.cell? ⟨G, 2, none⟩ = some (.slice u1 rns k1) ∧ w'.cell? ⟨G, 3, none⟩ = some (.slice u2 rnl k2) ∧ w'.cell? ⟨G, 4, none⟩ = some (.string rst) ∧
    StgAt 0 w' (.agg #[.int .i64 rp, .slice u0 rm k0, .slice u1 rns k1, .slice u2 rnl k2, .string rst]) RN ∧ Below W.heap.size W w'

end Go.Proofs.Ytgmnknlnlmcmfaa
