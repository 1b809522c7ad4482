/- WALKS: l9Met, IsSafe of the model. -/
import Derived.Test.YtigkgfdnnfmmmaaVExa
import Derived.Test.YtigkgfdnnfmmmaaVStgv
import Derived.Test.YtigkgfdnnfmmmaaVWrm
import Derived.Test.YtigkgfdnnfmmmaaVSfireb
import Derived.Test.YtigkgfdnnfmmmaaVSteps
import Derived.Deep.CutRange
import Derived.Deep.RegionHeld3
namespace Go.Proofs.Ytigkgfdnnfmmmaa
open Go.RowKit

/-- what the model's search comes to -/
def RetMet (n : NetD) (s0 : ByteArray) (w : World) (e : Ending) (w' : World) : Prop :=
  Below w.heap.size w w' ∧
  ((∃ (s : ExS) (v : Value) (i k t : Nat), exF n false 600 s0 = .done s ∧ e = .returned (.tuple #[v, .bool true, .bool true]) ∧ ExOk n 600 s0 i k t s ∧ SRow w.heap.size w' v s.ms) ∨
   (∃ (k t : Nat) (s : ExS), exF n false 600 s0 = .bad k t s ∧ e = .returned (.tuple #[.slice none 0 0, .bool false, .bool true])) ∨
   (exF n false 600 s0 = .full ∧ e = .returned (.tuple #[.slice none 0 0, .bool false, .bool false])))

theorem fired_ex {n : NetD} {m : ByteArray} {t : Nat} (h : exOk n m t = true) : bstr (fired m (n.ts.getD t ([], []))) = exNext n m t := by
  unfold exOk exTr at h
  unfold fired exNext exTr
  rw [if_pos h]
theorem own_baseT {w : World} {B : Nat} {e : TypeId} {sz : Nat} {v : Value} {n : Nat} {xs : List Value} (h : w.ownsRow B e sz v n xs) : ∀ b, v.ownBlock = some b → B ≤ b := by
  intro b hv
  rcases h.2 with ⟨rfl, _⟩ | ⟨g, cap, cur, rfl, hb, _⟩
  · simp [Value.ownBlock] at hv
  · simp only [Value.ownBlock, Option.some.injEq] at hv
    subst hv
    exact hb

set_option maxRecDepth 100000 in
set_option maxHeartbeats 4000000 in
theorem l9Met_any (v : Value) (n : NetD) (s0 : ByteArray) (w : World) (lo : Nat) (hv : NetAt lo w v n) (hsm : SmallTrs n.ts) (hg : goodN n = true) (hm0 : markB n s0 = true) :
    Calls Try.prog 62 #[v, .string s0] w (RetMet n s0 w) := by
  have hT24 := (goodN_parts hg).2.2.1
  have HOK := Lib.hid (fun i k t s hx => ex_ok (ea := false) hg (by omega : 1 ≤ 600) hm0 i k t s hx)
  have HFI := Lib.hid (fun (i : Nat) (c : ExC) (hx : exTo n false 600 s0 i = c) hc => exF_is hg (by omega : 1 ≤ 600) hm0 hx hc)
  have HIN := Lib.hid (fun (mm : ByteArray) (hmm : markB n mm = true) (t : Nat) (ht : t < n.ts.length) => (show InS mm.size (n.ts.getD t ([], [])).1 ∧ InS mm.size (n.ts.getD t ([], [])).2 ∧ (n.ts.getD t ([], [])).2.Pairwise (· < ·) by
    obtain ⟨i1, i2, _, i4⟩ := good_tr hg ht
    rw [← mark_size hmm] at i1 i2
    exact ⟨i1, i2, i4⟩))
  have HSZ := Lib.hid (fun (mm : ByteArray) (hmm : markB n mm = true) => (show mm.size ≤ 30 by
    have := mark_size hmm
    have := (goodN_parts hg).2.1
    omega))
  have hv' := hv
  obtain ⟨hp0, hp1, u, rfl, ht⟩ := hv'
  obtain ⟨ao, cap, hu, hc, hz⟩ := ht
  subst hu
  obtain ⟨p, hp⟩ : ∃ q, q = n.places := ⟨_, rfl⟩
  obtain ⟨m, hm⟩ : ∃ q, q = n.ts.length := ⟨_, rfl⟩
  rw [← hp, ← hm] at hv ⊢
  rw [← hm] at hT24
  have HV := Lib.hid hv; have HS := Lib.hid hsm; have HMM := Lib.hid hm
  clear hv hz hc hm hsm hp hp0 hp1 hg
  have W0 : Below w.heap.size w ((w.alloc (.cells #[.int .i64 p, .slice ao m cap] 38)).alloc (.cells #[.string s0] 9)) := by (repeat' (first | (with_reducible exact Below.refl _ _) | (with_reducible assumption) | (with_reducible refine Below.alloc ?_ ?_ _) | (with_reducible refine Below.drew ?_) | (with_reducible refine below_drewN ?_ _) | (with_reducible refine Below.setCell ?_ ?_ _) | go_size))
  have b0 : ((w.alloc (.cells #[.int .i64 p, .slice ao m cap] 38)).alloc (.cells #[.string s0] 9)).cell? ⟨w.heap.size, 0, none⟩ = some (.int .i64 p) := by simp
  have b1 : ((w.alloc (.cells #[.int .i64 p, .slice ao m cap] 38)).alloc (.cells #[.string s0] 9)).cell? ⟨w.heap.size, 1, none⟩ = some (.slice ao m cap) := by simp
  have hrow : SRow (w.heap.size + 1) ((w.alloc (.cells #[.int .i64 p, .slice ao m cap] 38)).alloc (.cells #[.string s0] 9)) (.slice (some ⟨w.heap.size + 1, 0, none⟩) 1 1) [s0] := by
    have := World.ownsRow_lit (base := w.heap.size + 1) (e := 9) (size := 1) (w.alloc (.cells #[.int .i64 p, .slice ao m cap] 38)) #[.string s0] 1 (by simp) (by decide) (by simp)
    simpa [SRow, txCells] using this
  have HR0 := Lib.hid hrow
  clear hrow
  go_enter Try.func62, Try.ntmps62
  go_wp2_with fail
  go_loopw [7, 8] (fun v7 v8 wr => ∃ (i k : Nat) (s : ExS), exTo n false 600 s0 i = .on k 0 s ∧ v8 = .int .i64 (k : Int) ∧ Hid (SRow (w.heap.size + 1) wr v7 s.ms) ∧ wr.cell? ⟨w.heap.size, 0, none⟩ = some (.int .i64 p) ∧ wr.cell? ⟨w.heap.size, 1, none⟩ = some (.slice ao m cap) ∧ Below w.heap.size w wr ∧ w.heap.size + 1 ≤ wr.heap.size) (fun _ v8 _ => 700 - (intOf v8).toNat)
  case atStart => exact ⟨0, 0, ⟨[s0], []⟩, rfl, rfl, HR0.out, b0, b1, W0, by simp⟩
  case round =>
  obtain ⟨i, k, s, hx, rfl, hrw, a0, a1, hbw, hzz⟩ := hrel
  obtain ⟨ho, _⟩ := HOK.out i k 0 s hx
  have HX := Lib.hid hx; have HO := Lib.hid ho
  obtain ⟨a7, c7, rfl⟩ := hrw.out.form
  obtain ⟨N, hN⟩ : ∃ q, q = s.ms.length := ⟨_, rfl⟩
  have HN := Lib.hid hN
  have hkle : k ≤ N := by rw [hN]; exact ho.kle
  have hNb : N ≤ 600 := by rw [hN]; have := ho.bound; omega
  rw [← hN] at hrw ⊢
  clear hx ho hN HR0 b0 b1 W0
  by_cases hlt : k < N
  case neg =>
    have hkN : ¬ k < s.ms.length := by rw [← HN.out]; exact hlt
    have HFN := Lib.hid (HFI.out _ _ (ex_end HX.out hkN) rfl)
    have t0 : decide ((k : Int) < (N : Int)) = false := by rw [decide_eq_false_iff_not]; omega
    clear hkN
    go_wp2_with fail
    go_ret3
    exact ⟨hbw, Or.inl ⟨s, _, i, k, 0, HFN.out, rfl, HO.out, Go.Joins.ownsRow_le hrw.out (Nat.le_succ _)⟩⟩
  have t0 : decide ((k : Int) < (N : Int)) = true := decide_eq_true (by omega)
  have hkN : k < s.ms.length := by rw [← HN.out]; exact hlt
  obtain ⟨mk, hmk⟩ : ∃ q, q = stN s.ms k := ⟨_, rfl⟩
  have hmkm : markB n mk = true := by rw [hmk]; exact HO.out.mks k hkN
  have HKN := Lib.hid hkN; have HMK := Lib.hid hmk; have HKM := Lib.hid hmkm
  have hrng : ∃ g, a7 = some ⟨g, 0, none⟩ := by
    rcases hrw.out.2 with ⟨hv0, hn0⟩ | ⟨g, cap', cur, hv0, _⟩
    · rw [← HN.out] at hn0; omega
    · injection hv0 with e1 e2 e3; exact ⟨g, e1⟩
  obtain ⟨g7, rfl⟩ := hrng
  have hck : wr.cell? ⟨g7, k, none⟩ = some (.string mk) := by
    have h := hrw.out
    unfold SRow at h
    rw [← HN.out] at h
    rw [h.cellAt k (by omega), hmk]
    exact txCells_get hkN
  have HRW := Lib.hid hrw.out; have HBW := Lib.hid hbw
  obtain ⟨wo, hwo⟩ : ∃ q, q = wr := ⟨_, rfl⟩
  subst hwo
  obtain ⟨f, hf⟩ : ∃ q, q = readyOf n mk := ⟨_, rfl⟩
  have HFF := Lib.hid hf
  clear hkN hmk hmkm hrw hbw hf
  go_upto_region 5 with fail
  go_cut [26, 27, 28] from 21 to 29 (fun vA vB vC wx => ∃ (aL : Option Addr) (cL : Nat), vA = .slice aL (enTo f m).length cL ∧ vB = .int .i64 ((enTo f m).length : Int) ∧ vC = .int .i64 0 ∧ wx.ownsRow wo.heap.size 3 1 (.slice aL (enTo f m).length cL) (enTo f m).length (intCells (enTo f m)) ∧ Below wo.heap.size wo wx)
  case first =>
    refine wp_region_held_drew (S := fun w' => w'.cell? ⟨w.heap.size, 0, none⟩ = some (.int .i64 p) ∧ w'.cell? ⟨w.heap.size, 1, none⟩ = some (.slice ao m cap) ∧ w'.cell? ⟨g7, k, none⟩ = some (.string mk)) (by kernel_rfl) ⟨a0, a1, hck⟩ (fun hHeld => ?_)
    refine tk0 (v := ?_) (by kernel_rfl) (by kernel_rfl) (by kernel_rfl) (by first | exact fun _ _ _ h => h | exact fun _ _ _ h => absurd h.1 (by simp)) (Or.inl ⟨by rfl, ?_⟩) (by assumption) ?_
    rotate_left 1
    focus (intro wx hSw; (try dsimp only at hSw); go_simp; try (with_reducible rfl))
    try simp only [Act.put, List.setIfInBounds_toArray, List.set_cons_zero, List.set_cons_succ]
    refine tk1 (v := ?_) (by kernel_rfl) (by kernel_rfl) (by kernel_rfl) (by first | exact fun _ _ _ h => h | exact fun _ _ _ h => absurd h.1 (by simp)) (Or.inl ⟨by rfl, ?_⟩) (by assumption) ?_
    rotate_left 1
    focus (intro wx hSw; (try dsimp only at hSw); go_simp; try (with_reducible rfl))
    try simp only [Act.put, List.setIfInBounds_toArray, List.set_cons_zero, List.set_cons_succ]
    refine tk2 (v := ?_) (by kernel_rfl) (by kernel_rfl) (by kernel_rfl) (by first | exact fun _ _ _ h => h | exact fun _ _ _ h => absurd h.1 (by simp)) (Or.inl ⟨by rfl, ?_⟩) (by assumption) ?_
    rotate_left 1
    focus (intro wx hSw; (try dsimp only at hSw); go_simp; try (with_reducible rfl))
    try simp only [Act.put, List.setIfInBounds_toArray, List.set_cons_zero, List.set_cons_succ]
    refine tk3 (v := ?_) (by kernel_rfl) (by kernel_rfl) (by kernel_rfl) (by first | exact fun _ _ _ h => h | exact fun _ _ _ h => absurd h.1 (by simp)) (Or.inl ⟨by rfl, ?_⟩) (by assumption) ?_
    rotate_left 1
    focus (intro wx hSw; (try dsimp only at hSw); go_simp; try (with_reducible rfl))
    try simp only [Act.put, List.setIfInBounds_toArray, List.set_cons_zero, List.set_cons_succ]
    refine tk4 (v := ?_) (by kernel_rfl) (by kernel_rfl) (by kernel_rfl) (by first | exact fun _ _ _ h => h | exact fun _ _ _ h => absurd h.1 (by simp)) (Or.inl ⟨by rfl, ?_⟩) (by assumption) ?_
    rotate_left 1
    focus (intro wx hSw; (try dsimp only at hSw); go_simp; try (with_reducible rfl))
    try simp only [Act.put, List.setIfInBounds_toArray, List.set_cons_zero, List.set_cons_succ]
    refine tk7 (v := ?_) (by kernel_rfl) (by kernel_rfl) (by kernel_rfl) (by first | exact fun _ _ _ h => h | exact fun _ _ _ h => absurd h.1 (by simp)) (Or.inl ⟨by rfl, ?_⟩) (by assumption) ?_
    rotate_left 1
    focus (intro wx hSw; (try dsimp only at hSw); go_simp; try (with_reducible rfl))
    try simp only [Act.put, List.setIfInBounds_toArray, List.set_cons_zero, List.set_cons_succ]
    refine rd5 (by kernel_rfl) (fun K hK => ?_)
    go_simp
    have hdr : Below wo.heap.size wo wo.drew := (Below.refl _ _).drew
    have a0 := cell_carry a0 (Carries.of 0 hdr)
    have a1 := cell_carry a1 (Carries.of 0 hdr)
    have hck := cell_carry hck (Carries.of 0 hdr)
    generalize wo.drew = wd at hdr a0 a1 hck ⊢
    refine (l1Enabled_any _ n mk wd lo (HV.out.keep (Carries.of lo (HBW.out.trans (hdr.mono HBW.out.size)))) HS.out (fun t ht => (HIN.out mk HKM.out t ht).1) (by have := HSZ.out mk HKM.out; omega)).mono ?_
    rintro e x1 ⟨vL, rfl, hL, hb1⟩
    rw [← HMM.out, ← HFF.out] at hL
    have hLf : ∃ aL cL, vL = .slice aL (enTo f m).length cL := by
      rcases hL.2 with ⟨rfl, hn0⟩ | ⟨gL, cL, cur, rfl, _⟩
      · exact ⟨none, 0, by rw [hn0]⟩
      · exact ⟨_, _, rfl⟩
    obtain ⟨aL, cL, rfl⟩ := hLf
    have HLL := Lib.hid (Go.Joins.ownsRow_le hL hdr.size)
    have hb2 := hdr.trans (hb1.mono hdr.size)
    have a0 := cell_carry a0 (Carries.of 0 hb1)
    have a1 := cell_carry a1 (Carries.of 0 hb1)
    have hck := cell_carry hck (Carries.of 0 hb1)
    clear hL hb1 hdr
    obtain ⟨nL, hnL⟩ : ∃ q, q = (enTo f m).length := ⟨_, rfl⟩
    have HNL := Lib.hid hnL
    rw [← hnL] at HLL ⊢
    clear hnL
    refine hK.out _ _ ⟨a0, a1, hck⟩ (fun hHeld => ?_)
    clear hK K
    try simp only [Act.put, List.setIfInBounds_toArray, List.set_cons_zero, List.set_cons_succ]
    refine tk6 (v := ?_) (by kernel_rfl) (by kernel_rfl) (by kernel_rfl) (by first | exact fun _ _ _ h => h | exact fun _ _ _ h => absurd h.1 (by simp)) (Or.inl ⟨by rfl, ?_⟩) (by assumption) ?_
    rotate_left 1
    focus (intro wx hSw; (try dsimp only at hSw); go_simp; try (with_reducible rfl))
    try simp only [Act.put, List.setIfInBounds_toArray, List.set_cons_zero, List.set_cons_succ]
    refine wpAnyH_done (by kernel_rfl) ?_ _
    go_wp2_with fail
    go_meet
    case rel => exact ⟨aL, cL, by rw [HNL.out], by rw [HNL.out], rfl, by rw [← HNL.out]; exact HLL.out, hb2⟩
  case rest =>
  obtain ⟨aL, cL, rfl, rfl, rfl, hL, hb5⟩ := hcut
  obtain ⟨w5, hw5e⟩ : ∃ x, x = wc := ⟨_, rfl⟩
  subst hw5e
  have a0 := cell_carry a0 (Carries.of 0 hb5)
  have a1 := cell_carry a1 (Carries.of 0 hb5)
  have HR5 := Lib.hid (show SRow (w.heap.size + 1) w5 (.slice (some ⟨g7, 0, none⟩) N c7) s.ms from owns_after HRW.out hb5)
  have HB5 := Lib.hid (HBW.out.trans (hb5.mono HBW.out.size))
  have z5 : w.heap.size + 1 ≤ w5.heap.size := Nat.le_trans hzz hb5.size
  obtain ⟨nL, hnL⟩ : ∃ q, q = (enTo f m).length := ⟨_, rfl⟩
  have HNL := Lib.hid hnL
  rw [← hnL] at hL ⊢
  have HL := Lib.hid hL
  have hnL24 : nL ≤ 24 := by rw [hnL]; exact Nat.le_trans (enTo_length _ _) hT24
  clear hnL hL hb5 hck HRW HBW hlt t0 hkle hNb
  go_wp2_with fail
  go_loopw [7, 28] (fun v7 v28 wr => ∃ (i t j : Nat) (s : ExS), exTo n false 600 s0 i = .on k t s ∧ stN s.ms k = mk ∧ k < s.ms.length ∧ v28 = .int .i64 (j : Int) ∧ j ≤ nL ∧ (enTo f t).length = j ∧ t ≤ m ∧ Hid (SRow (w.heap.size + 1) wr v7 s.ms) ∧ Hid (wr.ownsRow wo.heap.size 3 1 (.slice aL nL cL) nL (intCells (enTo f m))) ∧ wr.cell? ⟨w.heap.size, 0, none⟩ = some (.int .i64 p) ∧ wr.cell? ⟨w.heap.size, 1, none⟩ = some (.slice ao m cap) ∧ Below w.heap.size w wr ∧ w.heap.size + 1 ≤ wr.heap.size) (fun _ v28 _ => 25 - (intOf v28).toNat)
  case atStart => exact ⟨i, 0, 0, s, HX.out, HMK.out.symm, HKN.out, rfl, Nat.zero_le _, rfl, Nat.zero_le _, HR5, HL, a0, a1, HB5.out, z5⟩
  case round =>
  clear a0 a1 HR5 HB5 z5 HL HX HO HN HKN HMK
  obtain ⟨i, t, j, s, hx, hsm, hks, rfl, hj, hje, htm, hrw, hil, a0, a1, hbw, hzz⟩ := hrel
  obtain ⟨ho, _⟩ := HOK.out i k t s hx
  have HX := Lib.hid hx; have HO := Lib.hid ho; have HKS := Lib.hid hks; have HSM := Lib.hid hsm; have HJE := Lib.hid hje
  obtain ⟨wi, hwi⟩ : ∃ q, q = wr := ⟨_, rfl⟩
  subst hwi
  obtain ⟨a7', c7', rfl⟩ := hrw.out.form
  obtain ⟨N, hN⟩ : ∃ q, q = s.ms.length := ⟨_, rfl⟩
  have HN := Lib.hid hN
  have hNb : N ≤ 700 := by rw [hN]; have := ho.bound; omega
  have hkN : k < N := by rw [hN]; exact hks
  have HRW : Hid (SRow (w.heap.size + 1) wi (.slice a7' s.ms.length c7') s.ms) := hrw
  rw [← hN]
  have hrng : ∃ g, a7' = some ⟨g, 0, none⟩ := by
    rcases hrw.out.2 with ⟨hv0, hn0⟩ | ⟨g, cap', cur, hv0, _⟩
    · omega
    · injection hv0 with e1 e2 e3; exact ⟨g, e1⟩
  obtain ⟨g7, rfl⟩ := hrng
  have hck : wi.cell? ⟨g7, k, none⟩ = some (.string mk) := by
    rw [hrw.out.cellAt k (by omega), ← hsm]
    exact txCells_get hks
  have HBW := Lib.hid hbw; have HIL := Lib.hid hil.out
  have hft : ∀ q, f q = readyOf n (stN s.ms k) q := fun q => by rw [HSM.out, HFF.out]
  have HFT := Lib.hid hft
  clear hx ho hks hsm hje hN hrw hil hft hbw
  by_cases hlt : j < nL
  case neg =>
    have hjL : (enTo f t).length = (enTo f m).length := by rw [HJE.out, ← HNL.out]; omega
    have hno := en_end f m (m - t) t (by omega) hjL
    have hsk := ex_skip HKS.out (m - t) i t HX.out (by rw [← HMM.out]; omega) (fun q h1 h2 => by rw [← HFT.out]; exact hno q h1 (by omega))
    rw [show t + (m - t) = m by omega] at hsk
    have hmn : ¬ m < n.ts.length := by rw [← HMM.out]; omega
    have t0 : decide ((j : Int) < (nL : Int)) = false := by rw [decide_eq_false_iff_not]; omega
    by_cases hful : 600 < N
    · have HFN := Lib.hid (HFI.out _ _ (ex_row_full hsk HKS.out hmn rfl (by rw [← HN.out]; exact hful)) rfl)
      have t1 : decide ((N : Int) > 600) = true := decide_eq_true (by omega)
      clear hjL hno hsk hmn
      go_wp2_with fail
      go_ret3
      exact ⟨HBW.out, Or.inr (Or.inr ⟨HFN.out, rfl⟩)⟩
    · have HRR := Lib.hid (ex_row hsk HKS.out hmn (Or.inr (by rw [← HN.out]; omega)))
      have t1 : decide ((N : Int) > 600) = false := by rw [decide_eq_false_iff_not]; omega
      clear hjL hno hsk hmn
      go_wp2_with fail
      go_roundw
      case rel => exact ⟨_, k + 1, s, HRR.out, by go_num, by rw [HN.out]; exact HRW, a0, a1, HBW.out, hzz⟩
      case measure => simp [intOf]; omega
  have t0 : decide ((j : Int) < (nL : Int)) = true := decide_eq_true (by omega)
  obtain ⟨t2, ht1, ht2, hft2, hgap, hget, hlen2⟩ := en_next f m j (by rw [← HNL.out]; exact hlt) (m - t) t (by omega) HJE.out
  have hsk := ex_skip HKS.out (t2 - t) i t HX.out (by rw [← HMM.out]; omega) (fun q h1 h2 => by rw [← HFT.out]; exact hgap q h1 (by omega))
  rw [show t + (t2 - t) = t2 by omega] at hsk
  have hrd : readyOf n (stN s.ms k) t2 = true := by rw [← HFT.out]; exact hft2
  have ht2n : t2 < n.ts.length := by rw [← HMM.out]; exact ht2
  have hiL : ∃ gL, aL = some ⟨gL, 0, none⟩ := by
    rcases HIL.out.2 with ⟨hv0, hn0⟩ | ⟨g, cap', cur, hv0, _⟩
    · omega
    · injection hv0 with e1 e2 e3; exact ⟨g, e1⟩
  obtain ⟨gL, rfl⟩ := hiL
  have hcj : wi.cell? ⟨gL, j, none⟩ = some (.int .i64 (t2 : Int)) := by
    rw [HIL.out.cellAt j (by omega), intCells, List.getElem?_map, ← hget]
    have hjl : j < (enTo f m).length := by rw [← HNL.out]; exact hlt
    rw [List.getElem?_eq_getElem hjl, List.getD, List.getElem?_eq_getElem hjl]
    rfl
  have HSK := Lib.hid hsk; have HRD := Lib.hid hrd; have HT2 := Lib.hid ht2n; have HL2 := Lib.hid hlen2
  clear hsk hrd ht2n hlen2 hgap hget hft2
  go_upto_region 8 with fail
  refine wp_region_held_drew (S := fun w' => w'.cell? ⟨w.heap.size, 0, none⟩ = some (.int .i64 p) ∧ w'.cell? ⟨w.heap.size, 1, none⟩ = some (.slice ao m cap) ∧ w'.cell? ⟨g7, k, none⟩ = some (.string mk)) (by kernel_rfl) ⟨a0, a1, hck⟩ (fun hHeld => ?_)
  refine tk0 (v := ?_) (by kernel_rfl) (by kernel_rfl) (by kernel_rfl) (by first | exact fun _ _ _ h => h | exact fun _ _ _ h => absurd h.1 (by simp)) (Or.inl ⟨by rfl, ?_⟩) (by assumption) ?_
  rotate_left 1
  focus (intro wx hSw; (try dsimp only at hSw); go_simp; try (with_reducible rfl))
  try simp only [Act.put, List.setIfInBounds_toArray, List.set_cons_zero, List.set_cons_succ]
  refine tk1 (v := ?_) (by kernel_rfl) (by kernel_rfl) (by kernel_rfl) (by first | exact fun _ _ _ h => h | exact fun _ _ _ h => absurd h.1 (by simp)) (Or.inl ⟨by rfl, ?_⟩) (by assumption) ?_
  rotate_left 1
  focus (intro wx hSw; (try dsimp only at hSw); go_simp; try (with_reducible rfl))
  try simp only [Act.put, List.setIfInBounds_toArray, List.set_cons_zero, List.set_cons_succ]
  refine tk2 (v := ?_) (by kernel_rfl) (by kernel_rfl) (by kernel_rfl) (by first | exact fun _ _ _ h => h | exact fun _ _ _ h => absurd h.1 (by simp)) (Or.inl ⟨by rfl, ?_⟩) (by assumption) ?_
  rotate_left 1
  focus (intro wx hSw; (try dsimp only at hSw); go_simp; try (with_reducible rfl))
  try simp only [Act.put, List.setIfInBounds_toArray, List.set_cons_zero, List.set_cons_succ]
  refine tk3 (v := ?_) (by kernel_rfl) (by kernel_rfl) (by kernel_rfl) (by first | exact fun _ _ _ h => h | exact fun _ _ _ h => absurd h.1 (by simp)) (Or.inl ⟨by rfl, ?_⟩) (by assumption) ?_
  rotate_left 1
  focus (intro wx hSw; (try dsimp only at hSw); go_simp; try (with_reducible rfl))
  try simp only [Act.put, List.setIfInBounds_toArray, List.set_cons_zero, List.set_cons_succ]
  refine tk4 (v := ?_) (by kernel_rfl) (by kernel_rfl) (by kernel_rfl) (by first | exact fun _ _ _ h => h | exact fun _ _ _ h => absurd h.1 (by simp)) (Or.inl ⟨by rfl, ?_⟩) (by assumption) ?_
  rotate_left 1
  focus (intro wx hSw; (try dsimp only at hSw); go_simp; try (with_reducible rfl))
  try simp only [Act.put, List.setIfInBounds_toArray, List.set_cons_zero, List.set_cons_succ]
  refine tk5 (v := ?_) (by kernel_rfl) (by kernel_rfl) (by kernel_rfl) (by first | exact fun _ _ _ h => h | exact fun _ _ _ h => absurd h.1 (by simp)) (Or.inl ⟨by rfl, ?_⟩) (by assumption) ?_
  rotate_left 1
  focus (intro wx hSw; (try dsimp only at hSw); go_simp; try (with_reducible rfl))
  try simp only [Act.put, List.setIfInBounds_toArray, List.set_cons_zero, List.set_cons_succ]
  refine rd6 (by kernel_rfl) (fun K hK => ?_)
  go_simp
  have hdr : Below wi.heap.size wi wi.drew := (Below.refl _ _).drew
  have a0 := cell_carry a0 (Carries.of 0 hdr)
  have a1 := cell_carry a1 (Carries.of 0 hdr)
  have hck := cell_carry hck (Carries.of 0 hdr)
  generalize wi.drew = wd at hdr a0 a1 hck ⊢
  refine (l1Fire_any _ n mk t2 wd lo (HV.out.keep (Carries.of lo (HBW.out.trans (hdr.mono HBW.out.size)))) HS.out HT2.out (HIN.out mk HKM.out t2 HT2.out).1 (HIN.out mk HKM.out t2 HT2.out).2.1 (HIN.out mk HKM.out t2 HT2.out).2.2 (by have := HSZ.out mk HKM.out; omega)).mono ?_
  rintro e w1 ⟨rfl, hb1⟩
  have hb2 := hdr.trans (hb1.mono hdr.size)
  have a0 := cell_carry a0 (Carries.of 0 hb1)
  have a1 := cell_carry a1 (Carries.of 0 hb1)
  have hck := cell_carry hck (Carries.of 0 hb1)
  have HR1 := Lib.hid (show SRow (w.heap.size + 1) w1 (.slice (some ⟨g7, 0, none⟩) s.ms.length c7') s.ms from owns_after HRW.out hb2)
  have HI1 := Lib.hid (owns_after HIL.out hb2)
  have HB1 := Lib.hid (HBW.out.trans (hb2.mono HBW.out.size))
  have z1 : w.heap.size + 1 ≤ w1.heap.size := Nat.le_trans hzz hb2.size
  obtain ⟨FO, hFO⟩ : ∃ q, q = exOk n mk t2 := ⟨_, rfl⟩
  have hpo : postB (restB mk (n.ts.getD t2 ([], []))) (n.ts.getD t2 ([], [])).2 = FO := by rw [hFO]; rfl
  rw [hpo]
  obtain ⟨FM, hFM⟩ : ∃ q, q = bstr (fired mk (n.ts.getD t2 ([], []))) := ⟨_, rfl⟩
  rw [← hFM]
  have HFO := Lib.hid hFO; have HFM := Lib.hid hFM
  clear hpo hFO hFM hdr hb1 hb2 HRW HIL HBW
  refine hK.out _ _ ⟨a0, a1, hck⟩ (fun hHeld => ?_)
  clear hK K
  try simp only [Act.put, List.setIfInBounds_toArray, List.set_cons_zero, List.set_cons_succ]
  refine tk7 (v := ?_) (by kernel_rfl) (by kernel_rfl) (by kernel_rfl) (by first | exact fun _ _ _ h => h | exact fun _ _ _ h => absurd h.1 (by simp)) (Or.inl ⟨by rfl, ?_⟩) (by assumption) ?_
  rotate_left 1
  focus (intro wx hSw; (try dsimp only at hSw); go_simp; try (with_reducible rfl))
  try simp only [Act.put, List.setIfInBounds_toArray, List.set_cons_zero, List.set_cons_succ]
  refine tk8 (v := ?_) (by kernel_rfl) (by kernel_rfl) (by kernel_rfl) (by first | exact fun _ _ _ h => h | exact fun _ _ _ h => absurd h.1 (by simp)) (Or.inl ⟨by rfl, ?_⟩) (by assumption) ?_
  rotate_left 1
  focus (intro wx hSw; (try dsimp only at hSw); go_simp; try (with_reducible rfl))
  try simp only [Act.put, List.setIfInBounds_toArray, List.set_cons_zero, List.set_cons_succ]
  refine tk9 (v := ?_) (by kernel_rfl) (by kernel_rfl) (by kernel_rfl) (by first | exact fun _ _ _ h => h | exact fun _ _ _ h => absurd h.1 (by simp)) (Or.inl ⟨by rfl, ?_⟩) (by assumption) ?_
  rotate_left 1
  focus (intro wx hSw; (try dsimp only at hSw); go_simp; try (with_reducible rfl))
  try simp only [Act.put, List.setIfInBounds_toArray, List.set_cons_zero, List.set_cons_succ]
  refine tk10 (v := ?_) (by kernel_rfl) (by kernel_rfl) (by kernel_rfl) (by first | exact fun _ _ _ h => h | exact fun _ _ _ h => absurd h.1 (by simp)) (Or.inl ⟨by rfl, ?_⟩) (by assumption) ?_
  rotate_left 1
  focus (intro wx hSw; (try dsimp only at hSw); go_simp; try (with_reducible rfl))
  try simp only [Act.put, List.setIfInBounds_toArray, List.set_cons_zero, List.set_cons_succ]
  refine tk11 (v := ?_) (by kernel_rfl) (by kernel_rfl) (by kernel_rfl) (by first | exact fun _ _ _ h => h | exact fun _ _ _ h => absurd h.1 (by simp)) (Or.inl ⟨by rfl, ?_⟩) (by assumption) ?_
  rotate_left 1
  focus (intro wx hSw; (try dsimp only at hSw); go_simp; try (with_reducible rfl))
  try simp only [Act.put, List.setIfInBounds_toArray, List.set_cons_zero, List.set_cons_succ]
  refine wpAnyH_done (by kernel_rfl) ?_ _
  clear hck hHeld
  cases FO with
  | false =>
    have HFN := Lib.hid (HFI.out _ _ (ex_bad HSK.out HKS.out HT2.out HRD.out (by rw [HSM.out]; exact HFO.out.symm)) rfl)
    go_wp2_with fail
    go_ret3
    exact ⟨HB1.out, Or.inr (Or.inl ⟨k, t2, s, HFN.out, rfl⟩)⟩
  | true =>
  have hFMe : FM = exNext n (stN s.ms k) t2 := by rw [HFM.out, HSM.out]; exact fired_ex HFO.out.symm
  have hfire := ex_fire HSK.out HKS.out HT2.out HRD.out (by rw [HSM.out]; exact HFO.out.symm) (Or.inl rfl)
  rw [← hFMe] at hfire
  have HFR := Lib.hid hfire
  clear hfire hFMe
  go_wp2_with fail
  refine (l1HasS_any _ s.ms FM w1 (w.heap.size + 1) (by have h := HR1.out.at; rw [← HN.out] at h; exact h) (by rw [← HN.out]; omega)).mono ?_
  rintro e w2 ⟨rfl, hb2⟩
  have a0 := cell_carry a0 (Carries.of 0 hb2)
  have a1 := cell_carry a1 (Carries.of 0 hb2)
  have HR2 := Lib.hid (show SRow (w.heap.size + 1) w2 (.slice (some ⟨g7, 0, none⟩) s.ms.length c7') s.ms from owns_after HR1.out hb2)
  have HI2 := Lib.hid (owns_after HI1.out hb2)
  have HB2 := Lib.hid (HB1.out.trans (hb2.mono HB1.out.size))
  have z2 : w.heap.size + 1 ≤ w2.heap.size := Nat.le_trans z1 hb2.size
  clear hb2 HR1 HI1 HB1
  by_cases hfi : findN s.ms FM < s.ms.length
  · have hme : exMs s.ms FM = s.ms := by unfold exMs; rw [if_pos hfi]
    have hks2 : k < (exAdd s k t2 FM).ms.length := by show k < (exMs s.ms FM).length; rw [hme]; exact HKS.out
    have hsm2 : stN (exAdd s k t2 FM).ms k = mk := by show stN (exMs s.ms FM) k = mk; rw [hme]; exact HSM.out
    have hrw2 : SRow (w.heap.size + 1) w2 (.slice (some ⟨g7, 0, none⟩) N c7') (exAdd s k t2 FM).ms := by
      show SRow _ _ _ (exMs s.ms FM)
      rw [hme, HN.out]; exact HR2.out
    have HK2 := Lib.hid hks2; have HS2 := Lib.hid hsm2; have HW2 := Lib.hid hrw2
    rw [decide_eq_true hfi]
    clear hme hks2 hsm2 hrw2 hfi
    go_wp2_with fail
    go_roundw
    case rel => exact ⟨_, t2 + 1, j + 1, _, HFR.out, HS2.out, HK2.out, by go_num, by omega, HL2.out, by omega, HW2, HI2, a0, a1, HB2.out, z2⟩
    case measure => simp [intOf]; omega
  · have hme : exMs s.ms FM = s.ms ++ [FM] := by unfold exMs; rw [if_neg hfi]
    have HME := Lib.hid hme
    rw [decide_eq_false hfi]
    clear hme hfi
    have hal : Below w2.heap.size w2 (w2.alloc (.cells #[.string FM] 9)) := (Below.refl _ _).alloc (Nat.le_refl _) _
    have HAL := Lib.hid hal
    have hn0 : (w2.alloc (.cells #[.string FM] 9)).cell? ⟨w2.heap.size, 0, none⟩ = some (.string FM) := by simp
    have hro : SRow (w.heap.size + 1) (w2.alloc (.cells #[.string FM] 9)) (.slice (some ⟨g7, 0, none⟩) N c7') s.ms := by rw [HN.out]; exact owns_after HR2.out hal
    have hbs : w.heap.size + 1 ≤ (w2.alloc (.cells #[.string FM] 9)).heap.size := by simp; omega
    have HRO := Lib.hid hro
    have hN30 : s.ms.length ≤ 1073741824 := by rw [← HN.out]; omega
    clear hal hro
    go_wp2_with (refine wpList_append_tx rfl _ _ rfl (w.heap.size + 1) (.slice (some ⟨g7, 0, none⟩) N c7') s.ms rfl HRO.out w2.heap.size FM rfl hn0 hN30 hbs ?_; intro g8 c8 w3 hro3 hgr)
    have hgb := own_baseT HRO.out g7 rfl
    have hne : some w.heap.size ≠ (Value.slice (some ⟨g7, 0, none⟩) N c7').ownBlock := by
      intro e
      simp only [Value.ownBlock, Option.some.injEq] at e
      omega
    have a0 := hgr.cell (cell_carry a0 (Carries.of 0 HAL.out)) hne
    have a1 := hgr.cell (cell_carry a1 (Carries.of 0 HAL.out)) hne
    have hi3 := owns_after HI2.out HAL.out
    have hi4 := hi3.kept hgr (rows_apartT hi3 HRO.out (by decide))
    have hb3 := (HB2.out.trans (HAL.out.mono HB2.out.size)).grown hgr (by simp; omega) (fun j hj => by have := own_baseT HRO.out j hj; omega)
    have z3 : w.heap.size + 1 ≤ w3.heap.size := Nat.le_trans hbs hgr.size
    have hks2 : k < (exAdd s k t2 FM).ms.length := by
      show k < (exMs s.ms FM).length
      rw [HME.out, List.length_append]
      have := HKS.out
      omega
    have hsm2 : stN (exAdd s k t2 FM).ms k = mk := by
      show stN (exMs s.ms FM) k = mk
      rw [exMs_old HKS.out]; exact HSM.out
    have hrw2 : SRow (w.heap.size + 1) w3 (.slice (some ⟨g8, 0, none⟩) (s.ms.length + 1) c8) (exAdd s k t2 FM).ms := by
      show SRow _ _ _ (exMs s.ms FM)
      rw [HME.out]; exact hro3
    go_roundw
    case rel => exact ⟨_, t2 + 1, j + 1, _, HFR.out, hsm2, hks2, by go_num, by omega, HL2.out, by omega, hrw2, hi4, a0, a1, hb3, z3⟩
    case measure => simp [intOf]; omega

end Go.Proofs.Ytigkgfdnnfmmmaa
