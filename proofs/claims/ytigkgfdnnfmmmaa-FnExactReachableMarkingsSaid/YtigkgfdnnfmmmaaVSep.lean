/- WALKS: markNet on a net whose lists lie apart, heldTransitionS, heldNet: what was marked is held. -/
import Derived.Test.YtigkgfdnnfmmmaaVMk
namespace Go.Proofs.Ytigkgfdnnfmmmaa
open Go.RowKit

theorem Marks.cell {lo hi : Nat} {w w' : World} {a : Addr} {v : Value} (h : Marks lo hi w w') (ha : a.block < lo ∨ hi ≤ a.block) (hc : w.cell? a = some v) : w'.cell? a = some v :=
  (World.cell?_of_block (h.block a.block ha)).trans hc

/-- the blocks of a slice's ints lie before hi -/
def Bound (hi : Nat) (v : Value) : Prop := ∀ b off len cap, v = .slice (some ⟨b, off, none⟩) len cap → 0 < len → b < hi
theorem IntsAt.bound {lo : Nat} {w : World} {v : Value} {zs : List Int} (h : IntsAt lo w v zs) : Bound w.heap.size v := by
  intro b off len cap hv hl
  obtain ⟨ao, cp, rfl, _, hz⟩ := h
  injection hv with h1 h2 h3
  rcases hz with rfl | ⟨b', off', ha, hlo, hcell⟩
  · simp at h2; omega
  · rw [ha] at h1
    injection h1 with h1
    injection h1 with h1 h4 h5
    have := cell_old (hcell 0 (by omega))
    simp at this
    omega
def IntsIn (lo hi : Nat) (w : World) (v : Value) (zs : List Int) : Prop := IntsAt lo w v zs ∧ Bound hi v
theorem IntsIn.keep {lo hi : Nat} {w w' : World} {v : Value} {zs : List Int} (h : IntsIn lo hi w v zs) (hc : Carries lo w w') : IntsIn lo hi w' v zs := ⟨h.1.keep hc, h.2⟩
theorem IntsIn.marks {lo hi l k : Nat} {w w' : World} {v : Value} {zs : List Int} (h : IntsIn lo hi w v zs) (hm : Marks l k w w') (hl : hi ≤ l) : IntsIn lo hi w' v zs := by
  obtain ⟨⟨ao, cap, rfl, hc, hz⟩, hB⟩ := h
  refine ⟨⟨ao, cap, rfl, hc, ?_⟩, hB⟩
  rcases hz with hz | ⟨b, off, rfl, hlo, hcell⟩
  · exact Or.inl hz
  · exact Or.inr ⟨b, off, rfl, hlo, fun i hi => hm.cell (Or.inl (by have := hB b off _ _ rfl (by omega); simp; omega)) (hcell i hi)⟩
theorem IntsOw.above {lo l k : Nat} {w w' : World} {v : Value} {zs : List Int} (h : IntsOw lo w v zs) (hm : Marks l k w w') (hl : k ≤ lo) : IntsOw lo w' v zs :=
  h.keep ⟨by rw [hm.size]; exact Nat.le_refl _, fun b hb _ => hm.block b (Or.inr (by omega))⟩
theorem IntsOw.marked {lo : Nat} {w w' : World} {v : Value} {zs : List Int} {k : Int} (h : IntsOw lo w v zs) (hex : ∀ b off c, v = .slice (some ⟨b, off, none⟩) zs.length c → ∀ i, i < zs.length → w'.cell? ⟨b, off + i, none⟩ = some (.int .i64 (k + i))) : IntsAt lo w' v (upFrom k zs.length) := by
  obtain ⟨ao, cap, rfl, hc, hz⟩ := h
  refine ⟨ao, cap, by rw [upFrom_length], by rw [upFrom_length]; exact hc, ?_⟩
  rcases hz with rfl | ⟨b, off, rfl, hlo, hcell⟩
  · exact Or.inl rfl
  · refine Or.inr ⟨b, off, rfl, hlo, fun i hi => ?_⟩
    rw [upFrom_length] at hi
    rw [hex b off cap rfl i hi, upFrom_get hi]

/-- the box of a slice whose blocks lie before hi -/
theorem IntsOw.boxIn {lo hi : Nat} {w : World} {v : Value} {zs : List Int} (h : IntsOw lo w v zs) (hB : Bound hi v) : BoxAt lo hi w v zs.length := by
  obtain ⟨ao, cap, rfl, hc, hz⟩ := h
  refine ⟨ao, cap, rfl, ?_⟩
  rcases hz with rfl | ⟨b, off, rfl, hlo, hcell⟩
  · exact Or.inl rfl
  · by_cases h0 : zs.length = 0
    · exact Or.inl h0
    · exact Or.inr ⟨b, off, rfl, hlo, hB b off _ _ rfl (by omega), fun i hi => ⟨⟨_, (hcell i hi).1⟩, (hcell i hi).2⟩⟩

/-- what the lists hold behind the marks -/
def markedOf (k : Int) (ts : List Tr) (i : Nat) : Tr :=
  (upFrom (k + (totTo ts i : Nat)) (ts.getD i ([], [])).1.length, upFrom (k + (totTo ts i + (ts.getD i ([], [])).1.length : Nat)) (ts.getD i ([], [])).2.length)
def markedTs (k : Int) (ts : List Tr) : List Tr := (List.range ts.length).map (markedOf k ts)
theorem markedTs_length (k : Int) (ts : List Tr) : (markedTs k ts).length = ts.length := by simp [markedTs]
theorem markedTs_get {k : Int} {ts : List Tr} {i : Nat} (h : i < ts.length) : (markedTs k ts).getD i ([], []) = markedOf k ts i := by simp [markedTs, List.getD, h]

/-- transitions whose lists lie apart, each between two of the numbers c, and may be written -/
def TrsSep (c : Nat → Nat) (w : World) (v : Value) (ts : List Tr) : Prop :=
  (∀ i, c i ≤ c (i + 1)) ∧ ∃ (ao : Option Addr) (cap : Nat), v = .slice ao ts.length cap ∧ ts.length ≤ cap ∧
    (ts = [] ∨ ∃ b off, ao = some ⟨b, off, none⟩ ∧ ∀ i, i < ts.length → ∃ v0 v1, w.cell? ⟨b, off + i * 2, none⟩ = some v0 ∧ w.cell? ⟨b, off + i * 2 + 1, none⟩ = some v1 ∧
      (IntsOw (c (2 * i)) w v0 (ts.getD i ([], [])).1 ∧ Bound (c (2 * i + 1)) v0) ∧ IntsOw (c (2 * i + 1)) w v1 (ts.getD i ([], [])).2 ∧ Bound (c (2 * i + 2)) v1)
theorem mono_le {c : Nat → Nat} (h : ∀ i, c i ≤ c (i + 1)) : ∀ {i j : Nat}, i ≤ j → c i ≤ c j := by
  intro i j hij
  induction j with
  | zero => rw [Nat.le_zero.1 hij]; exact Nat.le_refl _
  | succ j ih =>
    rcases Nat.lt_or_ge i (j + 1) with h1 | h1
    · exact Nat.le_trans (ih (by omega)) (h j)
    · rw [Nat.le_antisymm hij h1]; exact Nat.le_refl _

theorem TrsSep.keep {c : Nat → Nat} {w w' : World} {v : Value} {ts : List Tr} (h : TrsSep c w v ts) (hb : Below w.heap.size w w') : TrsSep c w' v ts := by
  obtain ⟨hc, ao, cap, hv, hcap, hz⟩ := h
  refine ⟨hc, ao, cap, hv, hcap, ?_⟩
  rcases hz with hz | ⟨b, off, ha, hcell⟩
  · exact Or.inl hz
  · refine Or.inr ⟨b, off, ha, fun i hi => ?_⟩
    obtain ⟨v0, v1, c0, c1, ⟨h0, b0⟩, h1, b1⟩ := hcell i hi
    exact ⟨v0, v1, cell_carry c0 (Carries.of 0 hb), cell_carry c1 (Carries.of 0 hb), ⟨h0.keep (Same.of _ hb), b0⟩, h1.keep (Same.of _ hb), b1⟩

/-- the first j transitions' lists hold their marks -/
def HeldTo (c : Nat → Nat) (b off : Nat) (w : World) (k : Int) (ts : List Tr) (j : Nat) : Prop :=
  ∀ i, i < j → ∃ v0 v1, w.cell? ⟨b, off + i * 2, none⟩ = some v0 ∧ w.cell? ⟨b, off + i * 2 + 1, none⟩ = some v1 ∧ IntsIn (c 0) (c (2 * i + 1)) w v0 (markedOf k ts i).1 ∧ IntsIn (c 0) (c (2 * i + 2)) w v1 (markedOf k ts i).2
theorem IntsIn.slice {lo hi : Nat} {w : World} {v : Value} {zs : List Int} (h : IntsIn lo hi w v zs) : ∃ ao cap, v = .slice ao zs.length cap := by
  obtain ⟨⟨ao, cap, rfl, _⟩, _⟩ := h
  exact ⟨_, _, rfl⟩
theorem HeldTo.marks {c : Nat → Nat} {b off j l h : Nat} {w w' : World} {k : Int} {ts : List Tr} (hh : HeldTo c b off w k ts j) (hm : Marks l h w w') (hc : ∀ i, c i ≤ c (i + 1)) (hl : c (2 * j) ≤ l) : HeldTo c b off w' k ts j := by
  intro i hi
  obtain ⟨v0, v1, c0, c1, h0, h1⟩ := hh i hi
  obtain ⟨a0, k0, rfl⟩ := h0.slice
  obtain ⟨a1, k1, rfl⟩ := h1.slice
  have m1 : c (2 * i + 1) ≤ c (2 * j) := mono_le hc (by omega)
  have m2 : c (2 * i + 2) ≤ c (2 * j) := mono_le hc (by omega)
  exact ⟨_, _, hm.slice _ _ _ _ c0, hm.slice _ _ _ _ c1, h0.marks hm (by omega), h1.marks hm (by omega)⟩

/-- the marks are written, and read so -/
def RetMarkS (c : Nat → Nat) (w : World) (v : Value) (k : Int) (ts : List Tr) (e : Ending) (w' : World) : Prop :=
  e = .returned (.int .i64 (k + (totTo ts ts.length : Nat))) ∧ Marks (c 0) (c (2 * ts.length)) w w' ∧ TrsAt 0 w' v (markedTs k ts)

set_option maxHeartbeats 2000000 in
theorem markTransitionS_sep (c : Nat → Nat) (v : Value) (ts : List Tr) (k : Int) (w : World) (hv : TrsSep c w v ts) (hs : SmallTrs ts) (h0 : 0 ≤ k) (h1 : k ≤ 1048577) :
    Calls Try.prog 68 #[v, .int .i64 k] w (RetMarkS c w v k ts) := by
  obtain ⟨hc, ao, cap, rfl, hcap, hz⟩ := hv
  have HC := Lib.hid hc
  have HF := Lib.hid hz; clear hz
  have HT := Lib.hid (totTo_le hs)
  obtain ⟨hn, hsl⟩ := hs
  have HS := Lib.hid hsl; clear hsl
  obtain ⟨T, hT⟩ : ∃ T, T = totTo ts := ⟨_, rfl⟩
  have hTs : ∀ j, T (j + 1) = T j + (ts.getD j ([], [])).1.length + (ts.getD j ([], [])).2.length := fun j => by rw [hT]; rfl
  have hT0 : T 0 = 0 := by rw [hT]; rfl
  have hM : ∀ i, markedOf k ts i = (upFrom (k + (T i : Nat)) (ts.getD i ([], [])).1.length, upFrom (k + (T i + (ts.getD i ([], [])).1.length : Nat)) (ts.getD i ([], [])).2.length) := fun i => by rw [hT]; rfl
  have HMO := Lib.hid hM; clear hM
  unfold RetMarkS
  rw [← hT] at HT ⊢
  have HTS := Lib.hid hTs; clear hTs hT
  go_enter Try.func68, Try.ntmps68
  go_wp2_with fail
  go_loopw [1, 5] (fun kv i wr => ∃ j : Nat, j ≤ ts.length ∧ i = .int .i64 j ∧ kv = .int .i64 (k + (T j : Nat)) ∧ Marks (c 0) (c (2 * j)) w wr ∧ Hid (∀ b off, ao = some ⟨b, off, none⟩ → HeldTo c b off wr k ts j)) (fun _ i _ => ts.length - (intOf i).toNat)
  case atStart => exact ⟨0, Nat.zero_le _, rfl, by simp [hT0], Marks.refl _ _ _, fun _ _ _ i hi => absurd hi (Nat.not_lt_zero _)⟩
  case round =>
    obtain ⟨j, hj, rfl, rfl, hm, hheld⟩ := hrel
    by_cases hlt : j < ts.length
    · rcases HF.out with rfl | ⟨b, off, rfl, hcell⟩
      · simp at hlt
      obtain ⟨x0, x1, c0, c1, ⟨hx0, by0⟩, hx1, by1⟩ := hcell j hlt
      have s1 := HS.out j hlt
      have tj := HT.out j hj
      have tj1 := HTS.out j
      have mo := HMO.out j
      obtain ⟨X, hX⟩ : ∃ X, X = ts.getD j ([], []) := ⟨_, rfl⟩
      rw [← hX] at hx0 hx1 s1 tj1 mo
      obtain ⟨s1, s2⟩ := s1
      have l1 : c (2 * j) ≤ c (2 * j + 1) := HC.out _
      have l2 : c (2 * j + 1) ≤ c (2 * j + 2) := HC.out _
      have l0 : c 0 ≤ c (2 * j) := mono_le HC.out (by omega)
      have y0 := hx0.above hm (Nat.le_refl _)
      have y1 := hx1.above hm l1
      have B0 := Lib.hid (y0.boxIn by0)
      have Y0 := Lib.hid y0
      have Y1 := Lib.hid y1
      have BY0 := Lib.hid by0
      have BY1 := Lib.hid by1
      obtain ⟨p0, q0, rfl, _, _⟩ := hx0
      obtain ⟨p1, q1, rfl, _, _⟩ := hx1
      have d0 := hm.slice _ _ _ _ c0
      have d1 := hm.slice _ _ _ _ c1
      have HH := Lib.hid (hheld.out b off rfl); clear hheld
      have MO := Lib.hid mo; clear mo
      clear hcell c0 c1 hX y0 y1 by0 by1
      have MM := Lib.hid hm; clear hm
      go_wp2_with fail
      refine (markIntS_any _ X.1.length _ _ (c (2 * j)) (c (2 * j + 1)) B0.out s1 (by omega) (by omega)).mono ?_
      rintro e w1 ⟨rfl, hm1, hex1⟩
      have e0 := hm1.slice _ _ _ _ d0
      have e1 := hm1.slice _ _ _ _ d1
      have R0 := Lib.hid (IntsOw.marked Y0.out hex1)
      have y2 := Y1.out.above hm1 (Nat.le_refl _)
      have B2 := Lib.hid (y2.boxIn BY1.out)
      have Y2 := Lib.hid y2
      have HH1 := Lib.hid (HH.out.marks hm1 HC.out (Nat.le_refl _))
      have MM1 := Lib.hid ((MM.out.wide (Nat.le_refl _) l1).trans (hm1.wide l0 (Nat.le_refl _)))
      clear hm1 hex1 d0 d1 y2
      go_wp2_with fail
      refine (markIntS_any _ X.2.length _ _ (c (2 * j + 1)) (c (2 * j + 2)) B2.out s2 (by omega) (by omega)).mono ?_
      rintro e w2 ⟨rfl, hm2, hex2⟩
      have f0 := hm2.slice _ _ _ _ e0
      have f1 := hm2.slice _ _ _ _ e1
      have R1 := IntsOw.marked Y2.out hex2
      have R2 := (IntsIn.marks ⟨R0.out, BY0.out⟩ hm2 (Nat.le_refl _))
      have HH2 := HH1.out.marks hm2 HC.out l1
      have MM2 := Lib.hid ((MM1.out.wide (Nat.le_refl _) l2).trans (hm2.wide (Nat.le_trans l0 l1) (Nat.le_refl _)))
      have HF2 : Hid (∀ b' off', some (⟨b, off, none⟩ : Addr) = some ⟨b', off', none⟩ → HeldTo c b' off' w2 k ts (j + 1)) := by
        intro b' off' he
        obtain ⟨rfl, rfl⟩ : b = b' ∧ off = off' := by simpa using he
        intro i hi
        by_cases e : i = j
        · subst e
          refine ⟨_, _, f0, f1, ?_, ?_⟩
          · rw [MO.out]
            exact ⟨R2.1.low l0, R2.2⟩
          · rw [MO.out]
            refine ⟨?_, BY1.out⟩
            have := R1.low (Nat.le_trans l0 l1)
            rw [show (k + (T i + X.1.length : Nat) : Int) = k + (T i : Nat) + (X.1.length : Nat) by rw [Int.natCast_add, Int.add_assoc]]
            exact this
        · exact HH2 i (by omega)
      clear hm2 hex2 e0 e1 f0 f1 R1 R2 HH2
      go_wp2_with fail
      go_roundw
      case rel => exact ⟨j + 1, by omega, by go_num, by simp [tj1, Int.add_assoc], MM2.out, HF2.out⟩
      case measure => simp [intOf]; omega
    · have hjj : j = ts.length := by omega
      subst hjj
      have HH := Lib.hid hheld.out; clear hheld
      go_wp2_with fail
      go_ret
      refine ⟨rfl, hm, ao, cap, by rw [markedTs_length], by rw [markedTs_length]; exact hcap, ?_⟩
      rcases HF.out with rfl | ⟨b, off, rfl, hcell⟩
      · exact Or.inl rfl
      · refine Or.inr ⟨b, off, rfl, Nat.zero_le _, fun i hi => ?_⟩
        rw [markedTs_length] at hi
        obtain ⟨v0, v1, c0, c1, q0, q1⟩ := HH.out b off rfl i hi
        rw [markedTs_get hi]
        exact ⟨v0, v1, c0, c1, q0.1.low (Nat.zero_le _), q1.1.low (Nat.zero_le _)⟩

set_option maxHeartbeats 400000 in
theorem markNet_sep (p : Int) (c : Nat → Nat) (v : Value) (ts : List Tr) (k : Int) (w : World) (hv : TrsSep c w v ts) (hs : SmallTrs ts) (h0 : 0 ≤ k) (h1 : k ≤ 1048577) :
    Calls Try.prog 32 #[.agg #[.int .i64 p, v], .int .i64 k] w (fun e w' => ∃ wa, e = .returned (.int .i64 (k + (totTo ts ts.length : Nat))) ∧ Below w.heap.size w wa ∧ Marks (c 0) (c (2 * ts.length)) wa w' ∧ TrsAt 0 w' v (markedTs k ts)) := by
  have HV := Lib.hid hv
  obtain ⟨_, ao, cap, rfl, _, _⟩ := hv
  go_enter Try.func32, Try.ntmps32
  go_wp2_with fail
  refine (markTransitionS_sep c _ ts k _ (HV.out.keep ((Below.refl _ _).alloc (Nat.le_refl _) _)) hs h0 h1).mono ?_
  rintro e w1 ⟨rfl, hm, hr⟩
  have HR := Lib.hid hr; clear hr
  go_wp2_with fail
  go_ret
  exact ⟨_, rfl, (Below.refl _ _).alloc (Nat.le_refl _) _, hm, HR.out⟩

end Go.Proofs.Ytigkgfdnnfmmmaa
