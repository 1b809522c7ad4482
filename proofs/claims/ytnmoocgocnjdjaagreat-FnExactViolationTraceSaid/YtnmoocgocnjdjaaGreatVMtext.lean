/- WALKS: markNet on a net whose lists lie apart, heldTransitionS, heldNet: what was marked is held.
   PLAIN PART: blocks that may have changed (Stir); pairs of cells that may be written (PairBox). No program is named here.
   WALKS: toSignal, toSignalS, toLabel, toLabelS of the laws.
   WALKS: szSignal, szSignalS, szLabelS, eqSignal, eqSignalS, eqLabel, eqLabelS of the laws.
   WALKS: toSTG, szSTG, eqSTG of the laws.
   WALK: markText answers some string. What may be stirred: blocks from lo on, before hi. -/
import Derived.Test.YtnmoocgocnjdjaaGreatVMk
import Derived.Test.YtnmoocgocnjdjaaGreatVSigas
import Derived.Test.YtnmoocgocnjdjaaGreatVNetc
import Derived.Test.YtnmoocgocnjdjaaGreatVRgbt
import Derived.Laws.BytesString
namespace Go.Proofs.YtnmoocgocnjdjaaGreat
open Go.RowKit

theorem Marks.cell {lo hi : Nat} {w w' : World} {a : Addr} {v : Value} (h : Marks lo hi w w') (ha : a.block < lo ∨ hi ≤ a.block) (hc : w.cell? a = some v) : w'.cell? a = some v :=
  (World.cell?_of_block (h.block a.block ha)).trans hc

/-- the blocks of a slice's ints lie before hi -/
def Bound (hi : Nat) (v : Value) : Prop := ∀ b off len cap, v = .slice (some ⟨b, off, none⟩) len cap → 0 < len → b < hi
theorem IntsAt.bound {lo : Nat} {w : World} {v : Value} {zs : List Int} (h : IntsAt lo w v zs) : Bound w.heap.size v := by
  intro b off len cap hv hl
  obtain ⟨ao, cp, rfl, _, hz⟩ := h
  injection hv with h1 h2 h3
  rcases hz with rfl | ⟨b', off', ha, hlo, hcell⟩
  · simp at h2; omega
  · rw [ha] at h1
    injection h1 with h1
    injection h1 with h1 h4 h5
    have := cell_old (hcell 0 (by omega))
    simp at this
    omega
def IntsIn (lo hi : Nat) (w : World) (v : Value) (zs : List Int) : Prop := IntsAt lo w v zs ∧ Bound hi v
theorem IntsIn.keep {lo hi : Nat} {w w' : World} {v : Value} {zs : List Int} (h : IntsIn lo hi w v zs) (hc : Carries lo w w') : IntsIn lo hi w' v zs := ⟨h.1.keep hc, h.2⟩
theorem IntsIn.marks {lo hi l k : Nat} {w w' : World} {v : Value} {zs : List Int} (h : IntsIn lo hi w v zs) (hm : Marks l k w w') (hl : hi ≤ l) : IntsIn lo hi w' v zs := by
  obtain ⟨⟨ao, cap, rfl, hc, hz⟩, hB⟩ := h
  refine ⟨⟨ao, cap, rfl, hc, ?_⟩, hB⟩
  rcases hz with hz | ⟨b, off, rfl, hlo, hcell⟩
  · exact Or.inl hz
  · exact Or.inr ⟨b, off, rfl, hlo, fun i hi => hm.cell (Or.inl (by have := hB b off _ _ rfl (by omega); simp; omega)) (hcell i hi)⟩
theorem IntsOw.above {lo l k : Nat} {w w' : World} {v : Value} {zs : List Int} (h : IntsOw lo w v zs) (hm : Marks l k w w') (hl : k ≤ lo) : IntsOw lo w' v zs :=
  h.keep ⟨by rw [hm.size]; exact Nat.le_refl _, fun b hb _ => hm.block b (Or.inr (by omega))⟩
theorem IntsOw.marked {lo : Nat} {w w' : World} {v : Value} {zs : List Int} {k : Int} (h : IntsOw lo w v zs) (hex : ∀ b off c, v = .slice (some ⟨b, off, none⟩) zs.length c → ∀ i, i < zs.length → w'.cell? ⟨b, off + i, none⟩ = some (.int .i64 (k + i))) : IntsAt lo w' v (upFrom k zs.length) := by
  obtain ⟨ao, cap, rfl, hc, hz⟩ := h
  refine ⟨ao, cap, by rw [upFrom_length], by rw [upFrom_length]; exact hc, ?_⟩
  rcases hz with rfl | ⟨b, off, rfl, hlo, hcell⟩
  · exact Or.inl rfl
  · refine Or.inr ⟨b, off, rfl, hlo, fun i hi => ?_⟩
    rw [upFrom_length] at hi
    rw [hex b off cap rfl i hi, upFrom_get hi]

/-- the box of a slice whose blocks lie before hi -/
theorem IntsOw.boxIn {lo hi : Nat} {w : World} {v : Value} {zs : List Int} (h : IntsOw lo w v zs) (hB : Bound hi v) : BoxAt lo hi w v zs.length := by
  obtain ⟨ao, cap, rfl, hc, hz⟩ := h
  refine ⟨ao, cap, rfl, ?_⟩
  rcases hz with rfl | ⟨b, off, rfl, hlo, hcell⟩
  · exact Or.inl rfl
  · by_cases h0 : zs.length = 0
    · exact Or.inl h0
    · exact Or.inr ⟨b, off, rfl, hlo, hB b off _ _ rfl (by omega), fun i hi => ⟨⟨_, (hcell i hi).1⟩, (hcell i hi).2⟩⟩

/-- what the lists hold behind the marks -/
def markedOf (k : Int) (ts : List Tr) (i : Nat) : Tr :=
  (upFrom (k + (totTo ts i : Nat)) (ts.getD i ([], [])).1.length, upFrom (k + (totTo ts i + (ts.getD i ([], [])).1.length : Nat)) (ts.getD i ([], [])).2.length)
def markedTs (k : Int) (ts : List Tr) : List Tr := (List.range ts.length).map (markedOf k ts)
theorem markedTs_length (k : Int) (ts : List Tr) : (markedTs k ts).length = ts.length := by simp [markedTs]
theorem markedTs_get {k : Int} {ts : List Tr} {i : Nat} (h : i < ts.length) : (markedTs k ts).getD i ([], []) = markedOf k ts i := by simp [markedTs, List.getD, h]

/-- transitions whose lists lie apart, each between two of the numbers c, and may be written -/
def TrsSep (c : Nat → Nat) (w : World) (v : Value) (ts : List Tr) : Prop :=
  (∀ i, c i ≤ c (i + 1)) ∧ ∃ (ao : Option Addr) (cap : Nat), v = .slice ao ts.length cap ∧ ts.length ≤ cap ∧
    (ts = [] ∨ ∃ b off, ao = some ⟨b, off, none⟩ ∧ ∀ i, i < ts.length → ∃ v0 v1, w.cell? ⟨b, off + i * 2, none⟩ = some v0 ∧ w.cell? ⟨b, off + i * 2 + 1, none⟩ = some v1 ∧
      (IntsOw (c (2 * i)) w v0 (ts.getD i ([], [])).1 ∧ Bound (c (2 * i + 1)) v0) ∧ IntsOw (c (2 * i + 1)) w v1 (ts.getD i ([], [])).2 ∧ Bound (c (2 * i + 2)) v1)
theorem mono_le {c : Nat → Nat} (h : ∀ i, c i ≤ c (i + 1)) : ∀ {i j : Nat}, i ≤ j → c i ≤ c j := by
  intro i j hij
  induction j with
  | zero => rw [Nat.le_zero.1 hij]; exact Nat.le_refl _
  | succ j ih =>
    rcases Nat.lt_or_ge i (j + 1) with h1 | h1
    · exact Nat.le_trans (ih (by omega)) (h j)
    · rw [Nat.le_antisymm hij h1]; exact Nat.le_refl _

theorem TrsSep.keep {c : Nat → Nat} {w w' : World} {v : Value} {ts : List Tr} (h : TrsSep c w v ts) (hb : Below w.heap.size w w') : TrsSep c w' v ts := by
  obtain ⟨hc, ao, cap, hv, hcap, hz⟩ := h
  refine ⟨hc, ao, cap, hv, hcap, ?_⟩
  rcases hz with hz | ⟨b, off, ha, hcell⟩
  · exact Or.inl hz
  · refine Or.inr ⟨b, off, ha, fun i hi => ?_⟩
    obtain ⟨v0, v1, c0, c1, ⟨h0, b0⟩, h1, b1⟩ := hcell i hi
    exact ⟨v0, v1, cell_carry c0 (Carries.of 0 hb), cell_carry c1 (Carries.of 0 hb), ⟨h0.keep (Same.of _ hb), b0⟩, h1.keep (Same.of _ hb), b1⟩

/-- the first j transitions' lists hold their marks -/
def HeldTo (c : Nat → Nat) (b off : Nat) (w : World) (k : Int) (ts : List Tr) (j : Nat) : Prop :=
  ∀ i, i < j → ∃ v0 v1, w.cell? ⟨b, off + i * 2, none⟩ = some v0 ∧ w.cell? ⟨b, off + i * 2 + 1, none⟩ = some v1 ∧ IntsIn (c 0) (c (2 * i + 1)) w v0 (markedOf k ts i).1 ∧ IntsIn (c 0) (c (2 * i + 2)) w v1 (markedOf k ts i).2
theorem IntsIn.slice {lo hi : Nat} {w : World} {v : Value} {zs : List Int} (h : IntsIn lo hi w v zs) : ∃ ao cap, v = .slice ao zs.length cap := by
  obtain ⟨⟨ao, cap, rfl, _⟩, _⟩ := h
  exact ⟨_, _, rfl⟩
theorem HeldTo.marks {c : Nat → Nat} {b off j l h : Nat} {w w' : World} {k : Int} {ts : List Tr} (hh : HeldTo c b off w k ts j) (hm : Marks l h w w') (hc : ∀ i, c i ≤ c (i + 1)) (hl : c (2 * j) ≤ l) : HeldTo c b off w' k ts j := by
  intro i hi
  obtain ⟨v0, v1, c0, c1, h0, h1⟩ := hh i hi
  obtain ⟨a0, k0, rfl⟩ := h0.slice
  obtain ⟨a1, k1, rfl⟩ := h1.slice
  have m1 : c (2 * i + 1) ≤ c (2 * j) := mono_le hc (by omega)
  have m2 : c (2 * i + 2) ≤ c (2 * j) := mono_le hc (by omega)
  exact ⟨_, _, hm.slice _ _ _ _ c0, hm.slice _ _ _ _ c1, h0.marks hm (by omega), h1.marks hm (by omega)⟩

/-- the marks are written, and read so -/
def RetMarkS (c : Nat → Nat) (w : World) (v : Value) (k : Int) (ts : List Tr) (e : Ending) (w' : World) : Prop :=
  e = .returned (.int .i64 (k + (totTo ts ts.length : Nat))) ∧ Marks (c 0) (c (2 * ts.length)) w w' ∧ TrsAt 0 w' v (markedTs k ts)

set_option maxHeartbeats 2000000 in
theorem markTransitionS_sep (c : Nat → Nat) (v : Value) (ts : List Tr) (k : Int) (w : World) (hv : TrsSep c w v ts) (hs : SmallTrs ts) (h0 : 0 ≤ k) (h1 : k ≤ 1048577) :
    Calls Tryz.prog 59 #[v, .int .i64 k] w (RetMarkS c w v k ts) := by
  obtain ⟨hc, ao, cap, rfl, hcap, hz⟩ := hv
  have HC := Lib.hid hc
  have HF := Lib.hid hz; clear hz
  have HT := Lib.hid (totTo_le hs)
  obtain ⟨hn, hsl⟩ := hs
  have HS := Lib.hid hsl; clear hsl
  obtain ⟨T, hT⟩ : ∃ T, T = totTo ts := ⟨_, rfl⟩
  have hTs : ∀ j, T (j + 1) = T j + (ts.getD j ([], [])).1.length + (ts.getD j ([], [])).2.length := fun j => by rw [hT]; rfl
  have hT0 : T 0 = 0 := by rw [hT]; rfl
  have hM : ∀ i, markedOf k ts i = (upFrom (k + (T i : Nat)) (ts.getD i ([], [])).1.length, upFrom (k + (T i + (ts.getD i ([], [])).1.length : Nat)) (ts.getD i ([], [])).2.length) := fun i => by rw [hT]; rfl
  have HMO := Lib.hid hM; clear hM
  unfold RetMarkS
  rw [← hT] at HT ⊢
  have HTS := Lib.hid hTs; clear hTs hT
  go_enter Tryz.func59, Tryz.ntmps59
  go_wp2_with fail
  go_loopw [1, 5] (fun kv i wr => ∃ j : Nat, j ≤ ts.length ∧ i = .int .i64 j ∧ kv = .int .i64 (k + (T j : Nat)) ∧ Marks (c 0) (c (2 * j)) w wr ∧ Hid (∀ b off, ao = some ⟨b, off, none⟩ → HeldTo c b off wr k ts j)) (fun _ i _ => ts.length - (intOf i).toNat)
  case atStart => exact ⟨0, Nat.zero_le _, rfl, by simp [hT0], Marks.refl _ _ _, fun _ _ _ i hi => absurd hi (Nat.not_lt_zero _)⟩
  case round =>
    obtain ⟨j, hj, rfl, rfl, hm, hheld⟩ := hrel
    by_cases hlt : j < ts.length
    · rcases HF.out with rfl | ⟨b, off, rfl, hcell⟩
      · simp at hlt
      obtain ⟨x0, x1, c0, c1, ⟨hx0, by0⟩, hx1, by1⟩ := hcell j hlt
      have s1 := HS.out j hlt
      have tj := HT.out j hj
      have tj1 := HTS.out j
      have mo := HMO.out j
      obtain ⟨X, hX⟩ : ∃ X, X = ts.getD j ([], []) := ⟨_, rfl⟩
      rw [← hX] at hx0 hx1 s1 tj1 mo
      obtain ⟨s1, s2⟩ := s1
      have l1 : c (2 * j) ≤ c (2 * j + 1) := HC.out _
      have l2 : c (2 * j + 1) ≤ c (2 * j + 2) := HC.out _
      have l0 : c 0 ≤ c (2 * j) := mono_le HC.out (by omega)
      have y0 := hx0.above hm (Nat.le_refl _)
      have y1 := hx1.above hm l1
      have B0 := Lib.hid (y0.boxIn by0)
      have Y0 := Lib.hid y0
      have Y1 := Lib.hid y1
      have BY0 := Lib.hid by0
      have BY1 := Lib.hid by1
      obtain ⟨p0, q0, rfl, _, _⟩ := hx0
      obtain ⟨p1, q1, rfl, _, _⟩ := hx1
      have d0 := hm.slice _ _ _ _ c0
      have d1 := hm.slice _ _ _ _ c1
      have HH := Lib.hid (hheld.out b off rfl); clear hheld
      have MO := Lib.hid mo; clear mo
      clear hcell c0 c1 hX y0 y1 by0 by1
      have MM := Lib.hid hm; clear hm
      go_wp2_with fail
      refine (markIntS_any _ X.1.length _ _ (c (2 * j)) (c (2 * j + 1)) B0.out s1 (by omega) (by omega)).mono ?_
      rintro e w1 ⟨rfl, hm1, hex1⟩
      have e0 := hm1.slice _ _ _ _ d0
      have e1 := hm1.slice _ _ _ _ d1
      have R0 := Lib.hid (IntsOw.marked Y0.out hex1)
      have y2 := Y1.out.above hm1 (Nat.le_refl _)
      have B2 := Lib.hid (y2.boxIn BY1.out)
      have Y2 := Lib.hid y2
      have HH1 := Lib.hid (HH.out.marks hm1 HC.out (Nat.le_refl _))
      have MM1 := Lib.hid ((MM.out.wide (Nat.le_refl _) l1).trans (hm1.wide l0 (Nat.le_refl _)))
      clear hm1 hex1 d0 d1 y2
      go_wp2_with fail
      refine (markIntS_any _ X.2.length _ _ (c (2 * j + 1)) (c (2 * j + 2)) B2.out s2 (by omega) (by omega)).mono ?_
      rintro e w2 ⟨rfl, hm2, hex2⟩
      have f0 := hm2.slice _ _ _ _ e0
      have f1 := hm2.slice _ _ _ _ e1
      have R1 := IntsOw.marked Y2.out hex2
      have R2 := (IntsIn.marks ⟨R0.out, BY0.out⟩ hm2 (Nat.le_refl _))
      have HH2 := HH1.out.marks hm2 HC.out l1
      have MM2 := Lib.hid ((MM1.out.wide (Nat.le_refl _) l2).trans (hm2.wide (Nat.le_trans l0 l1) (Nat.le_refl _)))
      have HF2 : Hid (∀ b' off', some (⟨b, off, none⟩ : Addr) = some ⟨b', off', none⟩ → HeldTo c b' off' w2 k ts (j + 1)) := by
        intro b' off' he
        obtain ⟨rfl, rfl⟩ : b = b' ∧ off = off' := by simpa using he
        intro i hi
        by_cases e : i = j
        · subst e
          refine ⟨_, _, f0, f1, ?_, ?_⟩
          · rw [MO.out]
            exact ⟨R2.1.low l0, R2.2⟩
          · rw [MO.out]
            refine ⟨?_, BY1.out⟩
            have := R1.low (Nat.le_trans l0 l1)
            rw [show (k + (T i + X.1.length : Nat) : Int) = k + (T i : Nat) + (X.1.length : Nat) by rw [Int.natCast_add, Int.add_assoc]]
            exact this
        · exact HH2 i (by omega)
      clear hm2 hex2 e0 e1 f0 f1 R1 R2 HH2
      go_wp2_with fail
      go_roundw
      case rel => exact ⟨j + 1, by omega, by go_num, by simp [tj1, Int.add_assoc], MM2.out, HF2.out⟩
      case measure => simp [intOf]; omega
    · have hjj : j = ts.length := by omega
      subst hjj
      have HH := Lib.hid hheld.out; clear hheld
      go_wp2_with fail
      go_ret
      refine ⟨rfl, hm, ao, cap, by rw [markedTs_length], by rw [markedTs_length]; exact hcap, ?_⟩
      rcases HF.out with rfl | ⟨b, off, rfl, hcell⟩
      · exact Or.inl rfl
      · refine Or.inr ⟨b, off, rfl, Nat.zero_le _, fun i hi => ?_⟩
        rw [markedTs_length] at hi
        obtain ⟨v0, v1, c0, c1, q0, q1⟩ := HH.out b off rfl i hi
        rw [markedTs_get hi]
        exact ⟨v0, v1, c0, c1, q0.1.low (Nat.zero_le _), q1.1.low (Nat.zero_le _)⟩

set_option maxHeartbeats 400000 in
theorem markNet_sep (p : Int) (c : Nat → Nat) (v : Value) (ts : List Tr) (k : Int) (w : World) (hv : TrsSep c w v ts) (hs : SmallTrs ts) (h0 : 0 ≤ k) (h1 : k ≤ 1048577) :
    Calls Tryz.prog 21 #[.agg #[.int .i64 p, v], .int .i64 k] w (fun e w' => ∃ wa, e = .returned (.int .i64 (k + (totTo ts ts.length : Nat))) ∧ Below w.heap.size w wa ∧ Marks (c 0) (c (2 * ts.length)) wa w' ∧ TrsAt 0 w' v (markedTs k ts)) := by
  have HV := Lib.hid hv
  obtain ⟨_, ao, cap, rfl, _, _⟩ := hv
  go_enter Tryz.func21, Tryz.ntmps21
  go_wp2_with fail
  refine (markTransitionS_sep c _ ts k _ (HV.out.keep ((Below.refl _ _).alloc (Nat.le_refl _) _)) hs h0 h1).mono ?_
  rintro e w1 ⟨rfl, hm, hr⟩
  have HR := Lib.hid hr; clear hr
  go_wp2_with fail
  go_ret
  exact ⟨_, rfl, (Below.refl _ _).alloc (Nat.le_refl _) _, hm, HR.out⟩

end Go.Proofs.YtnmoocgocnjdjaaGreat

namespace Go.Proofs.YtnmoocgocnjdjaaGreat
open Go.RowKit

/-- the blocks from lo on, before hi, may have changed; of the others that were there none -/
structure Stir (lo hi : Nat) (w w' : World) : Prop where
  os : w'.os = w.os
  tape : w'.tape = w.tape
  output : w'.output = w.output
  size : w.heap.size ≤ w'.heap.size
  block : ∀ b, b < w.heap.size → (b < lo ∨ hi ≤ b) → w'.heap[b]? = w.heap[b]?
theorem Stir.of {w w' : World} (lo hi : Nat) (h : Below w.heap.size w w') : Stir lo hi w w' := ⟨h.os, h.tape, h.output, h.size, fun b hb _ => h.block b hb⟩
theorem Stir.refl (lo hi : Nat) (w : World) : Stir lo hi w w := Stir.of lo hi (Below.refl _ _)
theorem Stir.trans {lo hi : Nat} {a b c : World} (h : Stir lo hi a b) (k : Stir lo hi b c) : Stir lo hi a c :=
  ⟨k.os.trans h.os, k.tape.trans h.tape, k.output.trans h.output, Nat.le_trans h.size k.size, fun x hx hc => (k.block x (Nat.lt_of_lt_of_le hx h.size) hc).trans (h.block x hx hc)⟩
theorem Stir.wide {lo hi lo' hi' : Nat} {w w' : World} (h : Stir lo hi w w') (h1 : lo' ≤ lo) (h2 : hi ≤ hi') : Stir lo' hi' w w' :=
  ⟨h.os, h.tape, h.output, h.size, fun b hb hc => h.block b hb (by omega)⟩
theorem Stir.set {lo hi : Nat} {a w : World} (h : Stir lo hi a w) {p : Addr} (h1 : lo ≤ p.block) (h2 : p.block < hi) (u : Value) : Stir lo hi a (w.setCell p u) :=
  h.trans ⟨rfl, rfl, rfl, by simp, fun b _ hc => Below.heap_setCell _ _ _ _ (by omega)⟩
theorem Stir.cell {lo hi : Nat} {w w' : World} {a : Addr} {v : Value} (h : Stir lo hi w w') (ha : a.block < lo ∨ hi ≤ a.block) (hc : w.cell? a = some v) : w'.cell? a = some v :=
  (World.cell?_of_block (h.block a.block (cell_old hc) ha)).trans hc
theorem Stir.frozen {lo hi : Nat} {w w' : World} {a : Addr} (h : Stir lo hi w w') (ha : a.block < lo ∨ hi ≤ a.block) (hb : a.block < w.heap.size) : w'.frozen? a = w.frozen? a :=
  World.frozen?_of_block (h.block a.block hb ha)
theorem Stir.below {lo hi B : Nat} {a w w' : World} (h : Stir lo hi w w') (hb : Below B a w) (hB : B ≤ lo) (hB2 : B ≤ w.heap.size) : Below B a w' :=
  hb.trans ⟨h.os, h.tape, h.output, h.size, fun k hk => h.block k (Nat.lt_of_lt_of_le hk hB2) (Or.inl (by omega))⟩

/-- n pairs of cells that may be written, in a block from lo on, before hi -/
def PairBox (lo hi : Nat) (w : World) (v : Value) (n : Nat) : Prop :=
  ∃ (ao : Option Addr) (cap : Nat), v = .slice ao n cap ∧
    (n = 0 ∨ ∃ b off, ao = some ⟨b, off, none⟩ ∧ lo ≤ b ∧ b < hi ∧ ∀ i, i < n * 2 → (∃ u, w.cell? ⟨b, off + i, none⟩ = some u) ∧ w.frozen? ⟨b, off + i, none⟩ = false)
theorem PairBox.form {lo hi : Nat} {w : World} {v : Value} {n : Nat} (h : PairBox lo hi w v n) : ∃ a c, v = .slice a n c := by
  obtain ⟨a, c, rfl, _⟩ := h
  exact ⟨a, c, rfl⟩
theorem PairBox.stir {lo hi l k : Nat} {w w' : World} {v : Value} {n : Nat} (h : PairBox lo hi w v n) (hs : Stir l k w w') (hc : hi ≤ l ∨ k ≤ lo) : PairBox lo hi w' v n := by
  obtain ⟨ao, cap, hv, hz⟩ := h
  refine ⟨ao, cap, hv, ?_⟩
  rcases hz with hz | ⟨b, off, ha, h1, h2, hcell⟩
  · exact Or.inl hz
  · refine Or.inr ⟨b, off, ha, h1, h2, fun i hi => ?_⟩
    obtain ⟨⟨u, hu⟩, hf⟩ := hcell i hi
    have hb := cell_old hu
    exact ⟨⟨u, hs.cell (by simp; omega) hu⟩, (hs.frozen (by simp; omega) hb).trans hf⟩

theorem PairRow.box {b : Nat} {t : TypeId} {w : World} {n : Nat} {x y : Nat → Value} (h : PairRow b t w n n x y) : PairBox b (b + 1) w (.slice (some ⟨b, 0, none⟩) n n) n := by
  obtain ⟨f, hr, _⟩ := h
  refine ⟨_, _, rfl, Or.inr ⟨b, 0, rfl, Nat.le_refl _, Nat.lt_succ_self _, fun i hi => ⟨⟨f i, ?_⟩, ?_⟩⟩⟩
  · rw [Nat.zero_add]; exact hr.cell hi
  · exact hr.frozen _
theorem PairBox.wide {lo hi lo' hi' : Nat} {w : World} {v : Value} {n : Nat} (h : PairBox lo hi w v n) (h1 : lo' ≤ lo) (h2 : hi ≤ hi') : PairBox lo' hi' w v n := by
  obtain ⟨ao, cap, hv, hz⟩ := h
  refine ⟨ao, cap, hv, ?_⟩
  rcases hz with hz | ⟨b, off, ha, q1, q2, hcell⟩
  · exact Or.inl hz
  · exact Or.inr ⟨b, off, ha, by omega, by omega, hcell⟩
theorem PairBox.after {lo hi : Nat} {w w' : World} {v : Value} {n : Nat} (h : PairBox lo hi w v n) (hb : Below w.heap.size w w') : PairBox lo hi w' v n := h.stir (Stir.of 0 0 hb) (Or.inr (Nat.zero_le _))
theorem PairBox.set {lo hi : Nat} {w : World} {v : Value} {n : Nat} (h : PairBox lo hi w v n) (p : Addr) (u : Value) : PairBox lo hi (w.setCell p u) v n := by
  obtain ⟨ao, cap, hv, hz⟩ := h
  refine ⟨ao, cap, hv, ?_⟩
  rcases hz with hz | ⟨b, off, ha, q1, q2, hcell⟩
  · exact Or.inl hz
  · refine Or.inr ⟨b, off, ha, q1, q2, fun i hi => ?_⟩
    obtain ⟨⟨z, hu⟩, hf⟩ := hcell i hi
    refine ⟨?_, (World.frozen?_setCell _ _ _ _).trans hf⟩
    by_cases e : p = ⟨b, off + i, none⟩
    · subst e; exact ⟨u, World.cell?_setCell_same _ _ _ hu⟩
    · exact ⟨z, (World.cell?_setCell_other _ _ _ _ e).trans hu⟩



end Go.Proofs.YtnmoocgocnjdjaaGreat

namespace Go.Proofs.YtnmoocgocnjdjaaGreat
open Go.RowKit

theorem Tryz.infoLab : (Tryz.prog.info? 210).map (fun i => (i.zero, i.size, i.bytes)) = some (some (.agg #[.int .i64 0, .bool false]), 2, 16) := by kernel_rfl

theorem run_make_labs (n : Nat) (hn : n ≤ 1048576) (w : World) :
    (Instr.makeSlice 205 (.int .i64 (n : Int)) (.int .i64 (n : Int))).run Tryz.prog w = .ok (.slice (some ⟨w.heap.size, 0, none⟩) n n) (w.alloc (.cells (madeCells #[.int .i64 0, .bool false] (n * 2)) 210)) := by
  obtain ⟨i, hi, hzz⟩ := Option.map_eq_some_iff.1 Tryz.infoLab
  simp only [Prod.mk.injEq] at hzz
  obtain ⟨hz, hs, hb⟩ := hzz
  have hr := run_make (P := Tryz.prog) w 205 210 i _ Tryz.underlying205 hi hz .i64 .i64 n n (by omega) (Int.le_refl _) (by rw [hb]; omega) (by omega)
  rw [hs] at hr
  exact hr

end Go.Proofs.YtnmoocgocnjdjaaGreat

namespace Go.Proofs.YtnmoocgocnjdjaaGreat
open Go.RowKit

theorem lab_getD {zs : List Lab} {i : Nat} (h : i < zs.length) : (lbS zs i, lbU zs i) = zs[i] := by simp [lbS, lbU, List.getD, h]
end Go.Proofs.YtnmoocgocnjdjaaGreat

namespace Go.Proofs.YtnmoocgocnjdjaaGreat
open Go.RowKit

def SmallStg (s : StgD) : Prop := SmallTrs s.net.ts ∧ SmallSigs s.sigs ∧ s.labs.length ≤ 1048576 ∧ s.start.size ≤ 1048576
def OkStg (s : StgD) : Prop := OkTrs s.net.ts ∧ OkSigs s.sigs ∧ s.labs.length ≤ 9223372036854775807 ∧ s.start.size ≤ 9223372036854775807

/-- the outer form of a net's value -/
theorem NetAt.form {lo : Nat} {w : World} {v : Value} {n : NetD} (h : NetAt lo w v n) : ∃ a c, v = .agg #[.int .i64 n.places, .slice a n.ts.length c] := by
  obtain ⟨_, _, u, rfl, ⟨a, c, rfl, _, _⟩⟩ := h
  exact ⟨a, c, rfl⟩
theorem SigsAt.form {lo : Nat} {w : World} {v : Value} {n : List Sig} (h : SigsAt lo w v n) : ∃ a c, v = .slice a n.length c := by
  obtain ⟨a, c, rfl, _, _⟩ := h
  exact ⟨a, c, rfl⟩
theorem LabsAt.form {lo : Nat} {w : World} {v : Value} {n : List Lab} (h : LabsAt lo w v n) : ∃ a c, v = .slice a n.length c := by
  obtain ⟨a, c, rfl, _, _⟩ := h
  exact ⟨a, c, rfl⟩
/-- a graph's value, opened -/
theorem StgAt.form {lo : Nat} {w : World} {v : Value} {s : StgD} (h : StgAt lo w v s) : ∃ a0 c0 a1 c1 a2 c2, v = .agg #[.int .i64 s.net.places, .slice a0 s.net.ts.length c0, .slice a1 s.sigs.length c1, .slice a2 s.labs.length c2, .string s.start] ∧
    NetAt lo w (.agg #[.int .i64 s.net.places, .slice a0 s.net.ts.length c0]) s.net ∧ SigsAt lo w (.slice a1 s.sigs.length c1) s.sigs ∧ LabsAt lo w (.slice a2 s.labs.length c2) s.labs := by
  obtain ⟨vt, vs, vl, rfl, hn, hs, hl⟩ := h
  obtain ⟨a0, c0, e0⟩ := hn.form
  obtain ⟨a1, c1, rfl⟩ := hs.form
  obtain ⟨a2, c2, rfl⟩ := hl.form
  obtain rfl : vt = .slice a0 s.net.ts.length c0 := by
    injection e0 with e; injection e with e; injection e with e1 e2; injection e2 with e2
  exact ⟨a0, c0, a1, c1, a2, c2, rfl, hn, hs, hl⟩

/-- two graphs, compared part by part -/
def eqStgB (a b : StgD) : Bool := decide (a.net.places = b.net.places ∧ a.net.ts = b.net.ts) && (decide (a.sigs = b.sigs) && (decide (a.labs = b.labs) && decide (a.start = b.start)))
theorem eqStgB_self (a : StgD) : eqStgB a a = true := by unfold eqStgB; simp

end Go.Proofs.YtnmoocgocnjdjaaGreat

namespace Go.Proofs.YtnmoocgocnjdjaaGreat
open Go.RowKit

theorem conv_one (w : World) (e : TypeId) (z : Int) : (convert 166 9 (.slice (some ⟨w.heap.size, 0, none⟩) 1 1)).run Tryz.prog (w.alloc (.cells #[.int .u8 z] e)) = .ok (.string (ByteArray.empty.push (UInt8.ofNat z.toNat))) (w.alloc (.cells #[.int .u8 z] e)) := by
  rw [run_convert_bytes_string _ 166 9 5 _ _ _ Tryz.underlying166 Tryz.underlying5 Tryz.underlying9]
  have hl := run_loadCells_list (P := Tryz.prog) (w.alloc (.cells #[.int .u8 z] e)) ⟨w.heap.size, 0, none⟩ [.int .u8 z] (fun j v hv => by
    match j, hv with
    | 0, hv => simp only [List.getElem?_cons_zero, Option.some.injEq] at hv; subst hv; simp [Addr.add]
    | (j + 1), hv => simp at hv)
  exact run_bytesToString _ ⟨w.heap.size, 0, none⟩ 1 1 [z] hl

theorem Marks.stir {lo hi : Nat} {w w' : World} (h : Marks lo hi w w') : Stir lo hi w w' := ⟨h.os, h.tape, h.output, by rw [h.size]; exact Nat.le_refl _, fun b _ hc => h.block b hc⟩

end Go.Proofs.YtnmoocgocnjdjaaGreat
