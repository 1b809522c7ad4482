/- PLAIN PART: what a slice of ints, a slice of transitions and a net read as in a world; that such a reading stands in every later world that keeps the old blocks. No program is named here.
   WALKS: szIntS, toIntS, eqIntS. -/
import Derived.WalkKit
import Derived.WalkSpells
import Derived.WalkLawsBesides
import Derived.BigQuiet
import Derived.Handy
import Derived.Lib.Hide
import Derived.Deep.OwnRows
import Derived.Deep.SlicePairs
import Derived.Test.YtigkgfdnnfmmmaaChecked
namespace Go.Proofs.Ytigkgfdnnfmmmaa
open Go.RowKit

theorem cell_old {w : World} {a : Addr} {v : Value} (h : w.cell? a = some v) : a.block < w.heap.size := by
  unfold World.cell? at h
  cases hb : w.heap[a.block]? with
  | none => simp [hb] at h
  | some o => exact (Array.getElem?_eq_some_iff.1 hb).1

theorem cell_keep {w w' : World} {B : Nat} {a : Addr} {v : Value} (h : w.cell? a = some v) (hb : Below B w w') (hB : w.heap.size ≤ B) : w'.cell? a = some v :=
  (hb.cell (p := a) (by have := cell_old h; omega)).trans h

/-- what is carried from w to w': every cell that there is from block lo on -/
def Carries (lo : Nat) (w w' : World) : Prop := ∀ a v, lo ≤ a.block → w.cell? a = some v → w'.cell? a = some v

theorem Carries.refl (lo : Nat) (w : World) : Carries lo w w := fun _ _ _ h => h
theorem Carries.trans {lo : Nat} {a b c : World} (h : Carries lo a b) (k : Carries lo b c) : Carries lo a c := fun x v hx hc => k x v hx (h x v hx hc)
theorem Carries.mono {lo lo' : Nat} {a b : World} (h : Carries lo a b) (hl : lo ≤ lo') : Carries lo' a b := fun x v hx hc => h x v (Nat.le_trans hl hx) hc
theorem carries_below {w w' : World} {B : Nat} (hb : Below B w w') (hB : w.heap.size ≤ B) (lo : Nat) : Carries lo w w' := fun _ _ _ hc => cell_keep hc hb hB
theorem Carries.of (lo : Nat) {w w' : World} (hb : Below w.heap.size w w') : Carries lo w w' := carries_below hb (Nat.le_refl _) lo
theorem Carries.set {lo : Nat} {a w : World} (h : Carries lo a w) {p : Addr} (hp : p.block < lo) (u : Value) : Carries lo a (w.setCell p u) := fun x v hx hc => by
  have h1 := h x v hx hc
  have e : (w.setCell p u).heap[x.block]? = w.heap[x.block]? := Below.heap_setCell _ _ _ _ (by omega)
  rw [World.cell?_of_block (w := w) (w' := w.setCell p u) e]
  exact h1
theorem Carries.alloc {lo : Nat} {a w : World} (h : Carries lo a w) (o : Obj) : Carries lo a (w.alloc o) :=
  h.trans (Carries.of lo ((Below.refl _ _).alloc (Nat.le_refl _) o))
theorem Carries.drew {lo : Nat} {a w : World} (h : Carries lo a w) : Carries lo a w.drew := h.trans (Carries.of lo (Below.refl _ _).drew)
theorem Carries.drewN {lo : Nat} {a w : World} (h : Carries lo a w) (n : Nat) : Carries lo a (w.drewN n) := h.trans (Carries.of lo (below_drewN (Below.refl _ _) n))

theorem cell_carry {w w' : World} {a : Addr} {v : Value} (h : w.cell? a = some v) (hc : Carries 0 w w') : w'.cell? a = some v := hc a v (Nat.zero_le _) h

/-- what a slice of ints reads as; its cells lie from block lo on -/
def IntsAt (lo : Nat) (w : World) (v : Value) (zs : List Int) : Prop :=
  ∃ (ao : Option Addr) (cap : Nat), v = .slice ao zs.length cap ∧ zs.length ≤ cap ∧
    (zs = [] ∨ ∃ b off, ao = some ⟨b, off, none⟩ ∧ lo ≤ b ∧ ∀ i, i < zs.length → w.cell? ⟨b, off + i, none⟩ = some (.int .i64 (zs.getD i 0)))

theorem IntsAt.keep {lo : Nat} {w w' : World} {v : Value} {zs : List Int} (h : IntsAt lo w v zs) (hb : Carries lo w w') : IntsAt lo w' v zs := by
  obtain ⟨ao, cap, hv, hc, hz⟩ := h
  refine ⟨ao, cap, hv, hc, ?_⟩
  rcases hz with hz | ⟨b, off, ha, hlo, hcell⟩
  · exact Or.inl hz
  · exact Or.inr ⟨b, off, ha, hlo, fun i hi => hb _ _ hlo (hcell i hi)⟩

theorem IntsAt.low {lo lo' : Nat} {w : World} {v : Value} {zs : List Int} (h : IntsAt lo w v zs) (hl : lo' ≤ lo) : IntsAt lo' w v zs := by
  obtain ⟨ao, cap, hv, hc, hz⟩ := h
  refine ⟨ao, cap, hv, hc, ?_⟩
  rcases hz with hz | ⟨b, off, ha, hlo, hcell⟩
  · exact Or.inl hz
  · exact Or.inr ⟨b, off, ha, Nat.le_trans hl hlo, hcell⟩

/-- a transition: its two lists -/
abbrev Tr := List Int × List Int

/-- what two cells (a transition's) read as -/
def TrAt (lo : Nat) (w : World) (v0 v1 : Value) (t : Tr) : Prop := IntsAt lo w v0 t.1 ∧ IntsAt lo w v1 t.2

theorem TrAt.keep {lo : Nat} {w w' : World} {v0 v1 : Value} {t : Tr} (h : TrAt lo w v0 v1 t) (hb : Carries lo w w') : TrAt lo w' v0 v1 t :=
  ⟨h.1.keep hb, h.2.keep hb⟩
theorem TrAt.low {lo lo' : Nat} {w : World} {v0 v1 : Value} {t : Tr} (h : TrAt lo w v0 v1 t) (hl : lo' ≤ lo) : TrAt lo' w v0 v1 t :=
  ⟨h.1.low hl, h.2.low hl⟩

/-- what a slice of transitions reads as -/
def TrsAt (lo : Nat) (w : World) (v : Value) (ts : List Tr) : Prop :=
  ∃ (ao : Option Addr) (cap : Nat), v = .slice ao ts.length cap ∧ ts.length ≤ cap ∧
    (ts = [] ∨ ∃ b off, ao = some ⟨b, off, none⟩ ∧ lo ≤ b ∧ ∀ i, i < ts.length → ∃ v0 v1, w.cell? ⟨b, off + i * 2, none⟩ = some v0 ∧ w.cell? ⟨b, off + i * 2 + 1, none⟩ = some v1 ∧ TrAt lo w v0 v1 (ts.getD i ([], [])))

theorem TrsAt.keep {lo : Nat} {w w' : World} {v : Value} {ts : List Tr} (h : TrsAt lo w v ts) (hb : Carries lo w w') : TrsAt lo w' v ts := by
  obtain ⟨ao, cap, hv, hc, hz⟩ := h
  refine ⟨ao, cap, hv, hc, ?_⟩
  rcases hz with hz | ⟨b, off, ha, hlo, hcell⟩
  · exact Or.inl hz
  · refine Or.inr ⟨b, off, ha, hlo, fun i hi => ?_⟩
    obtain ⟨v0, v1, c0, c1, ht⟩ := hcell i hi
    exact ⟨v0, v1, hb _ _ hlo c0, hb _ _ hlo c1, ht.keep hb⟩

theorem TrsAt.low {lo lo' : Nat} {w : World} {v : Value} {ts : List Tr} (h : TrsAt lo w v ts) (hl : lo' ≤ lo) : TrsAt lo' w v ts := by
  obtain ⟨ao, cap, hv, hc, hz⟩ := h
  refine ⟨ao, cap, hv, hc, ?_⟩
  rcases hz with hz | ⟨b, off, ha, hlo, hcell⟩
  · exact Or.inl hz
  · refine Or.inr ⟨b, off, ha, Nat.le_trans hl hlo, fun i hi => ?_⟩
    obtain ⟨v0, v1, c0, c1, ht⟩ := hcell i hi
    exact ⟨v0, v1, c0, c1, ht.low hl⟩

/-- a net as data -/
structure NetD where
  places : Int
  ts : List Tr

/-- what a net's value reads as -/
def NetAt (lo : Nat) (w : World) (v : Value) (n : NetD) : Prop :=
  -9223372036854775808 ≤ n.places ∧ n.places ≤ 9223372036854775807 ∧ ∃ u, v = .agg #[.int .i64 n.places, u] ∧ TrsAt lo w u n.ts

theorem NetAt.keep {lo : Nat} {w w' : World} {v : Value} {n : NetD} (h : NetAt lo w v n) (hb : Carries lo w w') : NetAt lo w' v n := by
  obtain ⟨h1, h2, u, hv, ht⟩ := h
  exact ⟨h1, h2, u, hv, ht.keep hb⟩
theorem NetAt.low {lo lo' : Nat} {w : World} {v : Value} {n : NetD} (h : NetAt lo w v n) (hl : lo' ≤ lo) : NetAt lo' w v n := by
  obtain ⟨h1, h2, u, hv, ht⟩ := h
  exact ⟨h1, h2, u, hv, ht.low hl⟩

/-- a call returns a transition, transitions, a net of its own that reads so, and changes nothing that was there -/
def RetTr (w : World) (t : Tr) (e : Ending) (w' : World) : Prop := ∃ v0 v1, e = .returned (.agg #[v0, v1]) ∧ TrAt w.heap.size w' v0 v1 t ∧ Below w.heap.size w w'
def RetTrs (w : World) (ts : List Tr) (e : Ending) (w' : World) : Prop := ∃ v, e = .returned v ∧ TrsAt w.heap.size w' v ts ∧ Below w.heap.size w w'
def RetNet (w : World) (n : NetD) (e : Ending) (w' : World) : Prop := ∃ v, e = .returned v ∧ NetAt w.heap.size w' v n ∧ Below w.heap.size w w'

/-- a call returns a slice of its own of these ints and changes nothing that was there -/
def RetInts (w : World) (zs : List Int) (e : Ending) (w' : World) : Prop := ∃ v, e = .returned v ∧ IntsAt w.heap.size w' v zs ∧ Below w.heap.size w w'
/-- a call returns this value and changes nothing that was there -/
def RetV (w : World) (v : Value) (e : Ending) (w' : World) : Prop := e = .returned v ∧ Below w.heap.size w w'
/-- a call returns this bool and changes nothing that was there -/
abbrev RetB (w : World) (b : Bool) : Ending → World → Prop := RetV w (.bool b)

end Go.Proofs.Ytigkgfdnnfmmmaa

namespace Go.Proofs.Ytigkgfdnnfmmmaa
open Go.RowKit

theorem Try.infoInt : (Try.prog.info? 3).map (fun i => (i.zero, i.size, i.bytes)) = some (some (.int .i64 0), 1, 8) := by kernel_rfl

def szI (left : Int) (n : Nat) : Int := if left < n then -1 else left - n

set_option maxHeartbeats 400000 in
theorem szIntS_any (ao : Option Addr) (n cap : Nat) (left : Int) (w : World) (h0 : 0 ≤ left) (h1 : left ≤ 1048576) (hn : n ≤ 9223372036854775807) :
    Calls Try.prog 117 #[.slice ao n cap, .int .i64 left] w (RetV w (.int .i64 (szI left n))) := by
  by_cases hlt : left < n
  · have e : szI left n = -1 := by unfold szI; rw [if_pos hlt]
    rw [e]; clear e
    go_enter Try.func117, Try.ntmps117
    go_wp2
    go_ret
    exact ⟨rfl, Below.refl _ _⟩
  · have e : szI left n = left - n := by unfold szI; rw [if_neg hlt]
    rw [e]; clear e
    go_enter Try.func117, Try.ntmps117
    go_wp2
    go_ret
    exact ⟨rfl, Below.refl _ _⟩

theorem getD_eq {zs : List Int} {i : Nat} (h : i < zs.length) : zs.getD i 0 = zs[i] := by simp [List.getD, h]

theorem take_eq_succ {zs ys : List Int} {k : Nat} (hk : k < zs.length) (hy : k < ys.length) (h : zs.take k = ys.take k) (he : zs.getD k 0 = ys.getD k 0) : zs.take (k + 1) = ys.take (k + 1) := by
  rw [List.take_succ_eq_append_getElem hk, List.take_succ_eq_append_getElem hy, h, ← getD_eq hk, ← getD_eq hy, he]

theorem ne_of_getD {zs ys : List Int} {k : Nat} (he : zs.getD k 0 ≠ ys.getD k 0) : decide (zs = ys) = false := by
  rw [decide_eq_false_iff_not]; rintro rfl; exact he rfl

set_option maxHeartbeats 400000 in
theorem eqIntS_any (v v' : Value) (zs ys : List Int) (w : World) (lo lo' : Nat) (hv : IntsAt lo w v zs) (hv' : IntsAt lo' w v' ys) (hn : zs.length ≤ 4611686018427387904) (hm : ys.length ≤ 4611686018427387904) :
    Calls Try.prog 21 #[v, v'] w (RetB w (decide (zs = ys))) := by
  obtain ⟨ao, cap, rfl, hc, hz⟩ := hv
  obtain ⟨ao', cap', rfl, hc', hz'⟩ := hv'
  by_cases hl : zs.length = ys.length
  · have hb : ((zs.length : Int) != (ys.length : Int)) = false := by simp [hl]
    by_cases hzs : 0 < zs.length
    · rcases hz with rfl | ⟨b, off, rfl, _, hcell⟩
      · simp at hzs
      rcases hz' with rfl | ⟨b', off', rfl, _, hcell'⟩
      · simp at hl; simp [hl] at hzs
      have HC := Lib.hid hcell; clear hcell
      have HC' := Lib.hid hcell'; clear hcell'
      have HL := Lib.hid hl
      have hl1 : zs.length ≤ ys.length := by omega
      have hl2 : ys.length ≤ zs.length := by omega
      clear hl
      go_enter Try.func21, Try.ntmps21
      go_wp2
      go_loopw [5] (fun i wr => ∃ k : Nat, k ≤ zs.length ∧ i = .int .i64 k ∧ Hid (zs.take k = ys.take k) ∧ Below w.heap.size w wr) (fun i _ => zs.length - (intOf i).toNat)
      case atStart => exact ⟨0, Nat.zero_le _, rfl, rfl, Below.refl _ _⟩
      case round =>
        obtain ⟨k, hk, rfl, ht, hb1⟩ := hrel
        by_cases hlt : k < zs.length
        · have hk2 : k < ys.length := by omega
          have c1 := cell_keep (HC.out k hlt) hb1 (Nat.le_refl _)
          have c2 := cell_keep (HC'.out k hk2) hb1 (Nat.le_refl _)
          go_wp2
          go_quiet (fail)
          go_wp2
          · have hne : (zs[k] != ys[k]) = true := by assumption
            go_ret
            refine ⟨?_, below_drewN hb1 _⟩
            rw [ne_of_getD (k := k) (by rw [getD_eq hlt, getD_eq hk2]; simpa using hne)]; rfl
          · have heq : (zs[k] != ys[k]) = false := by assumption
            have hs := Lib.hid (take_eq_succ hlt hk2 ht.out (by rw [getD_eq hlt, getD_eq hk2]; simpa using heq))
            go_roundw
            case rel => exact ⟨k + 1, by omega, by go_num, hs, below_drewN hb1 _⟩
            case measure => simp [intOf]; omega
        · go_wp2
          go_ret
          refine ⟨?_, hb1⟩
          have h1 := ht.out
          rw [List.take_of_length_le (by omega), List.take_of_length_le (by omega)] at h1
          simp [h1]
    · have hz0 : zs = [] := List.eq_nil_of_length_eq_zero (by omega)
      have hy0 : ys = [] := List.eq_nil_of_length_eq_zero (by omega)
      subst hz0; subst hy0
      simp only [List.length_nil]
      clear hz hz' hc hc' hb hl hzs
      go_enter Try.func21, Try.ntmps21
      go_wp2
      go_rounds 1
      go_ret
      exact ⟨rfl, Below.refl _ _⟩
  · have hb : ((zs.length : Int) != (ys.length : Int)) = true := by rw [bne_iff_ne]; omega
    have hd : decide (zs = ys) = false := by rw [decide_eq_false_iff_not]; rintro rfl; exact hl rfl
    rw [hd]; clear hd
    go_enter Try.func21, Try.ntmps21
    go_wp2
    go_ret
    exact ⟨rfl, Below.refl _ _⟩

/-! toIntS: a slice of its own -/
theorem ints_of_row {w : World} {b : Nat} {zs : List Int} {f : Nat → Value} (h : w.rowIs b 3 zs.length f) (hf : ∀ i, i < zs.length → f i = .int .i64 (zs.getD i 0)) : IntsAt b w (.slice (some ⟨b, 0, none⟩) zs.length zs.length) zs :=
  ⟨_, _, rfl, Nat.le_refl _, Or.inr ⟨b, 0, rfl, Nat.le_refl _, fun i hi => by rw [Nat.zero_add, h.cell hi, hf i hi]⟩⟩

def copied (zs : List Int) (k : Nat) : Nat → Value := fun j => if j < k then .int .i64 (zs.getD j 0) else .int .i64 0

theorem copied_step (zs : List Int) (k : Nat) : (fun j => if j = k then Value.int .i64 (zs.getD k 0) else copied zs k j) = copied zs (k + 1) := by
  funext j
  unfold copied
  by_cases h : j = k
  · subst h; simp
  · rw [if_neg h]; by_cases h2 : j < k
    · rw [if_pos h2, if_pos (by omega)]
    · rw [if_neg h2, if_neg (by omega)]

set_option maxHeartbeats 400000 in
theorem toIntS_any (v : Value) (zs : List Int) (w : World) (lo : Nat) (hv : IntsAt lo w v zs) (hn : zs.length ≤ 1048576) :
    Calls Try.prog 118 #[v] w (RetInts w zs) := by
  obtain ⟨ao, cap, rfl, hc, hz⟩ := hv
  have hmk := run_make_row' (P := Try.prog) 49 3 (.int .i64 0) 8 Try.underlying49 Try.infoInt rfl .i64 .i64 zs.length (by omega) (by omega)
  have HF := Lib.hid hz; clear hz
  go_enter Try.func118, Try.ntmps118
  go_wp2
  go_loopw [4] (fun i wr => ∃ k : Nat, k ≤ zs.length ∧ i = .int .i64 k ∧ wr.rowIs w.heap.size 3 zs.length (copied zs k) ∧ Below w.heap.size w wr) (fun i _ => zs.length - (intOf i).toNat)
  case atStart => exact ⟨0, Nat.zero_le _, rfl, (World.rowIs_made _ _ _ _).congr (fun i _ => by simp [copied]), (Below.refl _ _).alloc (Nat.le_refl _) _⟩
  case round =>
    obtain ⟨k, hk, rfl, hrow, hb1⟩ := hrel
    by_cases hlt : k < zs.length
    · rcases HF.out with rfl | ⟨b, off, rfl, _, hcell⟩
      · simp at hlt
      have c1 := cell_keep (hcell k hlt) hb1 (Nat.le_refl _)
      have c2 := hrow.cell hlt
      have f2 := hrow.frozen k
      clear hcell
      go_wp2
      have h3 := hrow.set k (.int .i64 (zs.getD k 0))
      rw [copied_step, getD_eq hlt] at h3
      have h4 := hb1.setCell (p := ⟨w.heap.size, k, none⟩) (Nat.le_refl _) (.int .i64 zs[k])
      go_roundw
      case rel => exact ⟨k + 1, by omega, by go_num, h3, h4⟩
      case measure => simp [intOf]; omega
    · go_wp2
      go_ret
      exact ⟨_, rfl, ints_of_row hrow (fun i hi => by unfold copied; rw [if_pos (by omega)]), hb1⟩

end Go.Proofs.Ytigkgfdnnfmmmaa
