/- PAIRS: all (i, k) with i < k < n of which something holds, in order.
   WALKS: szIntS, toIntS, eqIntS. -/
import Derived.Test.YtgmnknlnlmcmfaaVNetd
import Derived.Test.YtgmnknlnlmcmfaaChecked
namespace Go.Proofs.Ytgmnknlnlmcmfaa
open Go.RowKit

/-- the pairs of one i, up to k -/
def prRow (f : Nat → Nat → Bool) (i : Nat) : Nat → List (Nat × Nat)
  | 0 => []
  | k + 1 => if i < k ∧ f i k = true then prRow f i k ++ [(i, k)] else prRow f i k
/-- the pairs of all before i -/
def prTo (f : Nat → Nat → Bool) (n : Nat) : Nat → List (Nat × Nat)
  | 0 => []
  | i + 1 => prTo f n i ++ prRow f i n
def prL (f : Nat → Nat → Bool) (n : Nat) : List (Nat × Nat) := prTo f n n
theorem prRow_start {f : Nat → Nat → Bool} {i : Nat} : ∀ {k : Nat}, k ≤ i + 1 → prRow f i k = []
  | 0, _ => rfl
  | k + 1, h => by
    show (if i < k ∧ f i k = true then _ else _) = _
    rw [if_neg (by omega)]
    exact prRow_start (by omega)
theorem prRow_yes {f : Nat → Nat → Bool} {i k : Nat} (h : i < k) (hf : f i k = true) : prRow f i (k + 1) = prRow f i k ++ [(i, k)] := by
  show (if i < k ∧ f i k = true then _ else _) = _
  rw [if_pos ⟨h, hf⟩]
theorem prRow_no {f : Nat → Nat → Bool} {i k : Nat} (hf : f i k = false) : prRow f i (k + 1) = prRow f i k := by
  show (if i < k ∧ f i k = true then _ else _) = _
  rw [if_neg (by rw [hf]; simp)]
theorem prRow_length (f : Nat → Nat → Bool) (i : Nat) : ∀ k, (prRow f i k).length ≤ k
  | 0 => Nat.le_refl _
  | k + 1 => by
    have := prRow_length f i k
    show (if i < k ∧ f i k = true then prRow f i k ++ [(i, k)] else prRow f i k).length ≤ _
    split
    · rw [List.length_append]; simp; omega
    · omega
theorem prTo_succ (f : Nat → Nat → Bool) (n i : Nat) : prTo f n (i + 1) = prTo f n i ++ prRow f i n := rfl
theorem prTo_length (f : Nat → Nat → Bool) (n : Nat) : ∀ i, (prTo f n i).length ≤ i * n
  | 0 => Nat.zero_le _
  | i + 1 => by
    have h1 := prTo_length f n i
    have h2 := prRow_length f i n
    rw [prTo_succ, List.length_append, Nat.succ_mul]
    omega
theorem prRow_congr {f g : Nat → Nat → Bool} {i : Nat} : ∀ {k : Nat}, (∀ j, i < j → j < k → f i j = g i j) → prRow f i k = prRow g i k
  | 0, _ => rfl
  | k + 1, h => by
    have ih := prRow_congr (f := f) (g := g) (i := i) (k := k) (fun j h1 h2 => h j h1 (by omega))
    show (if i < k ∧ f i k = true then _ else _) = (if i < k ∧ g i k = true then _ else _)
    rw [ih]
    by_cases hik : i < k
    · rw [h k hik (by omega)]
    · rw [if_neg (fun x => hik x.1), if_neg (fun x => hik x.1)]
theorem prTo_congr {f g : Nat → Nat → Bool} {n : Nat} (h : ∀ i j, i < j → j < n → f i j = g i j) : ∀ i, prTo f n i = prTo g n i
  | 0 => rfl
  | i + 1 => by rw [prTo_succ, prTo_succ, prTo_congr h i, prRow_congr (fun j h1 h2 => h i j h1 h2)]
theorem prL_congr {f g : Nat → Nat → Bool} {n : Nat} (h : ∀ i j, i < j → j < n → f i j = g i j) : prL f n = prL g n := prTo_congr h n
theorem prRow_grow (f : Nat → Nat → Bool) (i : Nat) : ∀ {k n : Nat}, k ≤ n → (prRow f i k).length ≤ (prRow f i n).length
  | k, 0, h => by rw [Nat.le_zero.1 h]; exact Nat.le_refl _
  | k, n + 1, h => by
    by_cases e : k = n + 1
    · rw [e]; exact Nat.le_refl _
    · have ih := prRow_grow f i (k := k) (n := n) (by omega)
      refine Nat.le_trans ih ?_
      show _ ≤ (if i < n ∧ f i n = true then prRow f i n ++ [(i, n)] else prRow f i n).length
      split
      · rw [List.length_append]; exact Nat.le_add_right _ _
      · exact Nat.le_refl _
theorem prTo_grow (f : Nat → Nat → Bool) (m : Nat) : ∀ {i n : Nat}, i ≤ n → (prTo f m i).length ≤ (prTo f m n).length
  | i, 0, h => by rw [Nat.le_zero.1 h]; exact Nat.le_refl _
  | i, n + 1, h => by
    by_cases e : i = n + 1
    · rw [e]; exact Nat.le_refl _
    · have ih := prTo_grow f m (i := i) (n := n) (by omega)
      rw [prTo_succ, List.length_append]; omega
theorem prL_part {f : Nat → Nat → Bool} {m i k : Nat} (hi : i < m) (hk : k ≤ m) : (prTo f m i ++ prRow f i k).length ≤ (prL f m).length := by
  have h1 := prRow_grow f i hk
  have h2 := prTo_grow f m (i := i + 1) (n := m) hi
  rw [prTo_succ, List.length_append] at h2
  rw [List.length_append]
  show _ ≤ (prTo f m m).length
  omega
/-- a pair as two ints -/
def prI (p : Nat × Nat) : List Int := [(p.1 : Int), (p.2 : Int)]
def prZ (f : Nat → Nat → Bool) (n : Nat) : List (List Int) := (prL f n).map prI
theorem prZ_length (f : Nat → Nat → Bool) (n : Nat) : (prZ f n).length ≤ n * n := by
  unfold prZ; rw [List.length_map]; exact prTo_length f n n
theorem prZ_two {f : Nat → Nat → Bool} {n i : Nat} : ((prZ f n).getD i []).length ≤ 2 := by
  unfold prZ
  rw [List.getD_eq_getElem?_getD, List.getElem?_map]
  cases (prL f n)[i]? with
  | none => simp
  | some p => simp [prI]

end Go.Proofs.Ytgmnknlnlmcmfaa

namespace Go.Proofs.Ytgmnknlnlmcmfaa
open Go.RowKit

theorem Try.infoInt : (Try.prog.info? 3).map (fun i => (i.zero, i.size, i.bytes)) = some (some (.int .i64 0), 1, 8) := by kernel_rfl

def szI (left : Int) (n : Nat) : Int := if left < n then -1 else left - n

set_option maxHeartbeats 400000 in
theorem szIntS_any (ao : Option Addr) (n cap : Nat) (left : Int) (w : World) (h0 : 0 ≤ left) (h1 : left ≤ 1048576) (hn : n ≤ 9223372036854775807) :
    Calls Try.prog 222 #[.slice ao n cap, .int .i64 left] w (RetV w (.int .i64 (szI left n))) := by
  by_cases hlt : left < n
  · have e : szI left n = -1 := by unfold szI; rw [if_pos hlt]
    rw [e]; clear e
    go_enter Try.func222, Try.ntmps222
    go_wp2
    go_ret
    exact ⟨rfl, Below.refl _ _⟩
  · have e : szI left n = left - n := by unfold szI; rw [if_neg hlt]
    rw [e]; clear e
    go_enter Try.func222, Try.ntmps222
    go_wp2
    go_ret
    exact ⟨rfl, Below.refl _ _⟩

theorem getD_eq {zs : List Int} {i : Nat} (h : i < zs.length) : zs.getD i 0 = zs[i] := by simp [List.getD, h]

theorem take_eq_succ {zs ys : List Int} {k : Nat} (hk : k < zs.length) (hy : k < ys.length) (h : zs.take k = ys.take k) (he : zs.getD k 0 = ys.getD k 0) : zs.take (k + 1) = ys.take (k + 1) := by
  rw [List.take_succ_eq_append_getElem hk, List.take_succ_eq_append_getElem hy, h, ← getD_eq hk, ← getD_eq hy, he]

theorem ne_of_getD {zs ys : List Int} {k : Nat} (he : zs.getD k 0 ≠ ys.getD k 0) : decide (zs = ys) = false := by
  rw [decide_eq_false_iff_not]; rintro rfl; exact he rfl

set_option maxHeartbeats 400000 in
theorem eqIntS_any (v v' : Value) (zs ys : List Int) (w : World) (lo lo' : Nat) (hv : IntsAt lo w v zs) (hv' : IntsAt lo' w v' ys) (hn : zs.length ≤ 4611686018427387904) (hm : ys.length ≤ 4611686018427387904) :
    Calls Try.prog 16 #[v, v'] w (RetB w (decide (zs = ys))) := by
  obtain ⟨ao, cap, rfl, hc, hz⟩ := hv
  obtain ⟨ao', cap', rfl, hc', hz'⟩ := hv'
  by_cases hl : zs.length = ys.length
  · have hb : ((zs.length : Int) != (ys.length : Int)) = false := by simp [hl]
    by_cases hzs : 0 < zs.length
    · rcases hz with rfl | ⟨b, off, rfl, _, hcell⟩
      · simp at hzs
      rcases hz' with rfl | ⟨b', off', rfl, _, hcell'⟩
      · simp at hl; simp [hl] at hzs
      have HC := Lib.hid hcell; clear hcell
      have HC' := Lib.hid hcell'; clear hcell'
      have HL := Lib.hid hl
      have hl1 : zs.length ≤ ys.length := by omega
      have hl2 : ys.length ≤ zs.length := by omega
      clear hl
      go_enter Try.func16, Try.ntmps16
      go_wp2
      go_loopw [5] (fun i wr => ∃ k : Nat, k ≤ zs.length ∧ i = .int .i64 k ∧ Hid (zs.take k = ys.take k) ∧ Below w.heap.size w wr) (fun i _ => zs.length - (intOf i).toNat)
      case atStart => exact ⟨0, Nat.zero_le _, rfl, rfl, Below.refl _ _⟩
      case round =>
        obtain ⟨k, hk, rfl, ht, hb1⟩ := hrel
        by_cases hlt : k < zs.length
        · have hk2 : k < ys.length := by omega
          have c1 := cell_keep (HC.out k hlt) hb1 (Nat.le_refl _)
          have c2 := cell_keep (HC'.out k hk2) hb1 (Nat.le_refl _)
          go_wp2
          go_quiet (fail)
          go_wp2
          · have hne : (zs[k] != ys[k]) = true := by assumption
            go_ret
            refine ⟨?_, below_drewN hb1 _⟩
            rw [ne_of_getD (k := k) (by rw [getD_eq hlt, getD_eq hk2]; simpa using hne)]; rfl
          · have heq : (zs[k] != ys[k]) = false := by assumption
            have hs := Lib.hid (take_eq_succ hlt hk2 ht.out (by rw [getD_eq hlt, getD_eq hk2]; simpa using heq))
            go_roundw
            case rel => exact ⟨k + 1, by omega, by go_num, hs, below_drewN hb1 _⟩
            case measure => simp [intOf]; omega
        · go_wp2
          go_ret
          refine ⟨?_, hb1⟩
          have h1 := ht.out
          rw [List.take_of_length_le (by omega), List.take_of_length_le (by omega)] at h1
          simp [h1]
    · have hz0 : zs = [] := List.eq_nil_of_length_eq_zero (by omega)
      have hy0 : ys = [] := List.eq_nil_of_length_eq_zero (by omega)
      subst hz0; subst hy0
      simp only [List.length_nil]
      clear hz hz' hc hc' hb hl hzs
      go_enter Try.func16, Try.ntmps16
      go_wp2
      go_rounds 1
      go_ret
      exact ⟨rfl, Below.refl _ _⟩
  · have hb : ((zs.length : Int) != (ys.length : Int)) = true := by rw [bne_iff_ne]; omega
    have hd : decide (zs = ys) = false := by rw [decide_eq_false_iff_not]; rintro rfl; exact hl rfl
    rw [hd]; clear hd
    go_enter Try.func16, Try.ntmps16
    go_wp2
    go_ret
    exact ⟨rfl, Below.refl _ _⟩

/-! toIntS: a slice of its own -/
theorem ints_of_row {w : World} {b : Nat} {zs : List Int} {f : Nat → Value} (h : w.rowIs b 3 zs.length f) (hf : ∀ i, i < zs.length → f i = .int .i64 (zs.getD i 0)) : IntsAt b w (.slice (some ⟨b, 0, none⟩) zs.length zs.length) zs :=
  ⟨_, _, rfl, Nat.le_refl _, Or.inr ⟨b, 0, rfl, Nat.le_refl _, fun i hi => by rw [Nat.zero_add, h.cell hi, hf i hi]⟩⟩

def copied (zs : List Int) (k : Nat) : Nat → Value := fun j => if j < k then .int .i64 (zs.getD j 0) else .int .i64 0

theorem copied_step (zs : List Int) (k : Nat) : (fun j => if j = k then Value.int .i64 (zs.getD k 0) else copied zs k j) = copied zs (k + 1) := by
  funext j
  unfold copied
  by_cases h : j = k
  · subst h; simp
  · rw [if_neg h]; by_cases h2 : j < k
    · rw [if_pos h2, if_pos (by omega)]
    · rw [if_neg h2, if_neg (by omega)]

set_option maxHeartbeats 400000 in
theorem toIntS_any (v : Value) (zs : List Int) (w : World) (lo : Nat) (hv : IntsAt lo w v zs) (hn : zs.length ≤ 1048576) :
    Calls Try.prog 224 #[v] w (RetInts w zs) := by
  obtain ⟨ao, cap, rfl, hc, hz⟩ := hv
  have hmk := run_make_row' (P := Try.prog) 28 3 (.int .i64 0) 8 Try.underlying28 Try.infoInt rfl .i64 .i64 zs.length (by omega) (by omega)
  have HF := Lib.hid hz; clear hz
  go_enter Try.func224, Try.ntmps224
  go_wp2
  go_loopw [4] (fun i wr => ∃ k : Nat, k ≤ zs.length ∧ i = .int .i64 k ∧ wr.rowIs w.heap.size 3 zs.length (copied zs k) ∧ Below w.heap.size w wr) (fun i _ => zs.length - (intOf i).toNat)
  case atStart => exact ⟨0, Nat.zero_le _, rfl, (World.rowIs_made _ _ _ _).congr (fun i _ => by simp [copied]), (Below.refl _ _).alloc (Nat.le_refl _) _⟩
  case round =>
    obtain ⟨k, hk, rfl, hrow, hb1⟩ := hrel
    by_cases hlt : k < zs.length
    · rcases HF.out with rfl | ⟨b, off, rfl, _, hcell⟩
      · simp at hlt
      have c1 := cell_keep (hcell k hlt) hb1 (Nat.le_refl _)
      have c2 := hrow.cell hlt
      have f2 := hrow.frozen k
      clear hcell
      go_wp2
      have h3 := hrow.set k (.int .i64 (zs.getD k 0))
      rw [copied_step, getD_eq hlt] at h3
      have h4 := hb1.setCell (p := ⟨w.heap.size, k, none⟩) (Nat.le_refl _) (.int .i64 zs[k])
      go_roundw
      case rel => exact ⟨k + 1, by omega, by go_num, h3, h4⟩
      case measure => simp [intOf]; omega
    · go_wp2
      go_ret
      exact ⟨_, rfl, ints_of_row hrow (fun i hi => by unfold copied; rw [if_pos (by omega)]), hb1⟩

end Go.Proofs.Ytgmnknlnlmcmfaa
