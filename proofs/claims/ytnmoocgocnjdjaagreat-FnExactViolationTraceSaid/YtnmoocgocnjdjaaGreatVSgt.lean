/- WALKS: l5Code, l5Bit, l5Set of the model.
   WALK: l5Arc of the model. -/
import Derived.Test.YtnmoocgocnjdjaaGreatVSgb
import Derived.Test.YtnmoocgocnjdjaaGreatVSgp
import Derived.Deep.QuietTactic
import Derived.BigQuiet
import Derived.Test.YtnmoocgocnjdjaaGreatVSigv
import Derived.Deep.RegionHeld3
namespace Go.Proofs.YtnmoocgocnjdjaaGreat
open Go.RowKit

theorem CodeTo.more {s : ByteArray} {k : Nat} (h : CodeTo s k) (hb : byN s k = 48 ∨ byN s k = 49) : CodeTo s (k + 1) := by
  intro i hi
  by_cases e : i = k
  · subst e; exact hb
  · exact h i (by omega)

set_option maxHeartbeats 1000000 in
theorem l5Code_any (s : ByteArray) (m : Nat) (w : World) (hs : s.size ≤ 1048576) (hm : m ≤ 1048576) :
    Calls Tryz.prog 135 #[.string s, .int .i64 (m : Int)] w (RetB w (codeB m s)) := by
  obtain ⟨g, hg⟩ : ∃ g, g = codeB m s := ⟨_, rfl⟩
  rw [← hg]
  have HG := Lib.hid hg; clear hg
  go_enter Tryz.func135, Tryz.ntmps135
  go_wp2_with fail
  go_loop [5] (fun i => ∃ k : Nat, k ≤ s.size ∧ i = .int .i64 k ∧ Hid (CodeTo s k)) (fun i => s.size - (intOf i).toNat)
  case atStart => exact ⟨0, Nat.zero_le _, rfl, fun i hi => absurd hi (Nat.not_lt_zero _)⟩
  case round =>
    obtain ⟨k, hk, rfl, hall⟩ := hrel
    by_cases hp : k < s.size
    · have hby : (s[k]'hp).toNat = byN s k := (byN_get hp).symm
      have hbl := byN_lt s k
      by_cases hb : byN s k = 48 ∨ byN s k = 49
      · have H2 := Lib.hid (hall.out.more hb)
        rcases hb with hb | hb
        · have t0 : (((byN s k : Nat) : Int) != 48) = false := by rw [hb]; rfl
          clear hb
          go_wp2_with fail
          go_round
          case rel => exact ⟨k + 1, by omega, by go_num, H2⟩
          case measure => simp [intOf]; omega
        · have t0 : (((byN s k : Nat) : Int) != 48) = true := by rw [hb]; rfl
          have t1 : (((byN s k : Nat) : Int) != 49) = false := by rw [hb]; rfl
          clear hb
          go_wp2_with fail
          go_round
          case rel => exact ⟨k + 1, by omega, by go_num, H2⟩
          case measure => simp [intOf]; omega
      · have e := HG.out
        rw [codeB_bad hp hb] at e
        subst e
        have t0 : (((byN s k : Nat) : Int) != 48) = true := by rw [bne_iff_ne]; omega
        have t1 : (((byN s k : Nat) : Int) != 49) = true := by rw [bne_iff_ne]; omega
        clear hb
        go_wp2_with fail
        go_ret
        exact ⟨rfl, Below.refl _ _⟩
    · have hkk : k = s.size := by omega
      subst hkk
      have e := HG.out
      rw [codeB_all hall.out] at e
      by_cases hsz : s.size = m
      · rw [decide_eq_true hsz] at e
        subst e
        have t0 : ((s.size : Int) == (m : Int)) = true := by rw [beq_iff_eq]; omega
        have HZ := Lib.hid hsz; clear hsz
        go_wp2_with fail
        go_ret
        exact ⟨rfl, Below.refl _ _⟩
      · rw [decide_eq_false hsz] at e
        subst e
        have t0 : ((s.size : Int) == (m : Int)) = false := by rw [beq_eq_false_iff_ne]; omega
        have HZ := Lib.hid hsz; clear hsz
        go_wp2_with fail
        go_ret
        exact ⟨rfl, Below.refl _ _⟩

def bitS (u : Bool) : ByteArray := if u then ⟨#[49]⟩ else ⟨#[48]⟩
theorem l5Bit_q (u : Bool) (w : World) : Calls Tryz.prog 178 #[.bool u] w (fun e w' => e = .returned (.string (bitS u)) ∧ w' = w) := by
  cases u with
  | true =>
    go_enter Tryz.func178, Tryz.ntmps178
    go_wp2_with fail
    go_ret
    exact ⟨rfl, rfl⟩
  | false =>
    go_enter Tryz.func178, Tryz.ntmps178
    go_wp2_with fail
    go_ret
    exact ⟨rfl, rfl⟩

def setS (s : ByteArray) (k : Nat) (b : ByteArray) : ByteArray := s.extract 0 k ++ b ++ s.extract (k + 1) s.size

set_option maxHeartbeats 1000000 in
theorem l5Set_q (s : ByteArray) (k : Nat) (b : ByteArray) (w : World) (hs : s.size ≤ 1048576) (hb : b.size ≤ 1) (hk : k < s.size) :
    Calls Tryz.prog 177 #[.string s, .int .i64 (k : Int), .string b] w (fun e w' => e = .returned (.string (setS s k b)) ∧ ∃ m, w' = w.drewN m) := by
  go_enter Tryz.func177, Tryz.ntmps177
  go_wp2_with fail
  go_quiet (fail)
  go_wp2_with fail
  go_ret
  exact ⟨rfl, nq, rfl⟩

theorem byN_append_left {a b : ByteArray} {i : Nat} (h : i < a.size) : byN (a ++ b) i = byN a i := by
  have h' : i < a.data.size := h
  unfold byN
  rw [ByteArray.data_append, Array.getD_eq_getD_getElem?, Array.getD_eq_getD_getElem?, Array.getElem?_append_left h']
theorem byN_append_right {a b : ByteArray} {i : Nat} (h : a.size ≤ i) : byN (a ++ b) i = byN b (i - a.size) := by
  have h' : a.data.size ≤ i := h
  unfold byN
  rw [ByteArray.data_append, Array.getD_eq_getD_getElem?, Array.getD_eq_getD_getElem?, Array.getElem?_append_right h']
  rfl
theorem byN_extract {s : ByteArray} {i j p : Nat} (hj : j ≤ s.size) (h : i + p < j) : byN (s.extract i j) p = byN s (i + p) := by
  have hd : (s.extract i j).data = s.data.extract i j := by simp
  have hj' : j ≤ s.data.size := hj
  unfold byN
  rw [hd, Array.getD_eq_getD_getElem?, Array.getD_eq_getD_getElem?, Array.getElem?_extract_of_lt (by omega), Array.getElem?_eq_getElem (by omega : i + p < s.data.size)]
theorem size_ext {s : ByteArray} {i j : Nat} (hj : j ≤ s.size) : (s.extract i j).size = j - i := by
  rw [ByteArray.size_extract]; omega
theorem setS_size {s b : ByteArray} {k : Nat} (hk : k < s.size) (hb : b.size = 1) : (setS s k b).size = s.size := by
  unfold setS
  rw [ByteArray.size_append, ByteArray.size_append, size_ext (by omega), size_ext (Nat.le_refl _), hb]
  omega
theorem setS_at {s b : ByteArray} {k i : Nat} (hk : k < s.size) (hb : b.size = 1) (hi : i < s.size) : byN (setS s k b) i = if i = k then byN b 0 else byN s i := by
  have e1 : (s.extract 0 k).size = k := by rw [size_ext (by omega)]; omega
  have e2 : (s.extract 0 k ++ b).size = k + 1 := by rw [ByteArray.size_append, e1, hb]
  unfold setS
  by_cases h1 : i < k
  · rw [byN_append_left (by omega), byN_append_left (by omega), byN_extract (by omega) (by omega), if_neg (by omega), Nat.zero_add]
  · by_cases h2 : i = k
    · subst h2
      rw [byN_append_left (by omega), byN_append_right (by omega), if_pos rfl, e1, Nat.sub_self]
    · rw [byN_append_right (by omega), if_neg h2, e2, byN_extract (Nat.le_refl _) (by omega)]
      congr 1; omega
theorem bitS_size (u : Bool) : (bitS u).size = 1 := by cases u <;> rfl
theorem bitS_at (u : Bool) : byN (bitS u) 0 = bitN u := by cases u <;> rfl
/-- an edge of signal k: what the model asks of the two codes is what the program asks -/
theorem flip_edge {m k : Nat} {u : Bool} {X Y : ByteArray} (hX : codeB m X = true) (hY : codeB m Y = true) (hk : k < m) :
    (decide (X = setS Y k (bitS (!u))) && decide (Y = setS X k (bitS u))) = flipB m (k : Int) u X Y := by
  have sX := codeB_size hX
  have sY := codeB_size hY
  have bk := codeB_bit hX hk
  rw [Bool.eq_iff_iff, Bool.and_eq_true, decide_eq_true_eq, decide_eq_true_eq]
  constructor
  · rintro ⟨h1, h2⟩
    refine flipB_good fun q hq => ?_
    have e1 : byN X q = if q = k then byN (bitS (!u)) 0 else byN Y q := by
      have := setS_at (s := Y) (b := bitS (!u)) (k := k) (i := q) (by omega) (bitS_size _) (by omega)
      rw [← h1] at this; exact this
    have e2 : byN Y q = if q = k then byN (bitS u) 0 else byN X q := by
      have := setS_at (s := X) (b := bitS u) (k := k) (i := q) (by omega) (bitS_size _) (by omega)
      rw [← h2] at this; exact this
    rw [bitS_at] at e1 e2
    unfold FlipAt
    by_cases e : q = k
    · subst e
      rw [if_pos rfl] at e1 e2 ⊢
      refine ⟨e2, fun _ => ?_⟩
      rw [e1, e2]
      cases u <;> simp [bitN]
    · rw [if_neg e] at e1 e2
      have ne : ¬ (k : Int) = (q : Int) := by omega
      rw [if_neg ne]
      exact ⟨e2, fun h => absurd h ne⟩
  · intro h
    have h := of_decide_eq_true h
    constructor
    · refine bytes_ext (by rw [setS_size (by omega) (bitS_size _)]; omega) fun q hq => ?_
      have hf := h q (by omega)
      unfold FlipAt at hf
      rw [setS_at (by omega) (bitS_size _) (by omega), bitS_at]
      by_cases e : q = k
      · subst e
        rw [if_pos rfl]
        rw [if_pos rfl] at hf
        have := hf.2 rfl
        cases u <;> simp [bitN] at hf ⊢ <;> omega
      · rw [if_neg e]
        rw [if_neg (by omega)] at hf
        exact hf.1.symm
    · refine bytes_ext (by rw [setS_size (by omega) (bitS_size _)]; omega) fun q hq => ?_
      have hf := h q (by omega)
      unfold FlipAt at hf
      rw [setS_at (by omega) (bitS_size _) (by omega), bitS_at]
      by_cases e : q = k
      · subst e
        rw [if_pos rfl]
        rw [if_pos rfl] at hf
        exact hf.1
      · rw [if_neg e]
        rw [if_neg (by omega)] at hf
        exact hf.1
/-- a silent arc -/
theorem flip_silent {m : Nat} {u : Bool} {X Y : ByteArray} (hX : codeB m X = true) (hY : codeB m Y = true) : decide (X = Y) = flipB m (-1) u X Y := by
  have sX := codeB_size hX
  have sY := codeB_size hY
  rw [Bool.eq_iff_iff, decide_eq_true_eq]
  constructor
  · rintro rfl
    refine flipB_good fun q _ => ?_
    unfold FlipAt
    have ne : ¬ (-1 : Int) = (q : Int) := by omega
    rw [if_neg ne]
    exact ⟨rfl, fun h => absurd h ne⟩
  · intro h
    have h := of_decide_eq_true h
    refine bytes_ext (by omega) fun q hq => ?_
    have hf := h q (by omega)
    unfold FlipAt at hf
    rw [if_neg (by omega)] at hf
    exact hf.1.symm

end Go.Proofs.YtnmoocgocnjdjaaGreat

namespace Go.Proofs.YtnmoocgocnjdjaaGreat
open Go.RowKit

theorem l2LabelV_any (a : Int) (u : Bool) (m : Nat) (w : World) (hm : m ≤ 1048576) :
    Calls Tryz.prog 176 #[.agg #[.int .i64 a, .bool u], .int .i64 m] w (RetB w (labV m a u)) := by
  have h := l2Label_any [(a, u)] 0 m w hm
  rw [labV_eq] at h
  exact h

set_option maxRecDepth 100000 in
set_option maxHeartbeats 4000000 in
theorem l5Arc_any (v : Value) (r : SgD) (f s : Int) (u : Bool) (t : Int) (w : World) (lo : Nat) (hv : SgAt lo w v r) (hs : SmallSg r) (hco : codesB r.sigs.length r.codes = true) :
    Calls Tryz.prog 136 #[v, .agg #[.int .i64 f, .int .i64 s, .bool u, .int .i64 t]] w (RetB w (arcV r.sigs.length r.codes f s u t)) := by
  obtain ⟨g, hg⟩ : ∃ g, g = arcV r.sigs.length r.codes f s u t := ⟨_, rfl⟩
  rw [← hg]
  obtain ⟨a0, c0, a1, c1, a2, c2, rfl, h_0, hm, h_2⟩ := hv.form
  clear hv h_0 h_2
  obtain ⟨gs, ss, ls⟩ := r
  obtain ⟨k0, k1, k2⟩ := hs
  simp only at hm k0 k1 k2 hg hco ⊢
  have HM := Lib.hid hm; clear hm
  have HG := Lib.hid hg; clear hg
  have HCO := Lib.hid hco; clear hco
  have K0 := k0.1
  have K1 := k1.1
  have HK := Lib.hid k1.2
  clear k0 k1
  obtain ⟨m, hm⟩ : ∃ m, m = gs.length := ⟨_, rfl⟩
  rw [← hm] at HG HCO K0 ⊢
  clear hm
  go_enter Tryz.func136, Tryz.ntmps136
  go_wp2_with fail
  refine (l1In_any _ _ _ _).mono ?_
  rintro e w1 ⟨rfl, hb⟩
  have hw1 : Below w.heap.size w w1 := by
    refine Below.trans ?_ (hb.mono ?_)
    · (repeat' (first | (with_reducible exact Below.refl _ _) | (with_reducible assumption) | (with_reducible refine Below.alloc ?_ ?_ _) | (with_reducible refine Below.drew ?_) | (with_reducible refine below_drewN ?_ _) | (with_reducible refine Below.setCell ?_ ?_ _) | go_size))
    · simp; omega
  have x0 : w1.cell? ⟨w.heap.size, 0, none⟩ = some (.slice a0 m c0) := cell_carry (by simp) (Carries.of 0 hb)
  have x1 : w1.cell? ⟨w.heap.size, 1, none⟩ = some (.slice a1 ss.length c1) := cell_carry (by simp) (Carries.of 0 hb)
  have y0 : w1.cell? ⟨w.heap.size + 1, 0, none⟩ = some (.int .i64 f) := cell_carry (by simp) (Carries.of 0 hb)
  have y1 : w1.cell? ⟨w.heap.size + 1, 1, none⟩ = some (.int .i64 s) := cell_carry (by simp) (Carries.of 0 hb)
  have y2 : w1.cell? ⟨w.heap.size + 1, 2, none⟩ = some (.bool u) := cell_carry (by simp) (Carries.of 0 hb)
  have y3 : w1.cell? ⟨w.heap.size + 1, 3, none⟩ = some (.int .i64 t) := cell_carry (by simp) (Carries.of 0 hb)
  have z1 : w.heap.size + 1 < w1.heap.size := by have := hb.size; simp at this; omega
  clear hb
  by_cases h1 : 0 ≤ f ∧ f < ss.length
  case neg =>
    have e := HG.out
    unfold arcV arcIn at e
    rw [decide_eq_false (fun h => h1 h.1), Bool.false_and] at e
    subst e
    have hd : decide ((0 : Int) ≤ f ∧ f ≤ (ss.length : Int) - 1) = false := decide_eq_false (by omega)
    rw [hd]
    clear h1 hd
    go_wp2_with fail
    go_ret
    exact ⟨rfl, hw1⟩
  have hd : decide ((0 : Int) ≤ f ∧ f ≤ (ss.length : Int) - 1) = true := decide_eq_true (by omega)
  rw [hd]; clear hd
  go_wp2_with fail
  refine (l1In_any _ _ _ _).mono ?_
  rintro e w2 ⟨rfl, hb⟩
  have hw2 : Below w.heap.size w w2 := hw1.trans (hb.mono hw1.size)
  have x0 := cell_carry x0 (Carries.of 0 hb)
  have x1 := cell_carry x1 (Carries.of 0 hb)
  have y0 := cell_carry y0 (Carries.of 0 hb)
  have y1 := cell_carry y1 (Carries.of 0 hb)
  have y2 := cell_carry y2 (Carries.of 0 hb)
  have y3 := cell_carry y3 (Carries.of 0 hb)
  have z2 : w.heap.size + 1 < w2.heap.size := by have := hb.size; omega
  clear hb hw1 z1
  by_cases h2 : 0 ≤ t ∧ t < ss.length
  case neg =>
    have e := HG.out
    unfold arcV arcIn at e
    rw [decide_eq_false (fun h => h2 h.2), Bool.false_and] at e
    subst e
    have hd : decide ((0 : Int) ≤ t ∧ t ≤ (ss.length : Int) - 1) = false := decide_eq_false (by omega)
    rw [hd]
    clear h2 hd
    go_wp2_with fail
    go_ret
    exact ⟨rfl, hw2⟩
  have hd : decide ((0 : Int) ≤ t ∧ t ≤ (ss.length : Int) - 1) = true := decide_eq_true (by omega)
  rw [hd]; clear hd
  have e := HG.out
  unfold arcV arcIn at e
  rw [decide_eq_true ⟨h1, h2⟩, Bool.true_and] at e
  have HG2 := Lib.hid e; clear e HG
  obtain ⟨fn, hfn⟩ := Int.eq_ofNat_of_zero_le h1.1
  obtain ⟨tn, htn⟩ := Int.eq_ofNat_of_zero_le h2.1
  subst hfn; subst htn
  have hf1 : fn < ss.length := by omega
  have ht1 : tn < ss.length := by omega
  clear h1 h2
  have HCF := Lib.hid (codesB_at HCO.out hf1)
  have HCT := Lib.hid (codesB_at HCO.out ht1)
  have zf : (stN ss fn).size ≤ 1048576 := HK.out _ hf1
  have zt : (stN ss tn).size ≤ 1048576 := HK.out _ ht1
  have hzf : m ≤ (stN ss fn).size ∧ (stN ss fn).size ≤ m := by have := codeB_size HCF.out; omega
  have hzt : m ≤ (stN ss tn).size ∧ (stN ss tn).size ≤ m := by have := codeB_size HCT.out; omega
  obtain ⟨hzf1, hzf2⟩ := hzf
  obtain ⟨hzt1, hzt2⟩ := hzt
  simp only [Int.toNat_natCast] at HG2
  rcases HM.out with ⟨ao, cap, hvv, hc, hz⟩
  injection hvv with e1 e2 e3
  subst e1; subst e3; clear e2
  rcases hz with h0 | ⟨b, off, rfl, hlo, hcell⟩
  · omega
  have C0 := hcell fn hf1
  have C1 := hcell tn ht1
  clear hcell
  generalize stN ss fn = X at HCF zf hzf1 hzf2 HG2 C0
  generalize stN ss tn = Y at HCT zt hzt1 hzt2 HG2 C1
  go_wp2_with fail
  refine (l2LabelV_any _ _ _ _ K0).mono ?_
  rintro e w3 ⟨rfl, hb⟩
  have hw3 : Below w.heap.size w w3 := hw2.trans (hb.mono hw2.size)
  have x0 := cell_carry x0 (Carries.of 0 hb)
  have x1 := cell_carry x1 (Carries.of 0 hb)
  have y0 := cell_carry y0 (Carries.of 0 hb)
  have y1 := cell_carry y1 (Carries.of 0 hb)
  have y2 := cell_carry y2 (Carries.of 0 hb)
  have y3 := cell_carry y3 (Carries.of 0 hb)
  have z3 : w.heap.size + 1 < w3.heap.size := by have := hb.size; omega
  clear hb hw2 z2
  cases hlab : labV m s u with
  | false =>
    have e := HG2.out
    rw [hlab, Bool.false_and] at e
    subst e
    clear hlab
    go_wp2_with fail
    go_ret
    exact ⟨rfl, hw3⟩
  | true =>
  have e := HG2.out
  rw [hlab, Bool.true_and] at e
  have HG3 := Lib.hid e; clear e HG2
  have D0 := Carries.of lo hw3 _ _ hlo C0
  have D1 := Carries.of lo hw3 _ _ hlo C1
  have hi1 : (fn : Int) < (ss.length : Int) := by omega
  have hi2 : (tn : Int) < (ss.length : Int) := by omega
  have hi3 : (0 : Int) ≤ (fn : Int) := Int.natCast_nonneg _
  have hi4 : (0 : Int) ≤ (tn : Int) := Int.natCast_nonneg _
  by_cases hneg : s < 0
  · have hs1 : s = -1 := by
      unfold labV at hlab
      simp only [Bool.or_eq_true, Bool.and_eq_true, decide_eq_true_eq] at hlab
      omega
    have e := HG3.out
    rw [hs1, ← flip_silent HCF.out HCT.out] at e
    have hcmp : (X.toList == Y.toList) = g := by rw [bytes_toList_beq]; exact e.symm
    have HS1 := Lib.hid hs1
    clear hlab e hs1
    go_wp2_with fail
    go_quiet (fail)
    go_wp2_with fail
    go_ret
    exact ⟨rfl, below_drewN hw3 _⟩
  · obtain ⟨sn, hsn⟩ := Int.eq_ofNat_of_zero_le (by omega : 0 ≤ s)
    subst hsn
    have hsm : sn < m := by
      unfold labV at hlab
      simp only [Bool.or_eq_true, Bool.and_eq_true, decide_eq_true_eq] at hlab
      omega
    have e := HG3.out
    rw [← flip_edge HCF.out HCT.out hsm] at e
    have hs0 : (0 : Int) ≤ (sn : Int) := Int.natCast_nonneg _
    clear hlab hneg
    have b1 := bitS_size u
    have b2 := bitS_size (!u)
    have b1' : (bitS u).size ≤ 1 := by omega
    have b2' : (bitS (!u)).size ≤ 1 := by omega
    have hsX : sn < X.size := by omega
    have hsY : sn < Y.size := by omega
    clear b1 b2
    go_wp2_with fail
    go_quiet (fail)
    go_wp2_with fail
    have y1 : (w3.drewN nq).cell? ⟨w.heap.size + 1, 1, none⟩ = some (.int .i64 (sn : Int)) := y1
    have y2 : (w3.drewN nq).cell? ⟨w.heap.size + 1, 2, none⟩ = some (.bool u) := y2
    have hwq : Below w.heap.size w (w3.drewN nq) := below_drewN hw3 _
    generalize w3.drewN nq = W at y1 y2 hwq ⊢
    have g1 : (X.toList == (setS Y sn (bitS (!u))).toList) = decide (X = setS Y sn (bitS (!u))) := bytes_toList_beq _ _
    have g2 : (Y.toList == (setS X sn (bitS u)).toList) = decide (Y = setS X sn (bitS u)) := bytes_toList_beq _ _
    cases hd1 : decide (X = setS Y sn (bitS (!u))) with
    | false =>
      rw [hd1] at g1 e
      rw [Bool.false_and] at e
      subst e
      clear hd1 g2
      go_quiet (first | with_reducible refine Calls.quiet_of_same (l5Bit_q _ _) | with_reducible refine Calls.quiet_of (l5Set_q _ _ _ _ zt b2' hsY))
      go_wp2_with fail
      go_ret
      exact ⟨rfl, below_drewN hwq _⟩
    | true =>
      rw [hd1] at g1 e
      rw [Bool.true_and] at e
      rw [← e] at g2
      clear hd1 e
      go_quiet (first | with_reducible refine Calls.quiet_of_same (l5Bit_q _ _) | with_reducible refine Calls.quiet_of (l5Set_q _ _ _ _ zt b2' hsY) | with_reducible refine Calls.quiet_of (l5Set_q _ _ _ _ zf b1' hsX))
      go_wp2_with fail
      go_ret
      exact ⟨rfl, below_drewN hwq _⟩

end Go.Proofs.YtnmoocgocnjdjaaGreat
