/- WALKS: l5Code, l5Bit, l5Set of the model. -/
import Derived.Test.YtnmoocgocnjdjaaVSgb
import Derived.Test.YtnmoocgocnjdjaaVSgp
import Derived.Deep.QuietTactic
import Derived.BigQuiet
namespace Go.Proofs.Ytnmoocgocnjdjaa
open Go.RowKit

theorem CodeTo.more {s : ByteArray} {k : Nat} (h : CodeTo s k) (hb : byN s k = 48 ∨ byN s k = 49) : CodeTo s (k + 1) := by
  intro i hi
  by_cases e : i = k
  · subst e; exact hb
  · exact h i (by omega)

set_option maxHeartbeats 1000000 in
theorem l5Code_any (s : ByteArray) (m : Nat) (w : World) (hs : s.size ≤ 1048576) (hm : m ≤ 1048576) :
    Calls Try.prog 90 #[.string s, .int .i64 (m : Int)] w (RetB w (codeB m s)) := by
  obtain ⟨g, hg⟩ : ∃ g, g = codeB m s := ⟨_, rfl⟩
  rw [← hg]
  have HG := Lib.hid hg; clear hg
  go_enter Try.func90, Try.ntmps90
  go_wp2_with fail
  go_loop [5] (fun i => ∃ k : Nat, k ≤ s.size ∧ i = .int .i64 k ∧ Hid (CodeTo s k)) (fun i => s.size - (intOf i).toNat)
  case atStart => exact ⟨0, Nat.zero_le _, rfl, fun i hi => absurd hi (Nat.not_lt_zero _)⟩
  case round =>
    obtain ⟨k, hk, rfl, hall⟩ := hrel
    by_cases hp : k < s.size
    · have hby : (s[k]'hp).toNat = byN s k := (byN_get hp).symm
      have hbl := byN_lt s k
      by_cases hb : byN s k = 48 ∨ byN s k = 49
      · have H2 := Lib.hid (hall.out.more hb)
        rcases hb with hb | hb
        · have t0 : (((byN s k : Nat) : Int) != 48) = false := by rw [hb]; rfl
          clear hb
          go_wp2_with fail
          go_round
          case rel => exact ⟨k + 1, by omega, by go_num, H2⟩
          case measure => simp [intOf]; omega
        · have t0 : (((byN s k : Nat) : Int) != 48) = true := by rw [hb]; rfl
          have t1 : (((byN s k : Nat) : Int) != 49) = false := by rw [hb]; rfl
          clear hb
          go_wp2_with fail
          go_round
          case rel => exact ⟨k + 1, by omega, by go_num, H2⟩
          case measure => simp [intOf]; omega
      · have e := HG.out
        rw [codeB_bad hp hb] at e
        subst e
        have t0 : (((byN s k : Nat) : Int) != 48) = true := by rw [bne_iff_ne]; omega
        have t1 : (((byN s k : Nat) : Int) != 49) = true := by rw [bne_iff_ne]; omega
        clear hb
        go_wp2_with fail
        go_ret
        exact ⟨rfl, Below.refl _ _⟩
    · have hkk : k = s.size := by omega
      subst hkk
      have e := HG.out
      rw [codeB_all hall.out] at e
      by_cases hsz : s.size = m
      · rw [decide_eq_true hsz] at e
        subst e
        have t0 : ((s.size : Int) == (m : Int)) = true := by rw [beq_iff_eq]; omega
        have HZ := Lib.hid hsz; clear hsz
        go_wp2_with fail
        go_ret
        exact ⟨rfl, Below.refl _ _⟩
      · rw [decide_eq_false hsz] at e
        subst e
        have t0 : ((s.size : Int) == (m : Int)) = false := by rw [beq_eq_false_iff_ne]; omega
        have HZ := Lib.hid hsz; clear hsz
        go_wp2_with fail
        go_ret
        exact ⟨rfl, Below.refl _ _⟩

def bitS (u : Bool) : ByteArray := if u then ⟨#[49]⟩ else ⟨#[48]⟩
theorem l5Bit_q (u : Bool) (w : World) : Calls Try.prog 122 #[.bool u] w (fun e w' => e = .returned (.string (bitS u)) ∧ w' = w) := by
  cases u with
  | true =>
    go_enter Try.func122, Try.ntmps122
    go_wp2_with fail
    go_ret
    exact ⟨rfl, rfl⟩
  | false =>
    go_enter Try.func122, Try.ntmps122
    go_wp2_with fail
    go_ret
    exact ⟨rfl, rfl⟩

def setS (s : ByteArray) (k : Nat) (b : ByteArray) : ByteArray := s.extract 0 k ++ b ++ s.extract (k + 1) s.size

set_option maxHeartbeats 1000000 in
theorem l5Set_q (s : ByteArray) (k : Nat) (b : ByteArray) (w : World) (hs : s.size ≤ 1048576) (hb : b.size ≤ 1) (hk : k < s.size) :
    Calls Try.prog 121 #[.string s, .int .i64 (k : Int), .string b] w (fun e w' => e = .returned (.string (setS s k b)) ∧ ∃ m, w' = w.drewN m) := by
  go_enter Try.func121, Try.ntmps121
  go_wp2_with fail
  go_quiet (fail)
  go_wp2_with fail
  go_ret
  exact ⟨rfl, nq, rfl⟩

theorem byN_append_left {a b : ByteArray} {i : Nat} (h : i < a.size) : byN (a ++ b) i = byN a i := by
  have h' : i < a.data.size := h
  unfold byN
  rw [ByteArray.data_append, Array.getD_eq_getD_getElem?, Array.getD_eq_getD_getElem?, Array.getElem?_append_left h']
theorem byN_append_right {a b : ByteArray} {i : Nat} (h : a.size ≤ i) : byN (a ++ b) i = byN b (i - a.size) := by
  have h' : a.data.size ≤ i := h
  unfold byN
  rw [ByteArray.data_append, Array.getD_eq_getD_getElem?, Array.getD_eq_getD_getElem?, Array.getElem?_append_right h']
  rfl
theorem byN_extract {s : ByteArray} {i j p : Nat} (hj : j ≤ s.size) (h : i + p < j) : byN (s.extract i j) p = byN s (i + p) := by
  have hd : (s.extract i j).data = s.data.extract i j := by simp
  have hj' : j ≤ s.data.size := hj
  unfold byN
  rw [hd, Array.getD_eq_getD_getElem?, Array.getD_eq_getD_getElem?, Array.getElem?_extract_of_lt (by omega), Array.getElem?_eq_getElem (by omega : i + p < s.data.size)]
theorem size_ext {s : ByteArray} {i j : Nat} (hj : j ≤ s.size) : (s.extract i j).size = j - i := by
  rw [ByteArray.size_extract]; omega
theorem setS_size {s b : ByteArray} {k : Nat} (hk : k < s.size) (hb : b.size = 1) : (setS s k b).size = s.size := by
  unfold setS
  rw [ByteArray.size_append, ByteArray.size_append, size_ext (by omega), size_ext (Nat.le_refl _), hb]
  omega
theorem setS_at {s b : ByteArray} {k i : Nat} (hk : k < s.size) (hb : b.size = 1) (hi : i < s.size) : byN (setS s k b) i = if i = k then byN b 0 else byN s i := by
  have e1 : (s.extract 0 k).size = k := by rw [size_ext (by omega)]; omega
  have e2 : (s.extract 0 k ++ b).size = k + 1 := by rw [ByteArray.size_append, e1, hb]
  unfold setS
  by_cases h1 : i < k
  · rw [byN_append_left (by omega), byN_append_left (by omega), byN_extract (by omega) (by omega), if_neg (by omega), Nat.zero_add]
  · by_cases h2 : i = k
    · subst h2
      rw [byN_append_left (by omega), byN_append_right (by omega), if_pos rfl, e1, Nat.sub_self]
    · rw [byN_append_right (by omega), if_neg h2, e2, byN_extract (Nat.le_refl _) (by omega)]
      congr 1; omega
theorem bitS_size (u : Bool) : (bitS u).size = 1 := by cases u <;> rfl
theorem bitS_at (u : Bool) : byN (bitS u) 0 = bitN u := by cases u <;> rfl
/-- an edge of signal k: what the model asks of the two codes is what the program asks -/
theorem flip_edge {m k : Nat} {u : Bool} {X Y : ByteArray} (hX : codeB m X = true) (hY : codeB m Y = true) (hk : k < m) :
    (decide (X = setS Y k (bitS (!u))) && decide (Y = setS X k (bitS u))) = flipB m (k : Int) u X Y := by
  have sX := codeB_size hX
  have sY := codeB_size hY
  have bk := codeB_bit hX hk
  rw [Bool.eq_iff_iff, Bool.and_eq_true, decide_eq_true_eq, decide_eq_true_eq]
  constructor
  · rintro ⟨h1, h2⟩
    refine flipB_good fun q hq => ?_
    have e1 : byN X q = if q = k then byN (bitS (!u)) 0 else byN Y q := by
      have := setS_at (s := Y) (b := bitS (!u)) (k := k) (i := q) (by omega) (bitS_size _) (by omega)
      rw [← h1] at this; exact this
    have e2 : byN Y q = if q = k then byN (bitS u) 0 else byN X q := by
      have := setS_at (s := X) (b := bitS u) (k := k) (i := q) (by omega) (bitS_size _) (by omega)
      rw [← h2] at this; exact this
    rw [bitS_at] at e1 e2
    unfold FlipAt
    by_cases e : q = k
    · subst e
      rw [if_pos rfl] at e1 e2 ⊢
      refine ⟨e2, fun _ => ?_⟩
      rw [e1, e2]
      cases u <;> simp [bitN]
    · rw [if_neg e] at e1 e2
      have ne : ¬ (k : Int) = (q : Int) := by omega
      rw [if_neg ne]
      exact ⟨e2, fun h => absurd h ne⟩
  · intro h
    have h := of_decide_eq_true h
    constructor
    · refine bytes_ext (by rw [setS_size (by omega) (bitS_size _)]; omega) fun q hq => ?_
      have hf := h q (by omega)
      unfold FlipAt at hf
      rw [setS_at (by omega) (bitS_size _) (by omega), bitS_at]
      by_cases e : q = k
      · subst e
        rw [if_pos rfl]
        rw [if_pos rfl] at hf
        have := hf.2 rfl
        cases u <;> simp [bitN] at hf ⊢ <;> omega
      · rw [if_neg e]
        rw [if_neg (by omega)] at hf
        exact hf.1.symm
    · refine bytes_ext (by rw [setS_size (by omega) (bitS_size _)]; omega) fun q hq => ?_
      have hf := h q (by omega)
      unfold FlipAt at hf
      rw [setS_at (by omega) (bitS_size _) (by omega), bitS_at]
      by_cases e : q = k
      · subst e
        rw [if_pos rfl]
        rw [if_pos rfl] at hf
        exact hf.1
      · rw [if_neg e]
        rw [if_neg (by omega)] at hf
        exact hf.1
/-- a silent arc -/
theorem flip_silent {m : Nat} {u : Bool} {X Y : ByteArray} (hX : codeB m X = true) (hY : codeB m Y = true) : decide (X = Y) = flipB m (-1) u X Y := by
  have sX := codeB_size hX
  have sY := codeB_size hY
  rw [Bool.eq_iff_iff, decide_eq_true_eq]
  constructor
  · rintro rfl
    refine flipB_good fun q _ => ?_
    unfold FlipAt
    have ne : ¬ (-1 : Int) = (q : Int) := by omega
    rw [if_neg ne]
    exact ⟨rfl, fun h => absurd h ne⟩
  · intro h
    have h := of_decide_eq_true h
    refine bytes_ext (by omega) fun q hq => ?_
    have hf := h q (by omega)
    unfold FlipAt at hf
    rw [if_neg (by omega)] at hf
    exact hf.1.symm

end Go.Proofs.Ytnmoocgocnjdjaa
