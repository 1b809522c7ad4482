/- WALKS: isLetter, isDigit, isSignalName, findSignal, areSignals of the program. -/
import Derived.Test.YtigkgfdnnfmmmaaVSigv
import Derived.Deep.RegionHeld3
namespace Go.Proofs.Ytigkgfdnnfmmmaa
open Go.RowKit

set_option maxHeartbeats 400000 in
theorem isLetter_any (x : Nat) (w : World) (hx : x ≤ 255) :
    Calls Try.prog 131 #[.int .u8 (x : Int)] w (RetB w (decide (97 ≤ x ∧ x ≤ 122))) := by
  by_cases h1 : 97 ≤ x
  · by_cases h2 : x ≤ 122
    · rw [decide_eq_true ⟨h1, h2⟩]
      have t2 : decide ((x : Int) ≤ 122) = true := decide_eq_true (by omega)
      go_enter Try.func131, Try.ntmps131
      go_wp2_with fail
      go_ret
      exact ⟨rfl, by (repeat' (first | (with_reducible exact Below.refl _ _) | (with_reducible assumption) | (with_reducible refine Below.alloc ?_ ?_ _) | (with_reducible refine Below.drew ?_) | (with_reducible refine below_drewN ?_ _) | (with_reducible refine Below.setCell ?_ ?_ _) | go_size))⟩
    · rw [decide_eq_false (by omega)]
      have t2 : decide ((x : Int) ≤ 122) = false := decide_eq_false (by omega)
      go_enter Try.func131, Try.ntmps131
      go_wp2_with fail
      go_ret
      exact ⟨rfl, by (repeat' (first | (with_reducible exact Below.refl _ _) | (with_reducible assumption) | (with_reducible refine Below.alloc ?_ ?_ _) | (with_reducible refine Below.drew ?_) | (with_reducible refine below_drewN ?_ _) | (with_reducible refine Below.setCell ?_ ?_ _) | go_size))⟩
  · rw [decide_eq_false (by omega)]
    go_enter Try.func131, Try.ntmps131
    go_wp2_with fail
    go_ret
    exact ⟨rfl, by (repeat' (first | (with_reducible exact Below.refl _ _) | (with_reducible assumption) | (with_reducible refine Below.alloc ?_ ?_ _) | (with_reducible refine Below.drew ?_) | (with_reducible refine below_drewN ?_ _) | (with_reducible refine Below.setCell ?_ ?_ _) | go_size))⟩

set_option maxHeartbeats 400000 in
theorem isDigit_any (x : Nat) (w : World) (hx : x ≤ 255) :
    Calls Try.prog 132 #[.int .u8 (x : Int)] w (RetB w (decide (48 ≤ x ∧ x ≤ 57))) := by
  by_cases h1 : 48 ≤ x
  · by_cases h2 : x ≤ 57
    · rw [decide_eq_true ⟨h1, h2⟩]
      have t2 : decide ((x : Int) ≤ 57) = true := decide_eq_true (by omega)
      go_enter Try.func132, Try.ntmps132
      go_wp2_with fail
      go_ret
      exact ⟨rfl, by (repeat' (first | (with_reducible exact Below.refl _ _) | (with_reducible assumption) | (with_reducible refine Below.alloc ?_ ?_ _) | (with_reducible refine Below.drew ?_) | (with_reducible refine below_drewN ?_ _) | (with_reducible refine Below.setCell ?_ ?_ _) | go_size))⟩
    · rw [decide_eq_false (by omega)]
      have t2 : decide ((x : Int) ≤ 57) = false := decide_eq_false (by omega)
      go_enter Try.func132, Try.ntmps132
      go_wp2_with fail
      go_ret
      exact ⟨rfl, by (repeat' (first | (with_reducible exact Below.refl _ _) | (with_reducible assumption) | (with_reducible refine Below.alloc ?_ ?_ _) | (with_reducible refine Below.drew ?_) | (with_reducible refine below_drewN ?_ _) | (with_reducible refine Below.setCell ?_ ?_ _) | go_size))⟩
  · rw [decide_eq_false (by omega)]
    go_enter Try.func132, Try.ntmps132
    go_wp2_with fail
    go_ret
    exact ⟨rfl, by (repeat' (first | (with_reducible exact Below.refl _ _) | (with_reducible assumption) | (with_reducible refine Below.alloc ?_ ?_ _) | (with_reducible refine Below.drew ?_) | (with_reducible refine below_drewN ?_ _) | (with_reducible refine Below.setCell ?_ ?_ _) | go_size))⟩

theorem u8_le (x : UInt8) : x.toNat ≤ 255 := by have := x.toNat_lt; omega

set_option maxHeartbeats 1000000 in
theorem isSignalName_any (s : ByteArray) (w : World) (hs : s.size ≤ 1048576) :
    Calls Try.prog 112 #[.string s] w (RetB w (nameB s)) := by
  generalize hG : nameB s = g
  have HG := Lib.hid hG; clear hG
  by_cases h0 : s.size = 0
  · have hfin := nameB_size (s := s) (by omega)
    rw [HG.out] at hfin
    subst hfin
    have t0 : ((s.size : Int) == 0) = true := by simp [h0]
    go_enter Try.func112, Try.ntmps112
    go_wp2_with fail
    go_ret
    exact ⟨rfl, by (repeat' (first | (with_reducible exact Below.refl _ _) | (with_reducible assumption) | (with_reducible refine Below.alloc ?_ ?_ _) | (with_reducible refine Below.drew ?_) | (with_reducible refine below_drewN ?_ _) | (with_reducible refine Below.setCell ?_ ?_ _) | go_size))⟩
  have t0 : ((s.size : Int) == 0) = false := by rw [beq_eq_false_iff_ne]; omega
  have hlt0 : 0 < s.size := by omega
  by_cases h6 : s.size ≤ 6
  case neg =>
    have hfin := nameB_size (s := s) (by omega)
    rw [HG.out] at hfin
    subst hfin
    go_enter Try.func112, Try.ntmps112
    go_wp2_with fail
    go_ret
    exact ⟨rfl, by (repeat' (first | (with_reducible exact Below.refl _ _) | (with_reducible assumption) | (with_reducible refine Below.alloc ?_ ?_ _) | (with_reducible refine Below.drew ?_) | (with_reducible refine below_drewN ?_ _) | (with_reducible refine Below.setCell ?_ ?_ _) | go_size))⟩
  have hbad0 := fun h => nameB_bad (s := s) hlt0 h
  rw [HG.out] at hbad0
  have HB0 := Lib.hid hbad0; clear hbad0
  clear h0
  go_enter Try.func112, Try.ntmps112
  go_wp2_with fail
  refine (isLetter_any _ _ (u8_le _)).mono ?_
  rintro e w1 ⟨rfl, hb1⟩
  by_cases hl : 97 ≤ s[0].toNat ∧ s[0].toNat ≤ 122
  case neg =>
    have hfin := HB0.out (by omega)
    subst hfin
    rw [decide_eq_false hl]
    clear hl
    go_wp2_with fail
    go_ret
    exact ⟨rfl, hb1⟩
  rw [decide_eq_true hl]
  have HN1 : Hid (NameTo s 1) := (NameTo.zero s).succ hlt0 (Or.inl hl)
  clear hl
  go_wp2_with fail
  go_loopw [3] (fun i wr => ∃ k : Nat, k ≤ s.size ∧ 0 < k ∧ i = .int .i64 k ∧ Hid (NameTo s k) ∧ Below w.heap.size w wr) (fun i _ => s.size - (intOf i).toNat)
  case atStart => exact ⟨1, by omega, by omega, rfl, HN1, hb1⟩
  case round =>
    obtain ⟨k, hk, hk0, rfl, hd, hb2⟩ := hrel
    by_cases hlt : k < s.size
    · have hbad := fun h => nameB_bad (s := s) hlt h
      rw [HG.out] at hbad
      have HB := Lib.hid hbad; clear hbad
      go_wp2_with fail
      refine (isLetter_any _ _ (u8_le _)).mono ?_
      rintro e w2 ⟨rfl, hb3⟩
      have hw2 : Below w.heap.size w w2 := hb2.trans (hb3.mono hb2.size)
      by_cases hl : 97 ≤ s[k].toNat ∧ s[k].toNat ≤ 122
      · rw [decide_eq_true hl]
        have H2 : Hid (NameTo s (k + 1)) := hd.out.succ hlt (Or.inl hl)
        clear hl
        go_wp2_with fail
        go_roundw
        case rel => exact ⟨k + 1, by omega, by omega, by go_num, H2, hw2⟩
        case measure => simp [intOf]; omega
      · rw [decide_eq_false hl]
        have HL := Lib.hid hl; clear hl
        go_wp2_with fail
        refine (isDigit_any _ _ (u8_le _)).mono ?_
        rintro e w3 ⟨rfl, hb4⟩
        have hw3 : Below w.heap.size w w3 := hw2.trans (hb4.mono hw2.size)
        by_cases hg : 48 ≤ s[k].toNat ∧ s[k].toNat ≤ 57
        · rw [decide_eq_true hg]
          have H2 : Hid (NameTo s (k + 1)) := hd.out.succ hlt (Or.inr ⟨hk0, hg.1, hg.2⟩)
          clear hg
          go_wp2_with fail
          go_roundw
          case rel => exact ⟨k + 1, by omega, by omega, by go_num, H2, hw3⟩
          case measure => simp [intOf]; omega
        · rw [decide_eq_false hg]
          have hfin := HB.out (by rintro (h | h); exact HL.out h; exact hg ⟨h.2.1, h.2.2⟩)
          subst hfin
          clear hg
          go_wp2_with fail
          go_ret
          exact ⟨rfl, hw3⟩
    · have hkk : k = s.size := by omega
      subst hkk
      have hfin := nameB_good hd.out ⟨by omega, h6⟩
      rw [HG.out] at hfin
      subst hfin
      go_wp2_with fail
      go_ret
      exact ⟨rfl, hb2⟩

/-- the first signal of that name -/
def sigF (ss : List Sig) (name : ByteArray) : Option Nat := (List.range ss.length).find? (fun i => decide (sgN ss i = name))
theorem sigF_some {ss : List Sig} {name : ByteArray} {k : Nat} (hk : k < ss.length) (h : ∀ i, i < k → sgN ss i ≠ name) (e : sgN ss k = name) : sigF ss name = some k := by
  unfold sigF
  rw [List.find?_range_eq_some]
  exact ⟨by simpa using e, by simpa using hk, fun j hj => by simpa using h j hj⟩
theorem sigF_none {ss : List Sig} {name : ByteArray} (h : ∀ i, i < ss.length → sgN ss i ≠ name) : sigF ss name = none := by
  unfold sigF
  rw [List.find?_eq_none]
  intro i hi
  simpa using h i (by simpa using hi)
theorem sigF_get {ss : List Sig} {name : ByteArray} {k : Nat} (h : sigF ss name = some k) : k < ss.length ∧ sgN ss k = name := by
  unfold sigF at h
  rw [List.find?_range_eq_some] at h
  exact ⟨by simpa using h.2.1, by simpa using h.1⟩
theorem sigF_not {ss : List Sig} {name : ByteArray} (h : sigF ss name = none) : ∀ i, i < ss.length → sgN ss i ≠ name := by
  unfold sigF at h
  rw [List.find?_eq_none] at h
  intro i hi
  simpa using h i (by simpa using hi)
theorem sigF_lt {ss : List Sig} {name : ByteArray} {k : Nat} (h : sigF ss name = some k) : k < ss.length := by
  unfold sigF at h
  have := List.mem_of_find?_eq_some h
  simpa using this
/-- what findSignal answers -/
def idxI (o : Option Nat) : Int := match o with
  | some k => k
  | none => 0
def idxB (o : Option Nat) : Bool := match o with
  | some _ => true
  | none => false
def foundV (o : Option Nat) : Value := .tuple #[.int .i64 (idxI o), .bool (idxB o)]

set_option maxHeartbeats 1000000 in
theorem findSignal_any (v : Value) (ss : List Sig) (s : ByteArray) (w : World) (lo : Nat) (hv : SigsAt lo w v ss) (hn : ss.length ≤ 1048576) :
    Calls Try.prog 113 #[v, .string s] w (RetV w (.tuple #[.int .i64 (idxI (sigF ss s)), .bool (idxB (sigF ss s))])) := by
  generalize hG : sigF ss s = g
  have HG := Lib.hid hG; clear hG
  obtain ⟨ao, cap, rfl, hc, hz⟩ := hv
  have HF := Lib.hid hz; clear hz
  go_enter Try.func113, Try.ntmps113
  go_wp2_with fail
  go_loopw [10] (fun i wr => ∃ k : Nat, k ≤ ss.length ∧ i = .int .i64 k ∧ Hid (∀ i, i < k → sgN ss i ≠ s) ∧ Below w.heap.size w wr) (fun i _ => ss.length - (intOf i).toNat)
  case atStart => exact ⟨0, Nat.zero_le _, rfl, fun i hi => absurd hi (Nat.not_lt_zero _), Below.refl _ _⟩
  case round =>
    obtain ⟨k, hk, rfl, hall, hb1⟩ := hrel
    have zz1 := hb1.size
    by_cases hlt : k < ss.length
    · rcases HF.out with h0 | ⟨b, off, rfl, hlo, hcell⟩
      · omega
      obtain ⟨c0, c1⟩ := hcell k hlt
      have d0 := Carries.of lo hb1 _ _ hlo c0
      have d1 := Carries.of lo hb1 _ _ hlo c1
      clear hcell c0 c1
      by_cases he : sgN ss k = s
      · have hfin := sigF_some hlt hall.out he
        rw [HG.out] at hfin
        subst hfin
        have t0 : ((sgN ss k).toList == s.toList) = true := by rw [bytes_toList_beq]; exact decide_eq_true he
        clear he
        go_wp2_with fail
        go_ret2
        exact ⟨rfl, by (repeat' (first | (with_reducible exact Below.refl _ _) | (with_reducible assumption) | (with_reducible refine Below.alloc ?_ ?_ _) | (with_reducible refine Below.drew ?_) | (with_reducible refine below_drewN ?_ _) | (with_reducible refine Below.setCell ?_ ?_ _) | go_size))⟩
      · have t0 : ((sgN ss k).toList == s.toList) = false := by rw [bytes_toList_beq]; exact decide_eq_false he
        have H2 : Hid (∀ i, i < k + 1 → sgN ss i ≠ s) := by
          intro i hi
          by_cases e : i = k
          · subst e; exact he
          · exact hall.out i (by omega)
        clear he
        go_wp2_with fail
        go_roundw
        case rel => exact ⟨k + 1, by omega, by go_num, H2, by (repeat' (first | (with_reducible exact Below.refl _ _) | (with_reducible assumption) | (with_reducible refine Below.alloc ?_ ?_ _) | (with_reducible refine Below.drew ?_) | (with_reducible refine below_drewN ?_ _) | (with_reducible refine Below.setCell ?_ ?_ _) | go_size))⟩
        case measure => simp [intOf]; omega
    · have hkk : k = ss.length := by omega
      subst hkk
      have hfin := sigF_none hall.out
      rw [HG.out] at hfin
      subst hfin
      go_wp2_with fail
      go_ret2
      exact ⟨rfl, hb1⟩

theorem sgN_take {ss : List Sig} {k i : Nat} (h : i < k) : sgN (ss.take k) i = sgN ss i := by
  unfold sgN; simp [List.getD, List.getElem?_take, h]
theorem sgK_take {ss : List Sig} {k i : Nat} (h : i < k) : sgK (ss.take k) i = sgK ss i := by
  unfold sgK; simp [List.getD, List.getElem?_take, h]
theorem SigsAt.take {lo : Nat} {w : World} {ao : Option Addr} {ss : List Sig} {cap k : Nat} (h : SigsAt lo w (.slice ao ss.length cap) ss) (hk : k ≤ ss.length) : SigsAt lo w (.slice ao k cap) (ss.take k) := by
  obtain ⟨a, c, e, hc, hz⟩ := h
  simp only [Value.slice.injEq, true_and] at e
  obtain ⟨rfl, rfl⟩ := e
  have hl : (ss.take k).length = k := by simp; omega
  refine ⟨ao, cap, by rw [hl], by omega, ?_⟩
  rcases hz with hz | ⟨b, off, ha, hlo, hcell⟩
  · left; omega
  · right
    refine ⟨b, off, ha, hlo, fun i hi => ?_⟩
    rw [hl] at hi
    obtain ⟨q0, q1⟩ := hcell i (by omega)
    refine ⟨?_, ?_⟩
    · show w.cell? _ = some (.string (sgN (ss.take k) i))
      rw [sgN_take hi]; exact q0
    · show w.cell? _ = some (.int .i64 (sgK (ss.take k) i))
      rw [sgK_take hi]; exact q1

set_option maxRecDepth 100000 in
set_option maxHeartbeats 2000000 in
theorem areSignals_any (v : Value) (ss : List Sig) (w : World) (lo : Nat) (hv : SigsAt lo w v ss) (hs : SmallSigs ss) :
    Calls Try.prog 88 #[v] w (RetB w (sigsB ss)) := by
  generalize hG : sigsB ss = g
  have HG := Lib.hid hG; clear hG
  have HV := Lib.hid hv
  obtain ⟨ao, cap, rfl, hc, hz⟩ := hv
  obtain ⟨hn, hsm⟩ := hs
  have HF := Lib.hid hz; clear hz
  have HS := Lib.hid hsm; clear hsm
  by_cases h0 : ss.length = 0
  · have hfin := sigsB_size (ss := ss) (by omega)
    rw [HG.out] at hfin
    subst hfin
    have t0 : ((ss.length : Int) == 0) = true := by simp [h0]
    go_enter Try.func88, Try.ntmps88
    go_wp2_with fail
    go_ret
    exact ⟨rfl, by (repeat' (first | (with_reducible exact Below.refl _ _) | (with_reducible assumption) | (with_reducible refine Below.alloc ?_ ?_ _) | (with_reducible refine Below.drew ?_) | (with_reducible refine below_drewN ?_ _) | (with_reducible refine Below.setCell ?_ ?_ _) | go_size))⟩
  have t0 : ((ss.length : Int) == 0) = false := by rw [beq_eq_false_iff_ne]; omega
  by_cases h8 : ss.length ≤ 8
  case neg =>
    have hfin := sigsB_size (ss := ss) (by omega)
    rw [HG.out] at hfin
    subst hfin
    go_enter Try.func88, Try.ntmps88
    go_wp2_with fail
    go_ret
    exact ⟨rfl, by (repeat' (first | (with_reducible exact Below.refl _ _) | (with_reducible assumption) | (with_reducible refine Below.alloc ?_ ?_ _) | (with_reducible refine Below.drew ?_) | (with_reducible refine below_drewN ?_ _) | (with_reducible refine Below.setCell ?_ ?_ _) | go_size))⟩
  have hl0 : 0 < ss.length := by omega
  clear h0
  go_enter Try.func88, Try.ntmps88
  go_wp2_with fail
  go_loopw [17] (fun i wr => ∃ k : Nat, k ≤ ss.length ∧ i = .int .i64 k ∧ Hid (SigTo ss k) ∧ Below w.heap.size w wr) (fun i _ => ss.length - (intOf i).toNat)
  case atStart => exact ⟨0, Nat.zero_le _, rfl, fun i hi => absurd hi (Nat.not_lt_zero _), Below.refl _ _⟩
  case round =>
    obtain ⟨k, hk, rfl, hall, hb1⟩ := hrel
    have zz1 := hb1.size
    by_cases hlt : k < ss.length
    · rcases HF.out with h0 | ⟨b, off, rfl, hlo, hcell⟩
      · omega
      obtain ⟨c0, c1⟩ := hcell k hlt
      have d0 := Carries.of lo hb1 _ _ hlo c0
      have d1 := Carries.of lo hb1 _ _ hlo c1
      have hk1 := HS.out k hlt
      clear hcell c0 c1
      have hbad := fun h => sigsB_bad (ss := ss) hlt h
      rw [HG.out] at hbad
      have HB := Lib.hid hbad; clear hbad
      obtain ⟨wo, rfl⟩ : ∃ wo : World, wo = wr := ⟨_, rfl⟩
      go_wp2_with fail
      refine (isSignalName_any _ _ hk1).mono ?_
      rintro e w1 ⟨rfl, hb2⟩
      have hw1 : Below w.heap.size w w1 := by
        refine Below.trans ?_ (hb2.mono ?_)
        · (repeat' (first | (with_reducible exact Below.refl _ _) | (with_reducible assumption) | (with_reducible refine Below.alloc ?_ ?_ _) | (with_reducible refine Below.drew ?_) | (with_reducible refine below_drewN ?_ _) | (with_reducible refine Below.setCell ?_ ?_ _) | go_size))
        · simpa using Nat.le_succ_of_le hb1.size
      have x0 : w1.cell? ⟨wo.heap.size, 0, none⟩ = some (.string (sgN ss k)) := cell_carry (by simp) (Carries.of 0 hb2)
      have x1 : w1.cell? ⟨wo.heap.size, 1, none⟩ = some (.int .i64 (sgK ss k)) := cell_carry (by simp) (Carries.of 0 hb2)
      have z1 : wo.heap.size < w1.heap.size := by have := hb2.size; simp at this; omega
      clear hb2
      cases hnm : nameB (sgN ss k) with
      | false =>
        have hfin := HB.out (fun h => by have := h.1; rw [hnm] at this; cases this)
        subst hfin
        clear hnm
        go_wp2_with fail
        go_ret
        exact ⟨rfl, hw1⟩
      | true =>
      have HNM := Lib.hid hnm; clear hnm
      by_cases hk3 : 1 ≤ sgK ss k
      case neg =>
        have hfin := HB.out (fun h => hk3 h.2.1.1)
        subst hfin
        go_wp2_with fail
        go_ret
        exact ⟨rfl, hw1⟩
      by_cases hk4 : sgK ss k ≤ 3
      case neg =>
        have hfin := HB.out (fun h => hk4 h.2.1.2)
        subst hfin
        go_wp2_with fail
        go_ret
        exact ⟨rfl, hw1⟩
      have hkc : k ≤ cap := by omega
      have hkc2 : k ≤ 1048576 := by omega
      have zz2 := hw1.size
      cases hq : sigF (ss.take k) (sgN ss k) with
      | none =>
        have H2 : Hid (SigTo ss (k + 1)) := by
          intro i hi
          by_cases e : i = k
          · subst e
            refine ⟨HNM.out, ⟨hk3, hk4⟩, fun j hj he => sigF_not hq j (by simp; omega) ?_⟩
            rw [sgN_take hj]; exact he.symm
          · exact hall.out i (by omega)
        go_wp2_with fail
        go_region_held3 (fun w' => w'.cell? ⟨wo.heap.size, 0, none⟩ = some (.string (sgN ss k)))
          (first
            | exact x0
            | exact cell_carry (w := w1.drew) x0 (Carries.of 0 hb6))
          (first
            | (go_at_call 113; refine (findSignal_any _ (ss.take k) (sgN ss k) w1.drew lo ((HV.out.take hk).keep (Carries.of lo hw1.drew)) (by simp; omega)).mono ?_; rintro e w6 ⟨rfl, hb6⟩; rw [hq]; simp only [idxI, idxB]))
        have hw6 : Below w.heap.size w w6 := hw1.trans (Below.trans (b := w1.drew) (Below.refl _ _).drew (hb6.mono (by simp; omega)))
        go_wp2_with fail
        go_roundw
        case rel => exact ⟨k + 1, by omega, by go_num, H2, hw6⟩
        case measure => simp [intOf]; omega
      | some i =>
        have hi2 := sigF_get hq
        have hik : i < k := by have := hi2.1; simp at this; omega
        have hfin := HB.out (fun h => h.2.2 i hik (by rw [← hi2.2, sgN_take hik]))
        subst hfin
        clear hi2
        go_wp2_with fail
        go_region_held3 (fun w' => w'.cell? ⟨wo.heap.size, 0, none⟩ = some (.string (sgN ss k)))
          (first
            | exact x0
            | exact cell_carry (w := w1.drew) x0 (Carries.of 0 hb6))
          (first
            | (go_at_call 113; refine (findSignal_any _ (ss.take k) (sgN ss k) w1.drew lo ((HV.out.take hk).keep (Carries.of lo hw1.drew)) (by simp; omega)).mono ?_; rintro e w6 ⟨rfl, hb6⟩; rw [hq]; simp only [idxI, idxB]))
        have hw6 : Below w.heap.size w w6 := hw1.trans (Below.trans (b := w1.drew) (Below.refl _ _).drew (hb6.mono (by simp; omega)))
        go_wp2_with fail
        go_ret
        exact ⟨rfl, hw6⟩
    · have hkk : k = ss.length := by omega
      subst hkk
      have hfin := sigsB_good hall.out ⟨by omega, h8⟩
      rw [HG.out] at hfin
      subst hfin
      go_wp2_with fail
      go_ret
      exact ⟨rfl, hb1⟩

end Go.Proofs.Ytigkgfdnnfmmmaa
