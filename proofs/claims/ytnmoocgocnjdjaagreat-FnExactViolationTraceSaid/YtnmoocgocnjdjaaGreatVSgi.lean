/- WALKS: isCode of the program (a range over a string); slices.IndexFunc and slices.ContainsFunc of strings and of arcs, at any closure whose answers are known; hasCodes. -/
import Derived.Test.YtnmoocgocnjdjaaGreatVSgb
import Derived.Test.YtnmoocgocnjdjaaGreatVSgp
import Derived.Laws.RangeAny
namespace Go.Proofs.YtnmoocgocnjdjaaGreat
open Go.RowKit

theorem CodeTo.succ {s : ByteArray} {k : Nat} (h : CodeTo s k) (hb : byN s k = 48 ∨ byN s k = 49) : CodeTo s (k + 1) := by
  intro i hi
  by_cases e : i = k
  · subst e; exact hb
  · exact h i (by omega)
theorem Below.iter {w : World} (s : ByteArray) (p : Nat) : Below w.heap.size w (w.iter s p) := (Below.refl _ _).alloc (Nat.le_refl _) _

set_option maxHeartbeats 1000000 in
theorem isCode_any (s : ByteArray) (m : Nat) (w : World) (hs : s.size ≤ 9223372036854775807) (hm : m ≤ 9223372036854775807) :
    Calls Tryz.prog 183 #[.string s, .int .i64 (m : Int)] w (RetB w (codeB m s)) := by
  obtain ⟨g, hg⟩ : ∃ g, g = codeB m s := ⟨_, rfl⟩
  rw [← hg]
  have HG := Lib.hid hg; clear hg
  go_enter Tryz.func183, Tryz.ntmps183
  go_wp2_with fail
  go_loopw [6] (fun _ wr => ∃ pos : Nat, pos ≤ s.size ∧ wr = w.iter s pos ∧ Hid (CodeTo s pos)) (fun _ wr => s.size - wr.iterPos w.heap.size)
  case atStart => exact ⟨0, Nat.zero_le _, rfl, fun i hi => absurd hi (Nat.not_lt_zero _)⟩
  case round =>
    obtain ⟨pos, hpos, rfl, hall⟩ := hrel
    by_cases hp : pos < s.size
    · have hby := byN_get hp
      by_cases hb : byN s pos = 48 ∨ byN s pos = 49
      · have H2 := Lib.hid (hall.out.succ hb)
        have hnx : ∀ ty, (Instr.next (.pointer (some ⟨w.heap.size, 0, none⟩)) true ty).run Tryz.prog (w.iter s pos) = .ok (.tuple #[.bool true, .int .i64 pos, .int .i32 ((byN s pos : Nat) : Int)]) (w.iter s (pos + 1)) := fun ty => by rw [hby]; exact run_next_ascii w s pos ty hp (by omega)
        clear hby
        rcases hb with hb | hb
        · have t0 : (((byN s pos : Nat) : Int) != 48) = false := by rw [hb]; rfl
          generalize ((byN s pos : Nat) : Int) = x at hnx t0
          clear hb
          go_wp2_with fail
          go_roundw
          case rel => exact ⟨pos + 1, by omega, rfl, H2⟩
          case measure => simp; omega
        · have t0 : (((byN s pos : Nat) : Int) != 48) = true := by rw [hb]; rfl
          have t1 : (((byN s pos : Nat) : Int) != 49) = false := by rw [hb]; rfl
          generalize ((byN s pos : Nat) : Int) = x at hnx t0 t1
          clear hb
          go_wp2_with fail
          go_roundw
          case rel => exact ⟨pos + 1, by omega, rfl, H2⟩
          case measure => simp; omega
      · have e := HG.out
        rw [codeB_bad hp hb] at e
        subst e
        have hnx : ∀ ty, (Instr.next (.pointer (some ⟨w.heap.size, 0, none⟩)) true ty).run Tryz.prog (w.iter s pos) = .ok (.tuple #[.bool true, .int .i64 pos, .int .i32 ((Utf8.decode s pos).1 : Nat)]) (w.iter s (pos + (Utf8.decode s pos).2)) := fun ty => run_next_any w s pos ty hp
        have hd : (Utf8.decode s pos).1 ≠ 48 ∧ (Utf8.decode s pos).1 ≠ 49 := by
          by_cases ha : (s[pos]'hp).toNat < 128
          · rw [decode_ascii s pos hp ha]
            exact ⟨fun h => hb (Or.inl (hby.trans h)), fun h => hb (Or.inr (hby.trans h))⟩
          · have := (decode_high s pos hp (by omega)).1
            omega
        clear hby hb
        generalize (Utf8.decode s pos).1 = x at hnx hd
        generalize (Utf8.decode s pos).2 = y at hnx
        have t0 : ((x : Int) != 48) = true := by rw [bne_iff_ne]; omega
        have t1 : ((x : Int) != 49) = true := by rw [bne_iff_ne]; omega
        clear hd
        go_wp2_with fail
        go_ret
        exact ⟨rfl, Below.iter _ _⟩
    · have hkk : pos = s.size := by omega
      subst hkk
      have hnx : ∀ ty, (Instr.next (.pointer (some ⟨w.heap.size, 0, none⟩)) true ty).run Tryz.prog (w.iter s s.size) = .ok (.tuple #[.bool false]) (w.iter s s.size) := fun ty => run_next_end w s s.size ty hp
      have e := HG.out
      rw [codeB_all hall.out] at e
      by_cases hsz : s.size = m
      · rw [decide_eq_true hsz] at e
        subst e
        have t0 : ((s.size : Int) == (m : Int)) = true := by rw [beq_iff_eq]; omega
        have HZ := Lib.hid hsz; clear hsz
        go_wp2_with fail
        go_ret
        exact ⟨rfl, Below.iter _ _⟩
      · rw [decide_eq_false hsz] at e
        subst e
        have t0 : ((s.size : Int) == (m : Int)) = false := by rw [beq_eq_false_iff_ne]; omega
        have HZ := Lib.hid hsz; clear hsz
        go_wp2_with fail
        go_ret
        exact ⟨rfl, Below.iter _ _⟩

/-! IndexFunc, ContainsFunc at a closure whose answers are known -/
def anyTo (n : Nat) (g : Nat → Bool) : Bool := (List.range n).any g
theorem anyTo_true {n k : Nat} {g : Nat → Bool} (hk : k < n) (h : g k = true) : anyTo n g = true := by
  unfold anyTo
  rw [List.any_eq_true]
  exact ⟨k, by simpa using hk, h⟩
theorem anyTo_false {n : Nat} {g : Nat → Bool} (h : ∀ k, k < n → g k = false) : anyTo n g = false := by
  unfold anyTo
  rw [List.any_eq_false]
  intro k hk
  rw [h k (by simpa using hk)]
  simp
theorem anyTo_not (n : Nat) (g : Nat → Bool) : anyTo n (fun k => !g k) = !(List.range n).all g := by
  unfold anyTo
  rw [List.not_all_eq_any_not]
/-- a call returns a number that is at least 0 where some element is found -/
def RetIx (w : World) (g : Bool) (e : Ending) (w' : World) : Prop := ∃ r : Int, e = .returned (.int .i64 r) ∧ -1 ≤ r ∧ r ≤ 1048576 ∧ g = decide (0 ≤ r) ∧ Below w.heap.size w w'

set_option maxRecDepth 100000 in
set_option maxHeartbeats 1000000 in
theorem IndexFuncStr_any (v : Value) (ss : List ByteArray) (F : Nat) (cv : Value) (g : Nat → Bool) (w : World) (lo : Nat) (hv : TextsAt lo w v ss) (hl : ss.length ≤ 1048576)
    (hF : ∀ (args : Array Value) (w : World), (callFunc F args).run Tryz.prog w = .ok (.enter F args) w)
    (hclo : ∀ k, k < ss.length → ∀ w1, Below w.heap.size w w1 → Calls Tryz.prog F #[.string (stN ss k), cv] w1 (RetB w1 (g k))) :
    Calls Tryz.prog 215 #[v, .func (.func F) #[] #[cv]] w (RetIx w (anyTo ss.length g)) := by
  obtain ⟨q, hq⟩ : ∃ q, q = anyTo ss.length g := ⟨_, rfl⟩
  rw [← hq]
  have HG := Lib.hid hq; clear hq
  obtain ⟨ao, cap, rfl, hc, hz⟩ := hv
  have HF := Lib.hid hz; clear hz
  have HC := Lib.hid hclo; clear hclo
  go_enter Tryz.func215, Tryz.ntmps215
  go_wp2_with fail
  go_loopw [8] (fun i wr => ∃ k : Nat, k ≤ ss.length ∧ i = .int .i64 k ∧ Hid (∀ j, j < k → g j = false) ∧ Below w.heap.size w wr) (fun i _ => ss.length - (intOf i).toNat)
  case atStart => exact ⟨0, Nat.zero_le _, rfl, fun j hj => absurd hj (Nat.not_lt_zero _), Below.refl _ _⟩
  case round =>
    obtain ⟨k, hk, rfl, hall, hb1⟩ := hrel
    by_cases hlt : k < ss.length
    · rcases HF.out with h0 | ⟨b, off, rfl, hlo, hcell⟩
      · omega
      have d0 := Carries.of lo hb1 _ _ hlo (hcell k hlt)
      clear hcell
      go_wp2_with fail
      refine (HC.out k hlt _ hb1).mono ?_
      rintro e w2 ⟨rfl, hb⟩
      have hw2 : Below w.heap.size w w2 := hb1.trans (hb.mono hb1.size)
      clear hb d0
      cases hk2 : g k with
      | false =>
        have H2 : Hid (∀ j, j < k + 1 → g j = false) := by
          intro j hj
          by_cases ej : j = k
          · subst ej; exact hk2
          · exact hall.out j (by omega)
        clear hk2
        go_wp2_with fail
        go_roundw
        case rel => exact ⟨k + 1, by omega, by go_num, H2, hw2⟩
        case measure => simp [intOf]; omega
      | true =>
        have e := HG.out
        rw [anyTo_true hlt hk2] at e
        subst e
        clear hk2
        go_wp2_with fail
        go_ret
        refine ⟨(k : Int), rfl, by omega, by omega, ?_, hw2⟩
        rw [decide_eq_true (by omega)]
    · have hkk : k = ss.length := by omega
      subst hkk
      have e := HG.out
      rw [anyTo_false hall.out] at e
      subst e
      go_wp2_with fail
      go_ret
      exact ⟨-1, rfl, by omega, by omega, rfl, hb1⟩

set_option maxRecDepth 100000 in
set_option maxHeartbeats 400000 in
theorem ContainsFuncStr_any (v : Value) (ss : List ByteArray) (F : Nat) (cv : Value) (g : Nat → Bool) (w : World) (lo : Nat) (hv : TextsAt lo w v ss) (hl : ss.length ≤ 1048576)
    (hF : ∀ (args : Array Value) (w : World), (callFunc F args).run Tryz.prog w = .ok (.enter F args) w)
    (hclo : ∀ k, k < ss.length → ∀ w1, Below w.heap.size w w1 → Calls Tryz.prog F #[.string (stN ss k), cv] w1 (RetB w1 (g k))) :
    Calls Tryz.prog 181 #[v, .func (.func F) #[] #[cv]] w (RetB w (anyTo ss.length g)) := by
  obtain ⟨q, hq⟩ : ∃ q, q = anyTo ss.length g := ⟨_, rfl⟩
  rw [← hq]
  have HG := Lib.hid hq; clear hq
  have hv2 := hv
  obtain ⟨ao, cap, rfl, _, _⟩ := hv2
  have HV := Lib.hid hv; clear hv
  have HC := Lib.hid hclo; clear hclo
  go_enter Tryz.func181, Tryz.ntmps181
  go_wp2_with fail
  refine (IndexFuncStr_any _ ss F _ g _ lo HV.out hl hF HC.out).mono ?_
  rintro e w1 ⟨r, rfl, h0, h1, hr, hb⟩
  rw [← HG.out] at hr
  by_cases h : 0 ≤ r
  · rw [decide_eq_true h] at hr
    subst hr
    have t1 : decide (0 ≤ r) = true := decide_eq_true (by omega)
    go_wp2_with fail
    go_ret
    exact ⟨rfl, hb⟩
  · rw [decide_eq_false h] at hr
    subst hr
    have t1 : decide (0 ≤ r) = false := decide_eq_false (by omega)
    go_wp2_with fail
    go_ret
    exact ⟨rfl, hb⟩

set_option maxRecDepth 100000 in
set_option maxHeartbeats 1000000 in
theorem codesClo_any (s : ByteArray) (B : Nat) (a0 : Option Addr) (n c0 : Nat) (w : World) (hs : s.size ≤ 1048576) (hn : n ≤ 1048576) (x0 : w.cell? ⟨B, 0, none⟩ = some (.slice a0 n c0)) :
    Calls Tryz.prog 182 #[.string s, .pointer (some ⟨B, 0, none⟩)] w (RetB w (!codeB n s)) := by
  go_enter Tryz.func182, Tryz.ntmps182
  go_wp2_with fail
  refine (isCode_any s n _ (by omega) (by omega)).mono ?_
  rintro e w1 ⟨rfl, hb⟩
  go_wp2_with fail
  go_ret
  exact ⟨rfl, hb⟩

set_option maxRecDepth 100000 in
set_option maxHeartbeats 1000000 in
theorem hasCodes_any (v : Value) (r : SgD) (w : World) (lo : Nat) (hv : SgAt lo w v r) (hs : SmallSg r) :
    Calls Tryz.prog 146 #[v] w (RetB w (decide (1 ≤ r.codes.length ∧ r.codes.length ≤ 300) && codesB r.sigs.length r.codes)) := by
  obtain ⟨q, hq⟩ : ∃ q, q = (decide (1 ≤ r.codes.length ∧ r.codes.length ≤ 300) && codesB r.sigs.length r.codes) := ⟨_, rfl⟩
  rw [← hq]
  obtain ⟨a0, c0, a1, c1, a2, c2, rfl, hg, hm, hl⟩ := hv.form
  clear hv
  obtain ⟨gs, ss, ls⟩ := r
  obtain ⟨k0, k1, k2⟩ := hs
  simp only at hg hm hl k0 k1 k2 hq ⊢
  clear hg hl
  have HM := Lib.hid hm; clear hm
  have HQ := Lib.hid hq; clear hq
  have K0 := k0.1
  have K1 := k1.1
  have HK := Lib.hid k1.2
  clear k0 k1
  have hmf : ∀ (fn : Fn) (first cap : Array Value) (w : World), (Instr.makeFunc fn first cap).run Tryz.prog w = .ok (.func fn first cap) w := fun _ _ _ _ => rfl
  go_enter Tryz.func146, Tryz.ntmps146
  by_cases h1 : 0 < ss.length
  case neg =>
    have e := HQ.out
    rw [decide_eq_false (by omega), Bool.false_and] at e
    subst e
    go_wp2_with fail
    go_ret
    exact ⟨rfl, by (repeat' (first | (with_reducible exact Below.refl _ _) | (with_reducible assumption) | (with_reducible refine Below.alloc ?_ ?_ _) | (with_reducible refine Below.drew ?_) | (with_reducible refine below_drewN ?_ _) | (with_reducible refine Below.setCell ?_ ?_ _) | go_size))⟩
  by_cases h2 : ss.length ≤ 300
  case neg =>
    have e := HQ.out
    rw [decide_eq_false (by omega), Bool.false_and] at e
    subst e
    go_wp2_with fail
    go_ret
    exact ⟨rfl, by (repeat' (first | (with_reducible exact Below.refl _ _) | (with_reducible assumption) | (with_reducible refine Below.alloc ?_ ?_ _) | (with_reducible refine Below.drew ?_) | (with_reducible refine below_drewN ?_ _) | (with_reducible refine Below.setCell ?_ ?_ _) | go_size))⟩
  have e := HQ.out
  rw [decide_eq_true ⟨by omega, h2⟩, Bool.true_and] at e
  have HE := Lib.hid e; clear e HQ
  have x0 : (w.alloc (.cells #[.slice a0 gs.length c0, .slice a1 ss.length c1, .slice a2 ls.length c2] 80)).cell? ⟨w.heap.size, 0, none⟩ = some (.slice a0 gs.length c0) := by simp
  go_wp2_with fail
  refine (ContainsFuncStr_any _ ss _ _ (fun k => !codeB gs.length (stN ss k)) _ lo (HM.out.keep ?_) K1 (fun _ _ => rfl) (fun k hk w1 hw1 => codesClo_any _ _ a0 _ c0 _ (HK.out k hk) K0 (cell_carry x0 (Carries.of 0 hw1)))).mono ?_
  · (repeat' (first | (with_reducible exact Carries.refl _ _) | (with_reducible assumption) | (with_reducible refine Carries.alloc ?_ _) | (with_reducible refine Carries.drew ?_) | (with_reducible refine Carries.drewN ?_ _) | (with_reducible refine Carries.set ?_ ?_ _) | go_size))
  rintro e w1 ⟨rfl, hb⟩
  have hw1 : Below w.heap.size w w1 := by
    refine Below.trans ?_ (hb.mono ?_)
    · (repeat' (first | (with_reducible exact Below.refl _ _) | (with_reducible assumption) | (with_reducible refine Below.alloc ?_ ?_ _) | (with_reducible refine Below.drew ?_) | (with_reducible refine below_drewN ?_ _) | (with_reducible refine Below.setCell ?_ ?_ _) | go_size))
    · simp
  rw [anyTo_not]
  have e2 : (List.range ss.length).all (fun k => codeB gs.length (stN ss k)) = q := HE.out.symm
  rw [e2]
  clear hb e2 HE x0
  cases q with
  | false =>
    go_wp2_with fail
    go_ret
    exact ⟨rfl, hw1⟩
  | true =>
    go_wp2_with fail
    go_ret
    exact ⟨rfl, hw1⟩

end Go.Proofs.YtnmoocgocnjdjaaGreat
