/-
  WALKS: TransitionsOf of the model and of the program.
-/
import Derived.Test.YtlakcjcmbhkcdaaLabw
import Derived.Test.YtlakcjcmbhkcdaaStgk
namespace Go.Proofs.Ytlakcjcmbhkcdaa
open Go.RowKit

/-- a call returns ints of its own, which may be written, and this bool -/
def RetOv (w : World) (l : List Int) (b : Bool) (e : Ending) (w' : World) : Prop := ∃ v, e = .returned (.tuple #[v, .bool b]) ∧ IntsOw w.heap.size w' v l ∧ Below w.heap.size w w'

def tofB (s : StgD) (sig : Int) : Bool := goodS s && decide (0 ≤ sig ∧ sig < (s.sigs.length : Int))
def tofL (s : StgD) (sig : Int) (up : Bool) : List Int := if tofB s sig = true then labL s.labs sig up else []
theorem tofL_small {s : StgD} {sig : Int} {up : Bool} (h : s.labs.length ≤ 1048576) : (tofL s sig up).length ≤ 1048576 := by
  unfold tofL
  by_cases hb : tofB s sig = true
  · rw [if_pos hb]; exact labL_small h
  · rw [if_neg hb]; exact Nat.zero_le _
theorem tofL_no {s : StgD} {sig : Int} {up : Bool} (h : tofB s sig = false) : tofL s sig up = [] := by unfold tofL; rw [h]; rfl
theorem tofL_yes {s : StgD} {sig : Int} {up : Bool} (h : tofB s sig = true) : tofL s sig up = labL s.labs sig up := by unfold tofL; rw [h]; rfl

set_option maxRecDepth 100000 in
set_option maxHeartbeats 2000000 in
theorem TransitionsOf_any (v : Value) (s : StgD) (sig : Int) (up : Bool) (w : World) (lo : Nat) (hv : StgAt lo w v s) (hs : SmallStg s) :
    Calls Try.prog 44 #[v, .int .i64 sig, .bool up] w (RetOv w (tofL s sig up) (tofB s sig)) := by
  obtain ⟨a0, c0, a1, c1, a2, c2, rfl, hn, hsg, hl⟩ := hv.form
  clear hn hsg
  have HV := Lib.hid hv; clear hv
  have hss := hs.2.1.1
  have hll := hs.2.2.1
  have HS := Lib.hid hs; clear hs
  obtain ⟨B, hB⟩ : ∃ B, B = tofB s sig := ⟨_, rfl⟩
  obtain ⟨L, hL⟩ : ∃ L, L = tofL s sig up := ⟨_, rfl⟩
  rw [← hB, ← hL]
  have HB := Lib.hid hB; clear hB
  have HLL := Lib.hid hL; clear hL
  obtain ⟨p, hp⟩ : ∃ p, p = s.net.places := ⟨_, rfl⟩
  obtain ⟨m, hm⟩ : ∃ m, m = s.net.ts.length := ⟨_, rfl⟩
  obtain ⟨ns, hns⟩ : ∃ ns, ns = s.sigs.length := ⟨_, rfl⟩
  obtain ⟨ls, hls⟩ : ∃ ls, ls = s.labs := ⟨_, rfl⟩
  obtain ⟨st, hst⟩ : ∃ st, st = s.start := ⟨_, rfl⟩
  rw [← hp, ← hm, ← hns, ← hls, ← hst] at HV ⊢
  rw [← hls] at hl hll
  rw [← hns] at hss
  have HP := Lib.hid (And.intro hns hls)
  clear hp hm hns hls hst
  have HL := Lib.hid hl; clear hl
  go_enter Try.func44, Try.ntmps44
  go_wp2_with fail
  refine (labelledNetOf_any _ _ _ _ _ _ _ _ _ _ _ _).mono ?_
  rintro e w1 ⟨rfl, hb⟩
  have hw1 : Below w.heap.size w w1 := by
    refine Below.trans ?_ (hb.mono ?_)
    · (repeat' (first | (with_reducible exact Below.refl _ _) | (with_reducible assumption) | (with_reducible refine Below.alloc ?_ ?_ _) | (with_reducible refine Below.drew ?_) | (with_reducible refine below_drewN ?_ _) | (with_reducible refine Below.setCell ?_ ?_ _) | go_size))
    · simp
  have x0 : w1.cell? ⟨w.heap.size, 0, none⟩ = some (.int .i64 p) := cell_carry (by simp) (Carries.of 0 hb)
  have x1 : w1.cell? ⟨w.heap.size, 1, none⟩ = some (.slice a0 m c0) := cell_carry (by simp) (Carries.of 0 hb)
  have x2 : w1.cell? ⟨w.heap.size, 2, none⟩ = some (.slice a1 ns c1) := cell_carry (by simp) (Carries.of 0 hb)
  have x3 : w1.cell? ⟨w.heap.size, 3, none⟩ = some (.slice a2 ls.length c2) := cell_carry (by simp) (Carries.of 0 hb)
  have x4 : w1.cell? ⟨w.heap.size, 4, none⟩ = some (.string st) := cell_carry (by simp) (Carries.of 0 hb)
  have z1 : w.heap.size < w1.heap.size := by have := hb.size; simp at this; omega
  clear hb
  have hal : Below w1.heap.size w1 (w1.alloc (.cells #[.int .i64 p, .slice a0 m c0, .slice a1 ns c1, .slice a2 ls.length c2] 108)) := (Below.refl _ _).alloc (Nat.le_refl _) _
  have x0 := cell_carry x0 (Carries.of 0 hal)
  have x1 := cell_carry x1 (Carries.of 0 hal)
  have x2 := cell_carry x2 (Carries.of 0 hal)
  have x3 := cell_carry x3 (Carries.of 0 hal)
  have x4 := cell_carry x4 (Carries.of 0 hal)
  go_wp2_with fail
  have y0 : (w1.alloc (.cells #[.int .i64 p, .slice a0 m c0, .slice a1 ns c1, .slice a2 ls.length c2] 108)).cell? ⟨w1.heap.size, 0, none⟩ = some (.int .i64 p) := by simp
  have y1 : (w1.alloc (.cells #[.int .i64 p, .slice a0 m c0, .slice a1 ns c1, .slice a2 ls.length c2] 108)).cell? ⟨w1.heap.size, 1, none⟩ = some (.slice a0 m c0) := by simp
  have y2 : (w1.alloc (.cells #[.int .i64 p, .slice a0 m c0, .slice a1 ns c1, .slice a2 ls.length c2] 108)).cell? ⟨w1.heap.size, 2, none⟩ = some (.slice a1 ns c1) := by simp
  have y3 : (w1.alloc (.cells #[.int .i64 p, .slice a0 m c0, .slice a1 ns c1, .slice a2 ls.length c2] 108)).cell? ⟨w1.heap.size, 3, none⟩ = some (.slice a2 ls.length c2) := by simp
  generalize w1.alloc (.cells #[.int .i64 p, .slice a0 m c0, .slice a1 ns c1, .slice a2 ls.length c2] 108) = wA at hal x0 x1 x2 x3 x4 y0 y1 y2 y3 ⊢
  have hwA : Below w.heap.size w wA := hw1.trans (hal.mono hw1.size)
  clear hal hw1
  refine (IsValidSTG_any _ s _ lo (HV.out.keep (Carries.of lo hwA)) HS.out).mono ?_
  rintro e w2 ⟨rfl, hb⟩
  have hw2 : Below w.heap.size w w2 := hwA.trans (hb.mono hwA.size)
  have y0 := cell_carry y0 (Carries.of 0 hb)
  have y1 := cell_carry y1 (Carries.of 0 hb)
  have y2 := cell_carry y2 (Carries.of 0 hb)
  have y3 := cell_carry y3 (Carries.of 0 hb)
  clear hb x0 x1 x2 x3 x4 hwA
  cases hg : goodS s with
  | false =>
    have hf : tofB s sig = false := by unfold tofB; rw [hg]; rfl
    have e2 := HLL.out
    rw [tofL_no hf] at e2
    have e1 := HB.out
    rw [hf] at e1
    subst e1; subst e2
    clear hg hf
    go_wp2_with fail
    go_ret2
    exact ⟨_, rfl, ow_nil _ _, hw2⟩
  | true =>
  have HGS := Lib.hid hg; clear hg
  go_wp2_with fail
  refine (hasSignal_any _ _ _ _ _ _ _ _ _ _ _ _ hss).mono ?_
  rintro e w3 ⟨rfl, hb⟩
  have hw3 : Below w.heap.size w w3 := hw2.trans (hb.mono hw2.size)
  have y0 := cell_carry y0 (Carries.of 0 hb)
  have y1 := cell_carry y1 (Carries.of 0 hb)
  have y2 := cell_carry y2 (Carries.of 0 hb)
  have y3 := cell_carry y3 (Carries.of 0 hb)
  clear hb hw2
  by_cases hin : 0 ≤ sig ∧ sig < (ns : Int)
  case neg =>
    have hf : tofB s sig = false := by unfold tofB; rw [← HP.out.1, decide_eq_false hin]; simp
    have e2 := HLL.out
    rw [tofL_no hf] at e2
    have e1 := HB.out
    rw [hf] at e1
    subst e1; subst e2
    rw [decide_eq_false hin]
    clear hin hf
    go_wp2_with fail
    go_ret2
    exact ⟨_, rfl, ow_nil _ _, hw3⟩
  have hf : tofB s sig = true := by unfold tofB; rw [HGS.out, ← HP.out.1, decide_eq_true hin]; rfl
  have e2 := HLL.out
  rw [tofL_yes hf, ← HP.out.2] at e2
  have e1 := HB.out
  rw [hf] at e1
  subst e1; subst e2
  rw [decide_eq_true hin]
  clear hin hf
  go_wp2_with fail
  refine (labelledWith_any _ _ _ _ _ _ _ _ ls sig up _ lo (HL.out.keep (Carries.of lo hw3)) hll).mono ?_
  rintro e w4 ⟨u, rfl, hi, hb⟩
  have hw4 : Below w.heap.size w w4 := hw3.trans (hb.mono hw3.size)
  go_wp2_with fail
  go_ret2
  exact ⟨_, rfl, hi.low hw3.size, hw4⟩

set_option maxRecDepth 100000 in
set_option maxHeartbeats 2000000 in
theorem specTransitionsOf_any (v : Value) (s : StgD) (sig : Int) (up : Bool) (w : World) (lo : Nat) (hv : StgAt lo w v s) (hs : SmallStg s) :
    Calls Try.prog 43 #[v, .int .i64 sig, .bool up] w (RetOv w (tofL s sig up) (tofB s sig)) := by
  obtain ⟨a0, c0, a1, c1, a2, c2, rfl, hn, hsg, hl⟩ := hv.form
  clear hn hsg
  have HV := Lib.hid hv; clear hv
  have hss := hs.2.1.1
  have hll := hs.2.2.1
  have HS := Lib.hid hs; clear hs
  obtain ⟨BB, hB⟩ : ∃ B, B = tofB s sig := ⟨_, rfl⟩
  obtain ⟨LL, hL⟩ : ∃ L, L = tofL s sig up := ⟨_, rfl⟩
  rw [← hB, ← hL]
  have HB := Lib.hid hB; clear hB
  have HLL := Lib.hid hL; clear hL
  obtain ⟨p, hp⟩ : ∃ p, p = s.net.places := ⟨_, rfl⟩
  obtain ⟨m, hm⟩ : ∃ m, m = s.net.ts.length := ⟨_, rfl⟩
  obtain ⟨ns, hns⟩ : ∃ ns, ns = s.sigs.length := ⟨_, rfl⟩
  obtain ⟨ls, hls⟩ : ∃ ls, ls = s.labs := ⟨_, rfl⟩
  obtain ⟨st, hst⟩ : ∃ st, st = s.start := ⟨_, rfl⟩
  rw [← hp, ← hm, ← hns, ← hls, ← hst] at HV ⊢
  rw [← hls] at hl hll
  rw [← hns] at hss
  have HP := Lib.hid (And.intro hns hls)
  clear hp hm hns hls hst
  obtain ⟨al, capl, hal, hcl, hzl⟩ := hl
  simp only [Value.slice.injEq, true_and] at hal
  obtain ⟨rfl, rfl⟩ := hal
  have HF := Lib.hid hzl; clear hzl
  go_enter Try.func43, Try.ntmps43
  go_wp2_with fail
  refine (l2Good_any _ s _ lo (HV.out.keep ?_) HS.out).mono ?_
  · (repeat' (first | (with_reducible exact Carries.refl _ _) | (with_reducible assumption) | (with_reducible refine Carries.alloc ?_ _) | (with_reducible refine Carries.drew ?_) | (with_reducible refine Carries.drewN ?_ _) | (with_reducible refine Carries.set ?_ ?_ _) | go_size))
  rintro e w1 ⟨rfl, hb⟩
  have hw1 : Below w.heap.size w w1 := by
    refine Below.trans ?_ (hb.mono ?_)
    · (repeat' (first | (with_reducible exact Below.refl _ _) | (with_reducible assumption) | (with_reducible refine Below.alloc ?_ ?_ _) | (with_reducible refine Below.drew ?_) | (with_reducible refine below_drewN ?_ _) | (with_reducible refine Below.setCell ?_ ?_ _) | go_size))
    · simp
  have x2 : w1.cell? ⟨w.heap.size, 2, none⟩ = some (.slice a1 ns c1) := cell_carry (by simp) (Carries.of 0 hb)
  have x3 : w1.cell? ⟨w.heap.size, 3, none⟩ = some (.slice a2 ls.length c2) := cell_carry (by simp) (Carries.of 0 hb)
  clear hb
  cases hg : goodS s with
  | false =>
    have hf : tofB s sig = false := by unfold tofB; rw [hg]; rfl
    have e2 := HLL.out
    rw [tofL_no hf] at e2
    have e1 := HB.out
    rw [hf] at e1
    subst e1; subst e2
    clear hg hf
    go_wp2_with fail
    go_ret2
    exact ⟨_, rfl, ow_nil _ _, hw1⟩
  | true =>
  have HGS := Lib.hid hg; clear hg
  go_wp2_with fail
  refine (l1In_any _ _ _ _).mono ?_
  rintro e W ⟨rfl, hb⟩
  have hW : Below w.heap.size w W := hw1.trans (hb.mono hw1.size)
  have x3 := cell_carry x3 (Carries.of 0 hb)
  clear hb hw1 x2
  by_cases hin : 0 ≤ sig ∧ sig < (ns : Int)
  case neg =>
    have hf : tofB s sig = false := by unfold tofB; rw [← HP.out.1, decide_eq_false hin]; simp
    have e2 := HLL.out
    rw [tofL_no hf] at e2
    have e1 := HB.out
    rw [hf] at e1
    subst e1; subst e2
    rw [decide_eq_false (by omega)]
    clear hin hf
    go_wp2_with fail
    go_ret2
    exact ⟨_, rfl, ow_nil _ _, hW⟩
  have hf : tofB s sig = true := by unfold tofB; rw [HGS.out, ← HP.out.1, decide_eq_true hin]; rfl
  have e2 := HLL.out
  rw [tofL_yes hf, ← HP.out.2] at e2
  have e1 := HB.out
  rw [hf] at e1
  subst e1
  rw [decide_eq_true (by omega)]
  clear hin hf HLL HB
  obtain ⟨f, hf⟩ : ∃ f, f = labIs ls sig up := ⟨_, rfl⟩
  have e3 : LL = enTo f ls.length := by rw [e2, hf]; rfl
  clear e2
  have HL := Lib.hid e3; clear e3
  have HF0 := Lib.hid hf; clear hf
  have zW := hW.size
  go_wp2_with fail
  go_loopw [8, 26] (fun l i wr => ∃ k : Nat, k ≤ ls.length ∧ i = .int .i64 k ∧ Hid (wr.ownsRow W.heap.size 3 1 l (enTo f k).length (intCells (enTo f k))) ∧ Below W.heap.size W wr) (fun _ i _ => ls.length - (intOf i).toNat)
  case atStart => exact ⟨0, Nat.zero_le _, rfl, World.ownsRow_nil _ _ _ _, Below.refl _ _⟩
  case round =>
    obtain ⟨k, hk, rfl, hown, hb1⟩ := hrel
    have zz1 := hb1.size
    by_cases hlt : k < ls.length
    · rcases HF.out with h0 | ⟨b, off, rfl, hlo, hcell⟩
      · omega
      obtain ⟨c0', c1'⟩ := hcell k hlt
      have d0 := Carries.of lo (hW.trans (hb1.mono zW)) _ _ hlo c0'
      have d1 := Carries.of lo (hW.trans (hb1.mono zW)) _ _ hlo c1'
      clear hcell c0' c1'
      have hfk : f k = (decide (lbS ls k = sig) && decide (lbU ls k = up)) := by rw [HF0.out]; rfl
      have hle := enTo_length f k
      try dsimp only at d0 d1
      generalize lbS ls k = q0 at d0 hfk
      generalize lbU ls k = q1 at d1 hfk
      have hwA : Below W.heap.size W (wr.alloc (.cells #[.int .i64 q0, .bool q1] 111)) := hb1.alloc zz1 _
      have HA := Lib.hid (World.ownsRow.alloc hown.out (.cells #[.int .i64 q0, .bool q1] 111))
      clear hown
      cases hd : f k with
      | false =>
        have he := enTo_false hd
        rw [hd] at hfk
        have HO4 := Lib.hid (show (wr.alloc (.cells #[.int .i64 q0, .bool q1] 111)).ownsRow W.heap.size 3 1 u8 (enTo f (k + 1)).length (intCells (enTo f (k + 1))) by rw [he]; exact HA.out)
        clear he hd
        by_cases e0 : q0 = sig
        · subst e0
          have e1 : ¬ q1 = up := fun h => by simp [h] at hfk
          have t1 : (q1 == up) = false := by simpa using e1
          clear hfk e1
          go_wp2_with fail
          go_roundw
          case rel => exact ⟨k + 1, by omega, by go_num, HO4, hwA⟩
          case measure => simp [intOf]; omega
        · have t0 : (q0 == sig) = false := by simpa using e0
          clear hfk e0
          go_wp2_with fail
          go_roundw
          case rel => exact ⟨k + 1, by omega, by go_num, HO4, hwA⟩
          case measure => simp [intOf]; omega
      | true =>
        have he := Lib.hid (enTo_true hd)
        rw [hd] at hfk
        clear hd
        obtain ⟨e0, e1⟩ : q0 = sig ∧ q1 = up := by simpa using hfk.symm
        subst e0; subst e1
        clear hfk
        go_wp2_with (refine wpList_append_ints rfl (.tmp 41) (.tmp 43) rfl W.heap.size 0 _ _ _ rfl (World.ownsRow.alloc HA.out _) _ [(k : Int)] rfl (ints_one2 _ _ _ _) (by simp; omega) (by simp; omega) ?_; intro v' w' hown' hgrow)
        have hw4 : Below W.heap.size W w' := (hwA.alloc (by simp; omega) _).grown hgrow (by simp; omega) (fun g hg => (HA.out.lt g hg).1)
        have HO4 := Lib.hid (show w'.ownsRow W.heap.size 3 1 v' (enTo f (k + 1)).length (intCells (enTo f (k + 1))) by rw [he.out, List.length_append, intCells_append]; exact hown')
        go_wp2_with fail
        go_roundw
        case rel => exact ⟨k + 1, by omega, by go_num, HO4.out, hw4⟩
        case measure => simp [intOf]; omega
    · have hkk : k = ls.length := by omega
      have HO2 : Hid (IntsOw w.heap.size wr u8 LL) := by
        have h := ow_of_owns (Go.Joins.ownsRow_le hown.out zW)
        rw [hkk, ← HL.out] at h
        exact h
      subst hkk
      go_wp2_with fail
      go_ret2
      exact ⟨_, rfl, HO2.out, hW.trans (hb1.mono zW)⟩

end Go.Proofs.Ytlakcjcmbhkcdaa
