/- WALKS: l4Back, HomeStates of the model.
   WALKS: slices.IndexFunc of moves at a closure of three captures whose answers are known; the closure of shortestPath. -/
import Derived.Test.YtfipnlehaklepaaVHsp
import Derived.Test.YtfipnlehaklepaaVRgs
import Derived.Test.YtfipnlehaklepaaVSgt
import Derived.Test.YtfipnlehaklepaaVSgu
import Derived.Test.YtfipnlehaklepaaVL1in
import Derived.Test.YtfipnlehaklepaaVFarp
import Derived.BigQuiet
namespace Go.Proofs.Ytfipnlehaklepaa
open Go.RowKit

theorem rowIs_madeAt (w : World) (z v : Value) (n i0 : Nat) (t : TypeId) : (w.alloc (.cells ((madeCells #[z] n).setIfInBounds i0 v) t)).rowIs w.heap.size t n (fun j => if j = i0 then v else z) := by
  obtain ⟨cur, hb, hsz, hf⟩ := World.rowIs_made w z n t
  have e : cur = madeCells #[z] n := by
    have h := (heap_alloc_new w (.cells (madeCells #[z] n) t)).symm.trans hb
    simp only [Option.some.injEq, Obj.cells.injEq] at h
    exact h.1.symm
  rw [e] at hsz hf
  refine ⟨_, heap_alloc_new w _, by simp [hsz], fun i hi => ?_⟩
  rw [Array.getElem?_setIfInBounds]
  dsimp only
  by_cases h : i = i0
  · subst h
    rw [if_pos rfl, if_pos (by omega), if_pos rfl]
  · rw [if_neg (fun e => h e.symm), if_neg h]
    exact hf i hi

/-- a row of bools that the callee made -/
def RetRowB (w : World) (n : Nat) (g : Nat → Bool) (e : Ending) (w' : World) : Prop :=
  ∃ b : Nat, e = .returned (.slice (some ⟨b, 0, none⟩) n n) ∧ w.heap.size ≤ b ∧ w'.rowIs b 4 n (bV g) ∧ Below w.heap.size w w'

set_option maxRecDepth 100000 in
set_option maxHeartbeats 4000000 in
theorem l4Back_any (v : Value) (r : RgD) (k0 : Nat) (w : World) (lo : Nat) (hv : RgAt lo w v r) (hs : SmallRg r) (hk : k0 < r.marks.length) (hin : ∀ i, i < r.moves.length → (0 ≤ mvF r.moves i ∧ mvF r.moves i < r.marks.length) ∧ (0 ≤ mvT r.moves i ∧ mvT r.moves i < r.marks.length)) :
    Calls Try.prog 83 #[v, .int .i64 (k0 : Int)] w (RetRowB w r.marks.length (bk r.moves r.marks.length k0)) := by
  obtain ⟨a0, c0, a1, c1, rfl, h_0, hl⟩ := hv.form
  clear hv h_0
  have K1 := hs.1.1
  have K2 := hs.2
  clear hs
  obtain ⟨ss, ls⟩ := r
  simp only at hl hk hin K1 K2 ⊢
  obtain ⟨n, hnn⟩ : ∃ n, n = ss.length := ⟨_, rfl⟩
  rw [← hnn] at hk hin K1 ⊢
  clear hnn
  obtain ⟨g, hg⟩ : ∃ g, g = bk ls n k0 := ⟨_, rfl⟩
  rw [← hg]
  have HG : Hid (g = bkN ls k0 n) := hg
  clear hg
  obtain ⟨ao, cap, hvv, hc, hz⟩ := hl
  injection hvv with e1 e2 e3
  subst e1; subst e3; clear e2
  have HF := Lib.hid hz; clear hz
  have HIN := Lib.hid hin; clear hin
  have hk1 : (k0 : Int) < (n : Int) := by omega
  have hk2 : (0 : Int) ≤ (k0 : Int) := Int.natCast_nonneg _
  have hmk := run_make_row' (P := Try.prog) 115 4 (.bool false) 1 Try.underlying115 Try.infoBool rfl .i64 .i64 n (by omega) (by omega)
  have hrow := World.rowIs_made (w.alloc (.cells #[.slice a0 n c0, .slice a1 ls.length c1] 59)) (.bool false) n 4
  have hcl := hrow.cell (i := k0) (by omega)
  have hfr := hrow.frozen k0
  simp only [World.size_alloc] at hcl hfr
  clear hrow
  have x1 : (w.alloc (.cells #[.slice a0 n c0, .slice a1 ls.length c1] 59)).cell? ⟨w.heap.size, 0, none⟩ = some (.slice a0 n c0) := by simp
  have x2 : (w.alloc (.cells #[.slice a0 n c0, .slice a1 ls.length c1] 59)).cell? ⟨w.heap.size, 1, none⟩ = some (.slice a1 ls.length c1) := by simp
  go_enter Try.func83, Try.ntmps83
  go_wp2_with fail
  have hrow := rowIs_madeAt (w.alloc (.cells #[.slice a0 n c0, .slice a1 ls.length c1] 59)) (.bool false) (.bool true) n k0 4
  rw [World.size_alloc] at hrow
  have hrow2 := hrow.congr (g := bV (bkN ls k0 0)) (fun i _ => by
    unfold bV bkN
    by_cases e : i = k0
    · rw [if_pos e, decide_eq_true e]
    · rw [if_neg e, decide_eq_false e])
  have HR := Lib.hid hrow2
  have hw0 : Below w.heap.size w ((w.alloc (.cells #[.slice a0 n c0, .slice a1 ls.length c1] 59)).alloc (.cells ((madeCells #[.bool false] n).setIfInBounds k0 (.bool true)) 4)) := by (repeat' (first | (with_reducible exact Below.refl _ _) | (with_reducible assumption) | (with_reducible refine Below.alloc ?_ ?_ _) | (with_reducible refine Below.drew ?_) | (with_reducible refine below_drewN ?_ _) | (with_reducible refine Below.setCell ?_ ?_ _) | go_size))
  have y1 : ((w.alloc (.cells #[.slice a0 n c0, .slice a1 ls.length c1] 59)).alloc (.cells ((madeCells #[.bool false] n).setIfInBounds k0 (.bool true)) 4)).cell? ⟨w.heap.size, 1, none⟩ = some (.slice a1 ls.length c1) := by simp
  clear hrow hrow2 hcl hfr x1 x2
  generalize (w.alloc (.cells #[.slice a0 n c0, .slice a1 ls.length c1] 59)).alloc (.cells ((madeCells #[.bool false] n).setIfInBounds k0 (.bool true)) 4) = W at HR hw0 y1 ⊢
  go_loopw [18] (fun pv wr => ∃ p : Nat, p ≤ n ∧ pv = .int .i64 p ∧ Hid (wr.rowIs (w.heap.size + 1) 4 n (bV (bkN ls k0 p))) ∧ Below w.heap.size w wr ∧ wr.cell? ⟨w.heap.size, 1, none⟩ = some (.slice a1 ls.length c1)) (fun pv _ => n - (intOf pv).toNat)
  case atStart => exact ⟨0, Nat.zero_le _, rfl, HR.out, hw0, y1⟩
  case round =>
    obtain ⟨p, hp, rfl, hrow, hbr, x2⟩ := hrel
    by_cases hlt : p < n
    · obtain ⟨wo, rfl⟩ : ∃ wo, wo = wr := ⟨_, rfl⟩
      go_wp2_with fail
      go_loopw [23] (fun jv wr => ∃ j : Nat, j ≤ ls.length ∧ jv = .int .i64 j ∧ Hid (wr.rowIs (w.heap.size + 1) 4 n (bV (bkTo ls (bkN ls k0 p) j))) ∧ Below w.heap.size w wr ∧ wr.cell? ⟨w.heap.size, 1, none⟩ = some (.slice a1 ls.length c1)) (fun jv _ => ls.length - (intOf jv).toNat)
      case atStart => exact ⟨0, Nat.zero_le _, rfl, hrow, hbr, x2⟩
      case round =>
        clear hrow hbr x2
        obtain ⟨j, hj, rfl, hrow, hbr, x2⟩ := hrel
        by_cases hjl : j < ls.length
        · rcases HF.out with h0 | ⟨b, off, rfl, hlo, hcell⟩
          · omega
          obtain ⟨q0, q1, q3⟩ := hcell j hjl
          have d0 := Carries.of lo hbr _ _ hlo q0
          have d1 := Carries.of lo hbr _ _ hlo q1
          have d3 := Carries.of lo hbr _ _ hlo q3
          clear hcell q0 q1 q3
          try dsimp only at d0 d1 d3
          have hfb := HIN.out j hjl
          have hnext : bkTo ls (bkN ls k0 p) (j + 1) = metArc (bkTo ls (bkN ls k0 p) j) (mvT ls j) (mvF ls j) := rfl
          obtain ⟨fn, hfn⟩ := Int.eq_ofNat_of_zero_le hfb.1.1
          obtain ⟨tn, htn⟩ := Int.eq_ofNat_of_zero_le hfb.2.1
          rw [hfn] at d0 hfb
          rw [htn] at d3 hfb
          rw [hfn, htn] at hnext
          unfold metArc at hnext
          rw [Int.toNat_natCast, Int.toNat_natCast] at hnext
          have HN := Lib.hid hnext; clear hnext hfn htn
          have f1 : (fn : Int) < (n : Int) := hfb.1.2
          have t1 : (tn : Int) < (n : Int) := hfb.2.2
          have f0 : (0 : Int) ≤ (fn : Int) := hfb.1.1
          have t0 : (0 : Int) ≤ (tn : Int) := hfb.2.1
          clear hfb
          generalize mvB ls j = xs at d1
          have zM := hrow.out.lt
          obtain ⟨m, hm⟩ : ∃ m, m = bkTo ls (bkN ls k0 p) j := ⟨_, rfl⟩
          rw [← hm] at hrow HN
          have HM := Lib.hid hm; clear hm
          have cf : wr.cell? ⟨w.heap.size + 1, tn, none⟩ = some (.bool (m tn)) := hrow.out.cell (by omega)
          cases hmf : m tn with
          | false =>
            rw [hmf] at cf
            have e : bkTo ls (bkN ls k0 p) (j + 1) = m := by rw [HN.out, hmf]; rfl
            have HE := Lib.hid e; clear e hmf
            have HR2 : Hid (∀ o, (wr.alloc o).rowIs (w.heap.size + 1) 4 n (bV (bkTo ls (bkN ls k0 p) (j + 1)))) := fun o => by rw [HE.out]; exact hrow.out.alloc o
            clear hrow HN
            go_wp2_with fail
            go_roundw
            case rel => exact ⟨j + 1, by omega, by go_num, HR2.out _, by (repeat' (first | (with_reducible exact Below.refl _ _) | (with_reducible assumption) | (with_reducible refine Below.alloc ?_ ?_ _) | (with_reducible refine Below.drew ?_) | (with_reducible refine below_drewN ?_ _) | (with_reducible refine Below.setCell ?_ ?_ _) | go_size)), cell_carry x2 (by (repeat' (first | (with_reducible exact Carries.refl _ _) | (with_reducible assumption) | (with_reducible refine Carries.alloc ?_ _) | (with_reducible refine Carries.drew ?_) | (with_reducible refine Carries.drewN ?_ _) | (with_reducible refine Carries.set ?_ ?_ _) | go_size)))⟩
            case measure => simp [intOf]; omega
          | true =>
            rw [hmf] at cf
            have e : bkTo ls (bkN ls k0 p) (j + 1) = upB m fn := by rw [HN.out, hmf]; rfl
            have HE := Lib.hid e; clear e hmf
            have ct := hrow.out.cell (i := fn) (by omega)
            have ft := hrow.out.frozen fn
            have HR2 : Hid (∀ o, ((wr.setCell ⟨w.heap.size + 1, fn, none⟩ (.bool true)).alloc o).rowIs (w.heap.size + 1) 4 n (bV (bkTo ls (bkN ls k0 p) (j + 1)))) := fun o => by
              rw [HE.out, ← bV_up]
              exact (hrow.out.set fn (.bool true)).alloc o
            have x2' : (wr.setCell ⟨w.heap.size + 1, fn, none⟩ (.bool true)).cell? ⟨w.heap.size, 1, none⟩ = some (.slice (some ⟨b, off, none⟩) ls.length c1) := (World.cell?_setCell_other _ _ _ _ (fun h => by injection h; omega)).trans x2
            have hb2 : Below w.heap.size w (wr.setCell ⟨w.heap.size + 1, fn, none⟩ (.bool true)) := hbr.setCell (p := ⟨w.heap.size + 1, fn, none⟩) (by show w.heap.size ≤ w.heap.size + 1; omega) _
            have HX := Lib.hid (And.intro x2' hb2); clear x2' hb2
            clear hrow HN
            go_wp2_with fail
            go_roundw
            case rel => exact ⟨j + 1, by omega, by go_num, HR2.out _, HX.out.2.alloc (by simpa using hbr.size) _, cell_carry HX.out.1 (by (repeat' (first | (with_reducible exact Carries.refl _ _) | (with_reducible assumption) | (with_reducible refine Carries.alloc ?_ _) | (with_reducible refine Carries.drew ?_) | (with_reducible refine Carries.drewN ?_ _) | (with_reducible refine Carries.set ?_ ?_ _) | go_size)))⟩
            case measure => simp [intOf]; omega
        · have hjj : j = ls.length := by omega
          subst hjj
          have HR2 : Hid (wr.rowIs (w.heap.size + 1) 4 n (bV (bkN ls k0 (p + 1)))) := hrow
          clear hrow
          go_wp2_with fail
          go_roundw
          case rel => exact ⟨p + 1, by omega, by go_num, HR2, hbr, x2⟩
          case measure => simp [intOf]; omega
    · have hpp : p = n := by omega
      subst hpp
      go_wp2_with fail
      go_ret
      exact ⟨_, rfl, by omega, by rw [HG.out]; exact hrow.out, hbr⟩

theorem allTo_succ (g : Nat → Bool) (k : Nat) : (List.range (k + 1)).all g = ((List.range k).all g && g k) := by
  rw [List.range_succ, List.all_append]
  simp

set_option maxRecDepth 100000 in
set_option maxHeartbeats 4000000 in
theorem specHomeStates_any (v : Value) (r : RgD) (w : World) (lo : Nat) (hv : RgAt lo w v r) (hs : SmallRg r) :
    Calls Try.prog 35 #[v] w (RetOv w (hmL r) (goodR r)) := by
  have HV := Lib.hid hv
  obtain ⟨a0, c0, a1, c1, rfl, h_0, h_1⟩ := hv.form
  clear hv h_0 h_1
  have KC := hs.1.1
  have HS := Lib.hid hs; clear hs
  obtain ⟨nc, hnc⟩ : ∃ n, n = r.marks.length := ⟨_, rfl⟩
  obtain ⟨na, hna⟩ : ∃ n, n = r.moves.length := ⟨_, rfl⟩
  have e4 : goodR r = false → hmL r = [] := hmL_no
  have e5 : goodR r = true → hmL r = enTo (hmF r) nc := fun h => by rw [hnc]; exact hmL_yes h
  have e6 : goodR r = true → ∀ i, i < r.moves.length → (0 ≤ mvF r.moves i ∧ mvF r.moves i < r.marks.length) ∧ (0 ≤ mvT r.moves i ∧ mvT r.moves i < r.marks.length) := fun h i hi => ⟨(goodR_moves h hi).1, (goodR_moves h hi).2.1⟩
  obtain ⟨g, hgd⟩ : ∃ g, g = bk r.moves nc := ⟨_, rfl⟩
  obtain ⟨f, hf⟩ : ∃ f, f = hmF r := ⟨_, rfl⟩
  have hfk : ∀ k : Nat, f k = (List.range nc).all (g k) := fun k => by rw [hf, hgd, hnc]; rfl
  have hgk : ∀ k : Nat, bk r.moves r.marks.length k = g k := fun k => by rw [hgd, hnc]
  rw [← hf] at e5
  obtain ⟨LL, hL⟩ : ∃ L, L = hmL r := ⟨_, rfl⟩
  rw [← hL] at e4 e5 ⊢
  obtain ⟨G, hG⟩ : ∃ G, G = goodR r := ⟨_, rfl⟩
  rw [← hG] at e4 e5 e6 ⊢
  have HGG := Lib.hid hG
  have E4 := Lib.hid e4
  have E5 := Lib.hid e5
  have E6 := Lib.hid e6
  have HFK := Lib.hid hfk
  have HGK := Lib.hid hgk
  rw [← hnc, ← hna] at HV ⊢
  rw [← hnc] at KC
  have HNC := Lib.hid hnc
  clear hG e4 e5 e6 hfk hgk hgd hf hL hnc hna
  have x0 : (w.alloc (.cells #[.slice a0 nc c0, .slice a1 na c1] 59)).cell? ⟨w.heap.size, 0, none⟩ = some (.slice a0 nc c0) := by simp
  have x1 : (w.alloc (.cells #[.slice a0 nc c0, .slice a1 na c1] 59)).cell? ⟨w.heap.size, 1, none⟩ = some (.slice a1 na c1) := by simp
  have hal : Below w.heap.size w (w.alloc (.cells #[.slice a0 nc c0, .slice a1 na c1] 59)) := (Below.refl _ _).alloc (Nat.le_refl _) _
  go_enter Try.func35, Try.ntmps35
  go_wp2_with fail
  generalize w.alloc (.cells #[.slice a0 nc c0, .slice a1 na c1] 59) = W0 at x0 x1 hal ⊢
  refine (l4Good_any _ r _ lo (HV.out.keep (Carries.of lo hal)) HS.out).mono ?_
  rintro e W ⟨rfl, hb⟩
  have hW : Below w.heap.size w W := hal.trans (hb.mono hal.size)
  have x0 := cell_carry x0 (Carries.of 0 hb)
  have x1 := cell_carry x1 (Carries.of 0 hb)
  have zW := hW.size
  have zB : w.heap.size < W.heap.size := cell_old x0
  clear hb hal
  rw [← HGG.out]
  cases hg : G with
  | false =>
    have el := E4.out hg
    subst el
    subst hg
    go_wp2_with fail
    go_ret2
    exact ⟨_, rfl, ow_nil _ _, hW⟩
  | true =>
  have HE := Lib.hid (E5.out hg)
  have HIN := Lib.hid (E6.out hg)
  subst hg
  go_wp2_with fail
  go_loopw [4, 15] (fun l i wr => ∃ k : Nat, k ≤ nc ∧ i = .int .i64 k ∧ Hid (wr.ownsRow W.heap.size 3 1 l (enTo f k).length (intCells (enTo f k))) ∧ Below W.heap.size W wr) (fun _ i _ => nc - (intOf i).toNat)
  case atStart => exact ⟨0, Nat.zero_le _, rfl, World.ownsRow_nil _ _ _ _, Below.refl _ _⟩
  case round =>
    obtain ⟨k, hk, rfl, hown, hb1⟩ := hrel
    have zz1 := hb1.size
    by_cases hlt : k < nc
    · have hle := enTo_length f k
      have y0 := cell_keep x0 hb1 (Nat.le_refl _)
      have y1 := cell_keep x1 hb1 (Nat.le_refl _)
      go_wp2_with fail
      refine (l4Back_any _ r k _ lo (HV.out.keep (Carries.of lo (hW.trans (hb1.mono zW)))) HS.out (by rw [← HNC.out]; exact hlt) HIN.out).mono ?_
      rintro e w2 ⟨b2, rfl, hb20, hrow, hb⟩
      rw [HGK.out, ← HNC.out] at hrow
      rw [← HNC.out]
      have hw2 : Below W.heap.size W w2 := hb1.trans (hb.mono zz1)
      have HO2 : Hid (w2.ownsRow W.heap.size 3 1 u4 (enTo f k).length (intCells (enTo f k))) := owns_after hown.out hb
      have HR := Lib.hid hrow
      have zz2 := hw2.size
      clear hb hrow hown y0 y1 hb1
      go_wp2_with fail
      go_loop [6, 22] (fun fv jv => ∃ j : Nat, j ≤ nc ∧ jv = .int .i64 j ∧ fv = .bool ((List.range j).all (g k))) (fun _ jv => nc - (intOf jv).toNat)
      case atStart => exact ⟨0, Nat.zero_le _, rfl, rfl⟩
      case round =>
        obtain ⟨j, hj, rfl, rfl⟩ := hrel
        by_cases hjl : j < nc
        · have cj := HR.out.cell hjl
          have hsu := Lib.hid (allTo_succ (g k) j)
          unfold bV at cj
          generalize g k j = x at cj hsu
          cases hfl : (List.range j).all (g k) with
          | false =>
            rw [hfl] at hsu
            go_wp2_with fail
            go_round
            case rel => exact ⟨j + 1, by omega, by go_num, by rw [hsu.out]; rfl⟩
            case measure => simp [intOf]; omega
          | true =>
            rw [hfl] at hsu
            go_wp2_with fail
            go_round
            case rel => exact ⟨j + 1, by omega, by go_num, by rw [hsu.out]; rfl⟩
            case measure => simp [intOf]; omega
        · have hjj : j = nc := by omega
          subst hjj
          have hkk := HFK.out k
          cases hfl : (List.range j).all (g k) with
          | true =>
            rw [hfl] at hkk
            have HEN := Lib.hid (enTo_true (f := f) (k := k) hkk)
            clear hkk
            go_wp2_with (refine wpList_append_ints rfl (.tmp 32) (.tmp 34) rfl W.heap.size 0 _ _ _ rfl (World.ownsRow.alloc HO2.out _) _ [(k : Int)] rfl (ints_one _ _ _) (by simp; omega) (by simp; omega) ?_; intro v' w' hown' hgrow)
            have hw4 : Below W.heap.size W w' := (hw2.alloc hw2.size _).grown hgrow (by simp; have := hw2.size; omega) (fun g hg => (HO2.out.lt g hg).1)
            have HO4 := Lib.hid (show w'.ownsRow W.heap.size 3 1 v' (enTo f (k + 1)).length (intCells (enTo f (k + 1))) by rw [HEN.out, List.length_append, intCells_append]; exact hown')
            clear hown' hgrow
            go_wp2_with fail
            go_roundw
            case rel => exact ⟨k + 1, by omega, by go_num, HO4, hw4⟩
            case measure => simp [intOf]; omega
          | false =>
            rw [hfl] at hkk
            have HO4 := Lib.hid (show w2.ownsRow W.heap.size 3 1 u4 (enTo f (k + 1)).length (intCells (enTo f (k + 1))) by rw [enTo_false hkk]; exact HO2.out)
            clear hkk HO2
            go_wp2_with fail
            go_roundw
            case rel => exact ⟨k + 1, by omega, by go_num, HO4, hw2⟩
            case measure => simp [intOf]; omega
    · have hkk : k = nc := by omega
      subst hkk
      have HO2 : Hid (IntsOw w.heap.size wr u4 LL) := by
        have h := ow_of_owns (ownsRow_low hown.out zW)
        rw [← HE.out] at h
        exact h
      clear hown
      go_wp2_with fail
      go_ret2
      exact ⟨_, rfl, HO2.out, hW.trans (hb1.mono zW)⟩

end Go.Proofs.Ytfipnlehaklepaa

namespace Go.Proofs.Ytfipnlehaklepaa
open Go.RowKit

set_option maxRecDepth 100000 in
set_option maxHeartbeats 1000000 in
theorem IndexFuncMv3_any (v : Value) (ms : List Mv) (F : Nat) (c1 c2 c3 : Value) (g : Nat → Bool) (k0 : Nat) (w : World) (lo : Nat) (hv : MovesAt lo w v ms) (hl : ms.length ≤ 1048576) (hk0 : k0 < ms.length) (hbef : ∀ j, j < k0 → g j = false) (hhit : g k0 = true)
    (hF : ∀ (args : Array Value) (w : World), (callFunc F args).run Try.prog w = .ok (.enter F args) w)
    (hclo : ∀ k, k < ms.length → ∀ w1, Below w.heap.size w w1 → Calls Try.prog F #[.agg #[.int .i64 (mvF ms k), .int .i64 (mvB ms k), .int .i64 (mvT ms k)], c1, c2, c3] w1 (RetB w1 (g k))) :
    Calls Try.prog 131 #[v, .func (.func F) #[] #[c1, c2, c3]] w (RetV w (.int .i64 (k0 : Int))) := by
  obtain ⟨ao, cap, rfl, hc, hz⟩ := hv
  have HF := Lib.hid hz; clear hz
  have HC := Lib.hid hclo; clear hclo
  have HB := Lib.hid hbef; clear hbef
  have HH := Lib.hid hhit; clear hhit
  go_enter Try.func131, Try.ntmps131
  go_wp2_with fail
  go_loopw [8] (fun i wr => ∃ k : Nat, k ≤ k0 ∧ i = .int .i64 k ∧ Below w.heap.size w wr) (fun i _ => k0 - (intOf i).toNat)
  case atStart => exact ⟨0, Nat.zero_le _, rfl, Below.refl _ _⟩
  case round =>
    obtain ⟨k, hk, rfl, hb1⟩ := hrel
    have hlt : k < ms.length := by omega
    rcases HF.out with h0 | ⟨b, off, rfl, hlo, hcell⟩
    · omega
    obtain ⟨q0, q1, q2⟩ := hcell k hlt
    have d0 := Carries.of lo hb1 _ _ hlo q0
    have d1 := Carries.of lo hb1 _ _ hlo q1
    have d2 := Carries.of lo hb1 _ _ hlo q2
    clear hcell q0 q1 q2
    go_wp2_with fail
    refine (HC.out k hlt _ hb1).mono ?_
    rintro e w2 ⟨rfl, hb⟩
    have hw2 : Below w.heap.size w w2 := hb1.trans (hb.mono hb1.size)
    clear hb d0 d1 d2
    by_cases hkk : k = k0
    · subst hkk
      rw [HH.out]
      go_wp2_with fail
      go_ret
      exact ⟨rfl, hw2⟩
    · rw [HB.out k (by omega)]
      go_wp2_with fail
      go_roundw
      case rel => exact ⟨k + 1, by omega, by go_num, hw2⟩
      case measure => simp [intOf]; omega

set_option maxRecDepth 100000 in
set_option maxHeartbeats 1000000 in
theorem pathClo_any (f b t a d : Int) (n db p5 p8 p10 : Nat) (D : Nat → Int) (w : World) (hn : n ≤ 1048576) (hf : 0 ≤ f ∧ f < n)
    (x5 : w.cell? ⟨p5, 0, none⟩ = some (.int .i64 a)) (x8 : w.cell? ⟨p8, 0, none⟩ = some (.slice (some ⟨db, 0, none⟩) n n)) (x10 : w.cell? ⟨p10, 0, none⟩ = some (.int .i64 d)) (hrow : w.rowIs db 3 n (dV D)) :
    Calls Try.prog 132 #[.agg #[.int .i64 f, .int .i64 b, .int .i64 t], .pointer (some ⟨p5, 0, none⟩), .pointer (some ⟨p8, 0, none⟩), .pointer (some ⟨p10, 0, none⟩)] w (RetB w (decide (t = a ∧ D f.toNat = d))) := by
  obtain ⟨fn, rfl⟩ := Int.eq_ofNat_of_zero_le hf.1
  rw [Int.toNat_natCast]
  have hf1 : (fn : Int) < (n : Int) := hf.2
  have hf0 : (0 : Int) ≤ (fn : Int) := hf.1
  clear hf
  obtain ⟨q, hq⟩ : ∃ q, q = decide (t = a ∧ D fn = d) := ⟨_, rfl⟩
  rw [← hq]
  have cf := hrow.cell (i := fn) (by omega)
  unfold dV at cf
  generalize D fn = x at cf hq
  have HQ := Lib.hid hq; clear hq
  have zdb := hrow.lt
  have z5 : p5 < w.heap.size := cell_old x5
  have z8 : p8 < w.heap.size := cell_old x8
  have z10 : p10 < w.heap.size := cell_old x10
  clear hrow
  have hbA : Below w.heap.size w (w.alloc (.cells #[.int .i64 (fn : Int), .int .i64 b, .int .i64 t] 112)) := (Below.refl _ _).alloc (Nat.le_refl _) _
  have x5 := cell_carry x5 (Carries.of 0 hbA)
  have x8 := cell_carry x8 (Carries.of 0 hbA)
  have x10 := cell_carry x10 (Carries.of 0 hbA)
  have cf := cell_carry cf (Carries.of 0 hbA)
  have y0 : (w.alloc (.cells #[.int .i64 (fn : Int), .int .i64 b, .int .i64 t] 112)).cell? ⟨w.heap.size, 0, none⟩ = some (.int .i64 (fn : Int)) := by simp
  have y1 : (w.alloc (.cells #[.int .i64 (fn : Int), .int .i64 b, .int .i64 t] 112)).cell? ⟨w.heap.size, 1, none⟩ = some (.int .i64 b) := by simp
  have y2 : (w.alloc (.cells #[.int .i64 (fn : Int), .int .i64 b, .int .i64 t] 112)).cell? ⟨w.heap.size, 2, none⟩ = some (.int .i64 t) := by simp
  go_enter Try.func132, Try.ntmps132
  go_wp2_with fail
  generalize w.alloc (.cells #[.int .i64 (fn : Int), .int .i64 b, .int .i64 t] 112) = W at x5 x8 x10 cf y0 y1 y2 hbA ⊢
  by_cases h1 : t = a
  case neg =>
    have t1 : decide (t = a) = false := decide_eq_false h1
    have t2 : (t == a) = false := by rw [beq_eq_false_iff_ne]; exact h1
    have e := HQ.out
    rw [decide_eq_false (fun h => h1 h.1)] at e
    subst e
    go_quiet (fail)
    go_wp2_with fail
    go_ret
    exact ⟨rfl, below_drewN hbA _⟩
  subst h1
  by_cases h2 : x = d
  case neg =>
    have t1 : decide (x = d) = false := decide_eq_false h2
    have t2 : (x == d) = false := by rw [beq_eq_false_iff_ne]; exact h2
    have e := HQ.out
    rw [decide_eq_false (fun h => h2 h.2)] at e
    subst e
    go_quiet (fail)
    go_wp2_with fail
    go_ret
    exact ⟨rfl, below_drewN hbA _⟩
  subst h2
  have e := HQ.out
  rw [decide_eq_true ⟨rfl, rfl⟩] at e
  subst e
  go_quiet (fail)
  go_wp2_with fail
  go_ret
  exact ⟨rfl, below_drewN hbA _⟩

end Go.Proofs.Ytfipnlehaklepaa
