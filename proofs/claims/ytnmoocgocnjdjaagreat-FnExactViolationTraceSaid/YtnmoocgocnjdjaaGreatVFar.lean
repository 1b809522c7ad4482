/- WALKS: slices.Index of strings, hasMarking, isReachabilityGraph of the program (a set of marks; a closure that is handed to slices.ContainsFunc).
   WALKS: transitionsAlong, ShortestFiringSequence of the program.
   WALK: l4Far of the model. -/
import Derived.Test.YtnmoocgocnjdjaaGreatVShc
import Derived.Maps.OwnSet
import Derived.StringKeys
import Derived.Test.YtnmoocgocnjdjaaGreatVShp
import Derived.Test.YtnmoocgocnjdjaaGreatVOvk
import Derived.Test.YtnmoocgocnjdjaaGreatVOwn
import Derived.Test.YtnmoocgocnjdjaaGreatVRgb
namespace Go.Proofs.YtnmoocgocnjdjaaGreat
open Go.RowKit Go.Maps

/-- a call returns a number that is at least 0 where some move is out of bounds -/
def RetBad (w : World) (g : Bool) (e : Ending) (w' : World) : Prop := ∃ r : Int, e = .returned (.int .i64 r) ∧ -1 ≤ r ∧ r ≤ 1048576 ∧ g = decide (r < 0) ∧ Below w.heap.size w w'

theorem law_str : Keyed Tryz.prog 9 := string_keyed Tryz.underlying9

end Go.Proofs.YtnmoocgocnjdjaaGreat

namespace Go.Proofs.YtnmoocgocnjdjaaGreat
open Go.RowKit

theorem goodR_in {r : RgD} (h : goodR r = true) : MvIn r.moves r.marks.length := fun _ hi => ⟨(goodR_moves h hi).1, (goodR_moves h hi).2.1⟩
/-- is there a way to t, and the transitions along a shortest one -/
def sfB (r : RgD) (t : Int) : Bool := goodR r && (decide (0 ≤ t ∧ t < r.marks.length) && decide (0 ≤ distC r.marks.length r.moves t.toNat))
def byL (ms : List Mv) (W : List Nat) : List Int := W.map (fun i => mvB ms i)
def sfL (r : RgD) (t : Int) : List Int := if sfB r t = true then byL r.moves (wayTo r.moves (distC r.marks.length r.moves) (distC r.marks.length r.moves t.toNat).toNat t.toNat) else []
theorem sf_no {r : RgD} {t : Int} (h : sfB r t = false) : sfL r t = [] := by unfold sfL; rw [h]; rfl
theorem sfB_bad {r : RgD} {t : Int} (h : goodR r = false) : sfB r t = false := by unfold sfB; rw [h]; rfl
theorem sfB_out {r : RgD} {t : Int} (h : ¬ (0 ≤ t ∧ t < r.marks.length)) : sfB r t = false := by unfold sfB; rw [decide_eq_false h]; simp
theorem sfB_far {r : RgD} {t : Nat} {D : Nat → Int} (hD : Dist r.marks.length (tgL r.moves) 0 D) (ht : t < r.marks.length) (h : D t < 0) : sfB r t = false := by
  cases hg : goodR r with
  | false => exact sfB_bad hg
  | true =>
  unfold sfB
  rw [Int.toNat_natCast, distC_eq (goodR_in hg) hD t ht, decide_eq_false (show ¬ 0 ≤ D t by omega)]
  simp
theorem sfB_yes {r : RgD} {t : Nat} {D : Nat → Int} (hg : goodR r = true) (hD : Dist r.marks.length (tgL r.moves) 0 D) (ht : t < r.marks.length) (h : 0 ≤ D t) : sfB r t = true := by
  unfold sfB
  rw [hg, Int.toNat_natCast, distC_eq (goodR_in hg) hD t ht, decide_eq_true h, decide_eq_true (show (0 : Int) ≤ (t : Int) ∧ (t : Int) < r.marks.length by omega)]
  rfl
theorem sfL_yes {r : RgD} {t : Nat} {D : Nat → Int} (hg : goodR r = true) (hD : Dist r.marks.length (tgL r.moves) 0 D) (hin : MvIn r.moves r.marks.length) (ht : t < r.marks.length) (h : 0 ≤ D t) : sfL r t = byL r.moves (wayTo r.moves D (D t).toNat t) := by
  unfold sfL
  rw [sfB_yes hg hD ht h, if_pos rfl, Int.toNat_natCast, distC_eq hin hD t ht, wayTo_congr hin (distC_eq hin hD)]
theorem byL_length (ms : List Mv) (W : List Nat) : (byL ms W).length = W.length := by simp [byL]
theorem byL_toMv (ms : List Mv) (W : List Nat) (i : Nat) (h : i < W.length) : (byL ms W).getD i 0 = mvB (toMv ms W) i := by
  have h1 : W[i]? = some W[i] := List.getElem?_eq_getElem h
  rw [(toMv_get (ms := ms) h1).2.1]
  unfold byL
  simp [List.getD, h1]
theorem sfL_small {r : RgD} {t : Int} (h : SmallRg r) : (sfL r t).length ≤ 1048576 := by
  unfold sfL
  by_cases hb : sfB r t = true
  · rw [if_pos hb, byL_length, wayTo_length]
    unfold sfB at hb
    simp only [Bool.and_eq_true, decide_eq_true_eq] at hb
    have ht : t.toNat < r.marks.length := by omega
    have h1 := (distC_is (goodR_in hb.1) (by omega) t.toNat ht).2.1
    have h2 := h.1.1
    omega
  · rw [if_neg hb]; exact Nat.zero_le _

end Go.Proofs.YtnmoocgocnjdjaaGreat

namespace Go.Proofs.YtnmoocgocnjdjaaGreat
open Go.RowKit

def fill1 (k : Nat) : Nat → Int := fun j => if j < k then -1 else 0
theorem fill1_up (k : Nat) : (fun j => if j = k then Value.int .i64 (-1) else dV (fill1 k) j) = dV (fill1 (k + 1)) := by
  funext j
  unfold dV fill1
  by_cases e : j = k
  · subst e; rw [if_pos rfl, if_pos (Nat.lt_succ_self j)]
  · rw [if_neg e]
    by_cases e2 : j < k
    · rw [if_pos e2, if_pos (by omega)]
    · rw [if_neg e2, if_neg (by omega)]

set_option maxRecDepth 100000 in
set_option maxHeartbeats 4000000 in
theorem l4Far_any (v : Value) (r : RgD) (s : Nat) (w : World) (lo : Nat) (hv : RgAt lo w v r) (hs : SmallRg r) (hk : s < r.marks.length) (hin : MvIn r.moves r.marks.length) :
    Calls Tryz.prog 142 #[v, .int .i64 (s : Int)] w (RetDist w r.marks.length (tgL r.moves) s) := by
  obtain ⟨a0, c0, a1, c1, rfl, h_0, hl⟩ := hv.form
  clear hv h_0
  have K1 := hs.1.1
  have K2 := hs.2
  clear hs
  obtain ⟨ss, ls⟩ := r
  simp only at hl hk hin K1 K2 ⊢
  obtain ⟨n, hnn⟩ : ∃ n, n = ss.length := ⟨_, rfl⟩
  rw [← hnn] at hk hin K1 ⊢
  clear hnn
  obtain ⟨ao, cap, hvv, hc, hz⟩ := hl
  injection hvv with e1 e2 e3
  subst e1; subst e3; clear e2
  have HF := Lib.hid hz; clear hz
  have HIN := Lib.hid hin; clear hin
  have hk1 : (s : Int) < (n : Int) := by omega
  have hk2 : (0 : Int) ≤ (s : Int) := Int.natCast_nonneg _
  have hmk := run_make_row' (P := Tryz.prog) 29 3 (.int .i64 0) 8 Tryz.underlying29 Tryz.infoInt rfl .i64 .i64 n (by omega) (by omega)
  have x1 : (w.alloc (.cells #[.slice a0 n c0, .slice a1 ls.length c1] 185)).cell? ⟨w.heap.size, 0, none⟩ = some (.slice a0 n c0) := by simp
  have x2 : (w.alloc (.cells #[.slice a0 n c0, .slice a1 ls.length c1] 185)).cell? ⟨w.heap.size, 1, none⟩ = some (.slice a1 ls.length c1) := by simp
  have hrow := (World.rowIs_made (w.alloc (.cells #[.slice a0 n c0, .slice a1 ls.length c1] 185)) (.int .i64 0) n 3).congr (g := dV (fill1 0)) (fun i _ => by unfold dV fill1; rw [if_neg (Nat.not_lt_zero _)])
  have hw0 : Below w.heap.size w ((w.alloc (.cells #[.slice a0 n c0, .slice a1 ls.length c1] 185)).alloc (.cells (madeCells #[.int .i64 0] n) 3)) := by (repeat' (first | (with_reducible exact Below.refl _ _) | (with_reducible assumption) | (with_reducible refine Below.alloc ?_ ?_ _) | (with_reducible refine Below.drew ?_) | (with_reducible refine below_drewN ?_ _) | (with_reducible refine Below.setCell ?_ ?_ _) | go_size))
  have y1 : ((w.alloc (.cells #[.slice a0 n c0, .slice a1 ls.length c1] 185)).alloc (.cells (madeCells #[.int .i64 0] n) 3)).cell? ⟨w.heap.size, 1, none⟩ = some (.slice a1 ls.length c1) := by simp
  rw [World.size_alloc] at hrow
  have HR := Lib.hid hrow; clear hrow
  go_enter Tryz.func142, Tryz.ntmps142
  go_wp2_with fail
  clear x1 x2
  generalize (w.alloc (.cells #[.slice a0 n c0, .slice a1 ls.length c1] 185)).alloc (.cells (madeCells #[.int .i64 0] n) 3) = W at HR hw0 y1 ⊢
  go_loopw [16] (fun kv wr => ∃ k : Nat, k ≤ n ∧ kv = .int .i64 k ∧ Hid (wr.rowIs (w.heap.size + 1) 3 n (dV (fill1 k))) ∧ Below w.heap.size w wr ∧ wr.cell? ⟨w.heap.size, 1, none⟩ = some (.slice a1 ls.length c1)) (fun kv _ => n - (intOf kv).toNat)
  case atStart => exact ⟨0, Nat.zero_le _, rfl, HR.out, hw0, y1⟩
  case round =>
    clear hw0 y1
    obtain ⟨k, hkn, rfl, hrow, hbr, x2⟩ := hrel
    have zM := hrow.out.lt
    by_cases hlt : k < n
    · have ck := hrow.out.cell hlt
      have fk := hrow.out.frozen k
      have HR2 : Hid ((wr.setCell ⟨w.heap.size + 1, k, none⟩ (.int .i64 (-1))).rowIs (w.heap.size + 1) 3 n (dV (fill1 (k + 1)))) := by
        unfold Hid
        rw [← fill1_up]
        exact hrow.out.set k _
      have x2' : (wr.setCell ⟨w.heap.size + 1, k, none⟩ (.int .i64 (-1))).cell? ⟨w.heap.size, 1, none⟩ = some (.slice a1 ls.length c1) := (World.cell?_setCell_other _ _ _ _ (fun h => by injection h; omega)).trans x2
      have hb2 : Below w.heap.size w (wr.setCell ⟨w.heap.size + 1, k, none⟩ (.int .i64 (-1))) := hbr.setCell (p := ⟨w.heap.size + 1, k, none⟩) (by show w.heap.size ≤ w.heap.size + 1; omega) _
      have HX := Lib.hid (And.intro x2' hb2); clear x2' hb2 hrow x2
      go_wp2_with fail
      go_roundw
      case rel => exact ⟨k + 1, by omega, by go_num, HR2, HX.out.2, HX.out.1⟩
      case measure => simp [intOf]; omega
    · have hkk : k = n := by omega
      subst hkk
      have ck := hrow.out.cell hk
      have fk := hrow.out.frozen s
      have HR2 : Hid ((wr.setCell ⟨w.heap.size + 1, s, none⟩ (.int .i64 0)).rowIs (w.heap.size + 1) 3 k (dV (updD (fun _ => -1) s 0))) := by
        unfold Hid
        rw [← dV_upd]
        refine (hrow.out.set s _).congr (fun i hi => ?_)
        unfold dV fill1
        rw [if_pos hi]
      have x2' : (wr.setCell ⟨w.heap.size + 1, s, none⟩ (.int .i64 0)).cell? ⟨w.heap.size, 1, none⟩ = some (.slice a1 ls.length c1) := (World.cell?_setCell_other _ _ _ _ (fun h => by injection h; omega)).trans x2
      have hb2 : Below w.heap.size w (wr.setCell ⟨w.heap.size + 1, s, none⟩ (.int .i64 0)) := hbr.setCell (p := ⟨w.heap.size + 1, s, none⟩) (by show w.heap.size ≤ w.heap.size + 1; omega) _
      have HX := Lib.hid (And.intro x2' hb2); clear x2' hb2 hrow x2
      go_wp2_with fail
      generalize wr.setCell ⟨w.heap.size + 1, s, none⟩ (.int .i64 0) = W2 at HR2 HX ⊢
      go_loopw [7] (fun pv wr => ∃ (p : Nat) (D : Nat → Int), p ≤ k ∧ pv = .int .i64 p ∧ Hid (FarJ ls k s p 0 D) ∧ Hid (wr.rowIs (w.heap.size + 1) 3 k (dV D)) ∧ Below w.heap.size w wr ∧ wr.cell? ⟨w.heap.size, 1, none⟩ = some (.slice a1 ls.length c1)) (fun pv _ => k - (intOf pv).toNat)
      case atStart => exact ⟨0, _, Nat.zero_le _, rfl, FarJ.start ls k s, HR2.out, HX.out.2, HX.out.1⟩
      case round =>
        clear hbr ck fk
        obtain ⟨p, D, hp, rfl, hfar, hrow, hbr, x2⟩ := hrel
        by_cases hpl : p < k
        · go_wp2_with fail
          go_loopw [35] (fun jv wr => ∃ (j : Nat) (D : Nat → Int), j ≤ ls.length ∧ jv = .int .i64 j ∧ Hid (FarJ ls k s p j D) ∧ Hid (wr.rowIs (w.heap.size + 1) 3 k (dV D)) ∧ Below w.heap.size w wr ∧ wr.cell? ⟨w.heap.size, 1, none⟩ = some (.slice a1 ls.length c1)) (fun jv _ => ls.length - (intOf jv).toNat)
          case atStart => exact ⟨0, D, Nat.zero_le _, rfl, hfar, hrow, hbr, x2⟩
          case round =>
            clear hfar hrow hbr x2
            obtain ⟨j, D, hj, rfl, hfar, hrow, hbr, x2⟩ := hrel
            by_cases hjl : j < ls.length
            · rcases HF.out with h0 | ⟨b, off, rfl, hlo, hcell⟩
              · omega
              obtain ⟨q0, q1, q3⟩ := hcell j hjl
              have d0 := Carries.of lo hbr _ _ hlo q0
              have d1 := Carries.of lo hbr _ _ hlo q1
              have d3 := Carries.of lo hbr _ _ hlo q3
              clear hcell q0 q1 q3
              try dsimp only at d0 d1 d3
              have hfb := HIN.out j hjl
              have hhit := fun h1 h2 => FarJ.hit hfar.out HIN.out hjl h1 h2
              have hmiss := fun h => FarJ.miss (j := j) hfar.out h
              obtain ⟨fn, hfn⟩ := Int.eq_ofNat_of_zero_le hfb.1.1
              obtain ⟨tn, htn⟩ := Int.eq_ofNat_of_zero_le hfb.2.1
              rw [hfn] at d0 hfb
              rw [htn] at d3 hfb
              rw [hfn, htn, Int.toNat_natCast, Int.toNat_natCast] at hhit hmiss
              have HH := Lib.hid hhit
              have HMI := Lib.hid hmiss
              clear hhit hmiss hfn htn
              have f1 : (fn : Int) < (k : Int) := hfb.1.2
              have t1 : (tn : Int) < (k : Int) := hfb.2.2
              have f0 : (0 : Int) ≤ (fn : Int) := hfb.1.1
              have t0 : (0 : Int) ≤ (tn : Int) := hfb.2.1
              clear hfb
              generalize mvB ls j = xs at d1
              have zM := hrow.out.lt
              have cf : wr.cell? ⟨w.heap.size + 1, fn, none⟩ = some (.int .i64 (D fn)) := hrow.out.cell (by omega)
              have ct : wr.cell? ⟨w.heap.size + 1, tn, none⟩ = some (.int .i64 (D tn)) := hrow.out.cell (by omega)
              have ft := hrow.out.frozen tn
              obtain ⟨df, hdf⟩ : ∃ x, x = D fn := ⟨_, rfl⟩
              obtain ⟨dt, hdt⟩ : ∃ x, x = D tn := ⟨_, rfl⟩
              rw [← hdf] at cf HH HMI
              rw [← hdt] at ct HH HMI
              by_cases he : df = (p : Int)
              · by_cases h2 : dt < 0
                · have hf2 := Lib.hid (HH.out he h2)
                  have HR3 : Hid (∀ o, ((wr.setCell ⟨w.heap.size + 1, tn, none⟩ (.int .i64 ((p : Int) + 1))).alloc o).rowIs (w.heap.size + 1) 3 k (dV (updD D tn ((p : Int) + 1)))) := fun o => by
                    rw [← dV_upd]
                    exact (hrow.out.set tn _).alloc o
                  have x2' : (wr.setCell ⟨w.heap.size + 1, tn, none⟩ (.int .i64 ((p : Int) + 1))).cell? ⟨w.heap.size, 1, none⟩ = some (.slice (some ⟨b, off, none⟩) ls.length c1) := (World.cell?_setCell_other _ _ _ _ (fun h => by injection h; omega)).trans x2
                  have hb2 : Below w.heap.size w (wr.setCell ⟨w.heap.size + 1, tn, none⟩ (.int .i64 ((p : Int) + 1))) := hbr.setCell (p := ⟨w.heap.size + 1, tn, none⟩) (by show w.heap.size ≤ w.heap.size + 1; omega) _
                  have HX := Lib.hid (And.intro x2' hb2); clear x2' hb2
                  clear hrow hfar HH HMI hdf hdt
                  subst he
                  go_wp2_with fail
                  go_roundw
                  case rel => exact ⟨j + 1, _, by omega, by go_num, hf2, HR3.out _, HX.out.2.alloc (by simpa using hbr.size) _, cell_carry HX.out.1 (by (repeat' (first | (with_reducible exact Carries.refl _ _) | (with_reducible assumption) | (with_reducible refine Carries.alloc ?_ _) | (with_reducible refine Carries.drew ?_) | (with_reducible refine Carries.drewN ?_ _) | (with_reducible refine Carries.set ?_ ?_ _) | go_size)))⟩
                  case measure => simp [intOf]; omega
                · have hf2 := Lib.hid (HMI.out (fun h => h2 h.2))
                  have HR3 : Hid (∀ o, (wr.alloc o).rowIs (w.heap.size + 1) 3 k (dV D)) := fun o => hrow.out.alloc o
                  clear hrow hfar HH HMI hdf hdt
                  subst he
                  go_wp2_with fail
                  go_roundw
                  case rel => exact ⟨j + 1, D, by omega, by go_num, hf2, HR3.out _, by (repeat' (first | (with_reducible exact Below.refl _ _) | (with_reducible assumption) | (with_reducible refine Below.alloc ?_ ?_ _) | (with_reducible refine Below.drew ?_) | (with_reducible refine below_drewN ?_ _) | (with_reducible refine Below.setCell ?_ ?_ _) | go_size)), cell_carry x2 (by (repeat' (first | (with_reducible exact Carries.refl _ _) | (with_reducible assumption) | (with_reducible refine Carries.alloc ?_ _) | (with_reducible refine Carries.drew ?_) | (with_reducible refine Carries.drewN ?_ _) | (with_reducible refine Carries.set ?_ ?_ _) | go_size)))⟩
                  case measure => simp [intOf]; omega
              · have hf2 := Lib.hid (HMI.out (fun h => he h.1))
                have HR3 : Hid (∀ o, (wr.alloc o).rowIs (w.heap.size + 1) 3 k (dV D)) := fun o => hrow.out.alloc o
                clear hrow hfar HH HMI hdf hdt ct ft
                go_wp2_with fail
                go_roundw
                case rel => exact ⟨j + 1, D, by omega, by go_num, hf2, HR3.out _, by (repeat' (first | (with_reducible exact Below.refl _ _) | (with_reducible assumption) | (with_reducible refine Below.alloc ?_ ?_ _) | (with_reducible refine Below.drew ?_) | (with_reducible refine below_drewN ?_ _) | (with_reducible refine Below.setCell ?_ ?_ _) | go_size)), cell_carry x2 (by (repeat' (first | (with_reducible exact Carries.refl _ _) | (with_reducible assumption) | (with_reducible refine Carries.alloc ?_ _) | (with_reducible refine Carries.drew ?_) | (with_reducible refine Carries.drewN ?_ _) | (with_reducible refine Carries.set ?_ ?_ _) | go_size)))⟩
                case measure => simp [intOf]; omega
            · have hjj : j = ls.length := by omega
              subst hjj
              have hf2 := Lib.hid (hfar.out.next HIN.out hk)
              clear hfar
              go_wp2_with fail
              go_roundw
              case rel => exact ⟨p + 1, D, by omega, by go_num, hf2, hrow, hbr, x2⟩
              case measure => simp [intOf]; omega
        · have hpp : p = k := by omega
          subst hpp
          have hfin := Lib.hid (hfar.out.dist HIN.out hk)
          have zr := hrow.out.lt
          clear hfar
          go_wp2_with fail
          go_ret
          exact ⟨_, D, rfl, by omega, zr, hrow.out, hfin.out, hbr⟩

end Go.Proofs.YtnmoocgocnjdjaaGreat
