/- WALK: l4Far of the model.
   OWNED RESULTS of the laws, in one form for each kind of row: ints. -/
import Derived.Test.YtfipnlehaklepaaVFarp
import Derived.Test.YtfipnlehaklepaaVShc
import Derived.Test.YtfipnlehaklepaaVRgd
import Derived.Test.YtfipnlehaklepaaVTrp
import Derived.Test.YtfipnlehaklepaaVSgt
namespace Go.Proofs.Ytfipnlehaklepaa
open Go.RowKit

def fill1 (k : Nat) : Nat → Int := fun j => if j < k then -1 else 0
theorem fill1_up (k : Nat) : (fun j => if j = k then Value.int .i64 (-1) else dV (fill1 k) j) = dV (fill1 (k + 1)) := by
  funext j
  unfold dV fill1
  by_cases e : j = k
  · subst e; rw [if_pos rfl, if_pos (Nat.lt_succ_self j)]
  · rw [if_neg e]
    by_cases e2 : j < k
    · rw [if_pos e2, if_pos (by omega)]
    · rw [if_neg e2, if_neg (by omega)]

set_option maxRecDepth 100000 in
set_option maxHeartbeats 4000000 in
theorem l4Far_any (v : Value) (r : RgD) (s : Nat) (w : World) (lo : Nat) (hv : RgAt lo w v r) (hs : SmallRg r) (hk : s < r.marks.length) (hin : MvIn r.moves r.marks.length) :
    Calls Try.prog 90 #[v, .int .i64 (s : Int)] w (RetDist w r.marks.length (tgL r.moves) s) := by
  obtain ⟨a0, c0, a1, c1, rfl, h_0, hl⟩ := hv.form
  clear hv h_0
  have K1 := hs.1.1
  have K2 := hs.2
  clear hs
  obtain ⟨ss, ls⟩ := r
  simp only at hl hk hin K1 K2 ⊢
  obtain ⟨n, hnn⟩ : ∃ n, n = ss.length := ⟨_, rfl⟩
  rw [← hnn] at hk hin K1 ⊢
  clear hnn
  obtain ⟨ao, cap, hvv, hc, hz⟩ := hl
  injection hvv with e1 e2 e3
  subst e1; subst e3; clear e2
  have HF := Lib.hid hz; clear hz
  have HIN := Lib.hid hin; clear hin
  have hk1 : (s : Int) < (n : Int) := by omega
  have hk2 : (0 : Int) ≤ (s : Int) := Int.natCast_nonneg _
  have hmk := run_make_row' (P := Try.prog) 45 3 (.int .i64 0) 8 Try.underlying45 Try.infoInt rfl .i64 .i64 n (by omega) (by omega)
  have x1 : (w.alloc (.cells #[.slice a0 n c0, .slice a1 ls.length c1] 59)).cell? ⟨w.heap.size, 0, none⟩ = some (.slice a0 n c0) := by simp
  have x2 : (w.alloc (.cells #[.slice a0 n c0, .slice a1 ls.length c1] 59)).cell? ⟨w.heap.size, 1, none⟩ = some (.slice a1 ls.length c1) := by simp
  have hrow := (World.rowIs_made (w.alloc (.cells #[.slice a0 n c0, .slice a1 ls.length c1] 59)) (.int .i64 0) n 3).congr (g := dV (fill1 0)) (fun i _ => by unfold dV fill1; rw [if_neg (Nat.not_lt_zero _)])
  have hw0 : Below w.heap.size w ((w.alloc (.cells #[.slice a0 n c0, .slice a1 ls.length c1] 59)).alloc (.cells (madeCells #[.int .i64 0] n) 3)) := by (repeat' (first | (with_reducible exact Below.refl _ _) | (with_reducible assumption) | (with_reducible refine Below.alloc ?_ ?_ _) | (with_reducible refine Below.drew ?_) | (with_reducible refine below_drewN ?_ _) | (with_reducible refine Below.setCell ?_ ?_ _) | go_size))
  have y1 : ((w.alloc (.cells #[.slice a0 n c0, .slice a1 ls.length c1] 59)).alloc (.cells (madeCells #[.int .i64 0] n) 3)).cell? ⟨w.heap.size, 1, none⟩ = some (.slice a1 ls.length c1) := by simp
  rw [World.size_alloc] at hrow
  have HR := Lib.hid hrow; clear hrow
  go_enter Try.func90, Try.ntmps90
  go_wp2_with fail
  clear x1 x2
  generalize (w.alloc (.cells #[.slice a0 n c0, .slice a1 ls.length c1] 59)).alloc (.cells (madeCells #[.int .i64 0] n) 3) = W at HR hw0 y1 ⊢
  go_loopw [16] (fun kv wr => ∃ k : Nat, k ≤ n ∧ kv = .int .i64 k ∧ Hid (wr.rowIs (w.heap.size + 1) 3 n (dV (fill1 k))) ∧ Below w.heap.size w wr ∧ wr.cell? ⟨w.heap.size, 1, none⟩ = some (.slice a1 ls.length c1)) (fun kv _ => n - (intOf kv).toNat)
  case atStart => exact ⟨0, Nat.zero_le _, rfl, HR.out, hw0, y1⟩
  case round =>
    clear hw0 y1
    obtain ⟨k, hkn, rfl, hrow, hbr, x2⟩ := hrel
    have zM := hrow.out.lt
    by_cases hlt : k < n
    · have ck := hrow.out.cell hlt
      have fk := hrow.out.frozen k
      have HR2 : Hid ((wr.setCell ⟨w.heap.size + 1, k, none⟩ (.int .i64 (-1))).rowIs (w.heap.size + 1) 3 n (dV (fill1 (k + 1)))) := by
        unfold Hid
        rw [← fill1_up]
        exact hrow.out.set k _
      have x2' : (wr.setCell ⟨w.heap.size + 1, k, none⟩ (.int .i64 (-1))).cell? ⟨w.heap.size, 1, none⟩ = some (.slice a1 ls.length c1) := (World.cell?_setCell_other _ _ _ _ (fun h => by injection h; omega)).trans x2
      have hb2 : Below w.heap.size w (wr.setCell ⟨w.heap.size + 1, k, none⟩ (.int .i64 (-1))) := hbr.setCell (p := ⟨w.heap.size + 1, k, none⟩) (by show w.heap.size ≤ w.heap.size + 1; omega) _
      have HX := Lib.hid (And.intro x2' hb2); clear x2' hb2 hrow x2
      go_wp2_with fail
      go_roundw
      case rel => exact ⟨k + 1, by omega, by go_num, HR2, HX.out.2, HX.out.1⟩
      case measure => simp [intOf]; omega
    · have hkk : k = n := by omega
      subst hkk
      have ck := hrow.out.cell hk
      have fk := hrow.out.frozen s
      have HR2 : Hid ((wr.setCell ⟨w.heap.size + 1, s, none⟩ (.int .i64 0)).rowIs (w.heap.size + 1) 3 k (dV (updD (fun _ => -1) s 0))) := by
        unfold Hid
        rw [← dV_upd]
        refine (hrow.out.set s _).congr (fun i hi => ?_)
        unfold dV fill1
        rw [if_pos hi]
      have x2' : (wr.setCell ⟨w.heap.size + 1, s, none⟩ (.int .i64 0)).cell? ⟨w.heap.size, 1, none⟩ = some (.slice a1 ls.length c1) := (World.cell?_setCell_other _ _ _ _ (fun h => by injection h; omega)).trans x2
      have hb2 : Below w.heap.size w (wr.setCell ⟨w.heap.size + 1, s, none⟩ (.int .i64 0)) := hbr.setCell (p := ⟨w.heap.size + 1, s, none⟩) (by show w.heap.size ≤ w.heap.size + 1; omega) _
      have HX := Lib.hid (And.intro x2' hb2); clear x2' hb2 hrow x2
      go_wp2_with fail
      generalize wr.setCell ⟨w.heap.size + 1, s, none⟩ (.int .i64 0) = W2 at HR2 HX ⊢
      go_loopw [7] (fun pv wr => ∃ (p : Nat) (D : Nat → Int), p ≤ k ∧ pv = .int .i64 p ∧ Hid (FarJ ls k s p 0 D) ∧ Hid (wr.rowIs (w.heap.size + 1) 3 k (dV D)) ∧ Below w.heap.size w wr ∧ wr.cell? ⟨w.heap.size, 1, none⟩ = some (.slice a1 ls.length c1)) (fun pv _ => k - (intOf pv).toNat)
      case atStart => exact ⟨0, _, Nat.zero_le _, rfl, FarJ.start ls k s, HR2.out, HX.out.2, HX.out.1⟩
      case round =>
        clear hbr ck fk
        obtain ⟨p, D, hp, rfl, hfar, hrow, hbr, x2⟩ := hrel
        by_cases hpl : p < k
        · go_wp2_with fail
          go_loopw [35] (fun jv wr => ∃ (j : Nat) (D : Nat → Int), j ≤ ls.length ∧ jv = .int .i64 j ∧ Hid (FarJ ls k s p j D) ∧ Hid (wr.rowIs (w.heap.size + 1) 3 k (dV D)) ∧ Below w.heap.size w wr ∧ wr.cell? ⟨w.heap.size, 1, none⟩ = some (.slice a1 ls.length c1)) (fun jv _ => ls.length - (intOf jv).toNat)
          case atStart => exact ⟨0, D, Nat.zero_le _, rfl, hfar, hrow, hbr, x2⟩
          case round =>
            clear hfar hrow hbr x2
            obtain ⟨j, D, hj, rfl, hfar, hrow, hbr, x2⟩ := hrel
            by_cases hjl : j < ls.length
            · rcases HF.out with h0 | ⟨b, off, rfl, hlo, hcell⟩
              · omega
              obtain ⟨q0, q1, q3⟩ := hcell j hjl
              have d0 := Carries.of lo hbr _ _ hlo q0
              have d1 := Carries.of lo hbr _ _ hlo q1
              have d3 := Carries.of lo hbr _ _ hlo q3
              clear hcell q0 q1 q3
              try dsimp only at d0 d1 d3
              have hfb := HIN.out j hjl
              have hhit := fun h1 h2 => FarJ.hit hfar.out HIN.out hjl h1 h2
              have hmiss := fun h => FarJ.miss (j := j) hfar.out h
              obtain ⟨fn, hfn⟩ := Int.eq_ofNat_of_zero_le hfb.1.1
              obtain ⟨tn, htn⟩ := Int.eq_ofNat_of_zero_le hfb.2.1
              rw [hfn] at d0 hfb
              rw [htn] at d3 hfb
              rw [hfn, htn, Int.toNat_natCast, Int.toNat_natCast] at hhit hmiss
              have HH := Lib.hid hhit
              have HMI := Lib.hid hmiss
              clear hhit hmiss hfn htn
              have f1 : (fn : Int) < (k : Int) := hfb.1.2
              have t1 : (tn : Int) < (k : Int) := hfb.2.2
              have f0 : (0 : Int) ≤ (fn : Int) := hfb.1.1
              have t0 : (0 : Int) ≤ (tn : Int) := hfb.2.1
              clear hfb
              generalize mvB ls j = xs at d1
              have zM := hrow.out.lt
              have cf : wr.cell? ⟨w.heap.size + 1, fn, none⟩ = some (.int .i64 (D fn)) := hrow.out.cell (by omega)
              have ct : wr.cell? ⟨w.heap.size + 1, tn, none⟩ = some (.int .i64 (D tn)) := hrow.out.cell (by omega)
              have ft := hrow.out.frozen tn
              obtain ⟨df, hdf⟩ : ∃ x, x = D fn := ⟨_, rfl⟩
              obtain ⟨dt, hdt⟩ : ∃ x, x = D tn := ⟨_, rfl⟩
              rw [← hdf] at cf HH HMI
              rw [← hdt] at ct HH HMI
              by_cases he : df = (p : Int)
              · by_cases h2 : dt < 0
                · have hf2 := Lib.hid (HH.out he h2)
                  have HR3 : Hid (∀ o, ((wr.setCell ⟨w.heap.size + 1, tn, none⟩ (.int .i64 ((p : Int) + 1))).alloc o).rowIs (w.heap.size + 1) 3 k (dV (updD D tn ((p : Int) + 1)))) := fun o => by
                    rw [← dV_upd]
                    exact (hrow.out.set tn _).alloc o
                  have x2' : (wr.setCell ⟨w.heap.size + 1, tn, none⟩ (.int .i64 ((p : Int) + 1))).cell? ⟨w.heap.size, 1, none⟩ = some (.slice (some ⟨b, off, none⟩) ls.length c1) := (World.cell?_setCell_other _ _ _ _ (fun h => by injection h; omega)).trans x2
                  have hb2 : Below w.heap.size w (wr.setCell ⟨w.heap.size + 1, tn, none⟩ (.int .i64 ((p : Int) + 1))) := hbr.setCell (p := ⟨w.heap.size + 1, tn, none⟩) (by show w.heap.size ≤ w.heap.size + 1; omega) _
                  have HX := Lib.hid (And.intro x2' hb2); clear x2' hb2
                  clear hrow hfar HH HMI hdf hdt
                  subst he
                  go_wp2_with fail
                  go_roundw
                  case rel => exact ⟨j + 1, _, by omega, by go_num, hf2, HR3.out _, HX.out.2.alloc (by simpa using hbr.size) _, cell_carry HX.out.1 (by (repeat' (first | (with_reducible exact Carries.refl _ _) | (with_reducible assumption) | (with_reducible refine Carries.alloc ?_ _) | (with_reducible refine Carries.drew ?_) | (with_reducible refine Carries.drewN ?_ _) | (with_reducible refine Carries.set ?_ ?_ _) | go_size)))⟩
                  case measure => simp [intOf]; omega
                · have hf2 := Lib.hid (HMI.out (fun h => h2 h.2))
                  have HR3 : Hid (∀ o, (wr.alloc o).rowIs (w.heap.size + 1) 3 k (dV D)) := fun o => hrow.out.alloc o
                  clear hrow hfar HH HMI hdf hdt
                  subst he
                  go_wp2_with fail
                  go_roundw
                  case rel => exact ⟨j + 1, D, by omega, by go_num, hf2, HR3.out _, by (repeat' (first | (with_reducible exact Below.refl _ _) | (with_reducible assumption) | (with_reducible refine Below.alloc ?_ ?_ _) | (with_reducible refine Below.drew ?_) | (with_reducible refine below_drewN ?_ _) | (with_reducible refine Below.setCell ?_ ?_ _) | go_size)), cell_carry x2 (by (repeat' (first | (with_reducible exact Carries.refl _ _) | (with_reducible assumption) | (with_reducible refine Carries.alloc ?_ _) | (with_reducible refine Carries.drew ?_) | (with_reducible refine Carries.drewN ?_ _) | (with_reducible refine Carries.set ?_ ?_ _) | go_size)))⟩
                  case measure => simp [intOf]; omega
              · have hf2 := Lib.hid (HMI.out (fun h => he h.1))
                have HR3 : Hid (∀ o, (wr.alloc o).rowIs (w.heap.size + 1) 3 k (dV D)) := fun o => hrow.out.alloc o
                clear hrow hfar HH HMI hdf hdt ct ft
                go_wp2_with fail
                go_roundw
                case rel => exact ⟨j + 1, D, by omega, by go_num, hf2, HR3.out _, by (repeat' (first | (with_reducible exact Below.refl _ _) | (with_reducible assumption) | (with_reducible refine Below.alloc ?_ ?_ _) | (with_reducible refine Below.drew ?_) | (with_reducible refine below_drewN ?_ _) | (with_reducible refine Below.setCell ?_ ?_ _) | go_size)), cell_carry x2 (by (repeat' (first | (with_reducible exact Carries.refl _ _) | (with_reducible assumption) | (with_reducible refine Carries.alloc ?_ _) | (with_reducible refine Carries.drew ?_) | (with_reducible refine Carries.drewN ?_ _) | (with_reducible refine Carries.set ?_ ?_ _) | go_size)))⟩
                case measure => simp [intOf]; omega
            · have hjj : j = ls.length := by omega
              subst hjj
              have hf2 := Lib.hid (hfar.out.next HIN.out hk)
              clear hfar
              go_wp2_with fail
              go_roundw
              case rel => exact ⟨p + 1, D, by omega, by go_num, hf2, hrow, hbr, x2⟩
              case measure => simp [intOf]; omega
        · have hpp : p = k := by omega
          subst hpp
          have hfin := Lib.hid (hfar.out.dist HIN.out hk)
          have zr := hrow.out.lt
          clear hfar
          go_wp2_with fail
          go_ret
          exact ⟨_, D, rfl, by omega, zr, hrow.out, hfin.out, hbr⟩

end Go.Proofs.Ytfipnlehaklepaa

namespace Go.Proofs.Ytfipnlehaklepaa
open Go.RowKit

theorem selfInts' (L : List Int) : decide (L = L) = true := decide_eq_true rfl
theorem IntsOw.cap {lo : Nat} {w : World} {v : Value} {zs : List Int} (h : IntsOw lo w v zs) : ∃ a c, v = .slice a zs.length c ∧ zs.length ≤ c := by
  obtain ⟨a, c, rfl, hc, _⟩ := h
  exact ⟨a, c, rfl, hc⟩
theorem IntsOw.after {lo : Nat} {w w' : World} {v : Value} {zs : List Int} (h : IntsOw lo w v zs) (hb : Below w.heap.size w w') : IntsOw lo w' v zs := h.keep (Same.of _ hb)
theorem IntsOw.stir {B l k : Nat} {w w' : World} {v : Value} {zs : List Int} (h : IntsOw B w v zs) (hs : Stir l k w w') (hk : k ≤ B) : IntsOw B w' v zs :=
  h.keep ⟨hs.size, fun b h1 h2 => hs.block b h2 (Or.inr (by omega))⟩
theorem IntsAt.stir {lo hi l k : Nat} {w w' : World} {v : Value} {zs : List Int} (h : IntsAt lo w v zs) (hB : Bound hi v) (hm : Stir l k w w') (hl : hi ≤ l) : IntsAt lo w' v zs := by
  obtain ⟨ao, cap, rfl, hc, hz⟩ := h
  refine ⟨ao, cap, rfl, hc, ?_⟩
  rcases hz with hz | ⟨b, off, rfl, hlo, hcell⟩
  · exact Or.inl hz
  · exact Or.inr ⟨b, off, rfl, hlo, fun i hi => hm.cell (Or.inl (by have := hB b off _ _ rfl (by omega); simp; omega)) (hcell i hi)⟩
theorem markInts_row (v : Value) (zs : List Int) (k : Int) (w : World) (B : Nat) (h : IntsOw B w v zs) (hn : zs.length ≤ 1048576) (h0 : 0 ≤ k) (h1 : k ≤ 109951162777600) :
    Calls Try.prog 28 #[v, .int .i64 k] w (fun e w' => e = .returned (.int .i64 (k + (zs.length : Int))) ∧ Stir B w.heap.size w w' ∧ IntsAt B w' v (upFrom k zs.length)) := by
  refine (markIntS_any v zs.length k w B w.heap.size h.box hn h0 (by omega)).mono fun e w' ⟨he, hm, hx⟩ => ⟨he, hm.stir, ?_⟩
  obtain ⟨ao, cap, rfl, hc, hz⟩ := h
  refine ⟨ao, cap, by rw [upFrom_length], by rw [upFrom_length]; exact hc, ?_⟩
  rw [upFrom_length]
  rcases hz with rfl | ⟨b, off, rfl, hlo, hcell⟩
  · left; rfl
  · refine Or.inr ⟨b, off, rfl, hlo, fun i hi => ?_⟩
    rw [upFrom_get hi]
    exact hx b off cap rfl i hi

end Go.Proofs.Ytfipnlehaklepaa
