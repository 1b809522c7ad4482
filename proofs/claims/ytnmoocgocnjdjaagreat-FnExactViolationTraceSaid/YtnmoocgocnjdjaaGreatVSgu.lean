/- WALKS: l5All, l5Good, IsValidStateGraph of the model. -/
import Derived.Test.YtnmoocgocnjdjaaGreatVSgt
import Derived.Test.YtnmoocgocnjdjaaGreatVL1in
namespace Go.Proofs.YtnmoocgocnjdjaaGreat
open Go.RowKit

theorem Tryz.infoBool : (Tryz.prog.info? 4).map (fun i => (i.zero, i.size, i.bytes)) = some (some (.bool false), 1, 1) := by kernel_rfl
def bV (m : Nat → Bool) : Nat → Value := fun k => .bool (m k)
theorem bV_up (m : Nat → Bool) (t : Nat) : (fun j => if j = t then Value.bool true else bV m j) = bV (upB m t) := by
  funext j
  unfold bV upB
  by_cases e : j = t
  · rw [if_pos e, if_pos e]
  · rw [if_neg e, if_neg e]

theorem rowIs_made0 (w : World) (z v : Value) (n : Nat) (t : TypeId) : (w.alloc (.cells ((madeCells #[z] n).setIfInBounds 0 v) t)).rowIs w.heap.size t n (fun j => if j = 0 then v else z) := by
  obtain ⟨cur, hb, hsz, hf⟩ := World.rowIs_made w z n t
  have e : cur = madeCells #[z] n := by
    have h := (heap_alloc_new w (.cells (madeCells #[z] n) t)).symm.trans hb
    simp only [Option.some.injEq, Obj.cells.injEq] at h
    exact h.1.symm
  rw [e] at hsz hf
  refine ⟨_, heap_alloc_new w _, by simp [hsz], fun i hi => ?_⟩
  rw [Array.getElem?_setIfInBounds]
  dsimp only
  by_cases h : i = 0
  · subst h
    rw [if_pos rfl, if_pos (by omega), if_pos rfl]
  · rw [if_neg (fun e => h e.symm), if_neg h]
    exact hf i hi

set_option maxRecDepth 100000 in
set_option maxHeartbeats 4000000 in
theorem l5All_any (v : Value) (r : SgD) (w : World) (lo : Nat) (hv : SgAt lo w v r) (hs : SmallSg r) (hn : 1 ≤ r.codes.length) (hin : ∀ i, i < r.arcs.length → (0 ≤ arF r.arcs i ∧ arF r.arcs i < r.codes.length) ∧ (0 ≤ arT r.arcs i ∧ arT r.arcs i < r.codes.length)) :
    Calls Tryz.prog 137 #[v] w (RetB w (allMet r.codes.length r.arcs)) := by
  obtain ⟨q, hq⟩ : ∃ q, q = allMet r.codes.length r.arcs := ⟨_, rfl⟩
  rw [← hq]
  obtain ⟨a0, c0, a1, c1, a2, c2, rfl, h_0, h_1, hl⟩ := hv.form
  clear hv h_0 h_1
  have K1 := hs.2.1.1
  have K2 := hs.2.2
  clear hs
  obtain ⟨gs, ss, ls⟩ := r
  simp only at hl hq hn hin K1 K2 ⊢
  obtain ⟨n, hnn⟩ : ∃ n, n = ss.length := ⟨_, rfl⟩
  rw [← hnn] at hq hn hin K1 ⊢
  clear hnn
  obtain ⟨ao, cap, hvv, hc, hz⟩ := hl
  injection hvv with e1 e2 e3
  subst e1; subst e3; clear e2
  have HF := Lib.hid hz; clear hz
  have HQ := Lib.hid hq; clear hq
  have HIN := Lib.hid hin; clear hin
  have hmk := run_make_row' (P := Tryz.prog) 215 4 (.bool false) 1 Tryz.underlying215 Tryz.infoBool rfl .i64 .i64 n (by omega) (by omega)
  have hrow := World.rowIs_made (w.alloc (.cells #[.slice a0 gs.length c0, .slice a1 n c1, .slice a2 ls.length c2] 80)) (.bool false) n 4
  have hcl := hrow.cell (i := 0) (by omega)
  have hfr := hrow.frozen 0
  simp only [World.size_alloc] at hcl hfr
  clear hrow
  have x1 : (w.alloc (.cells #[.slice a0 gs.length c0, .slice a1 n c1, .slice a2 ls.length c2] 80)).cell? ⟨w.heap.size, 1, none⟩ = some (.slice a1 n c1) := by simp
  have x2 : (w.alloc (.cells #[.slice a0 gs.length c0, .slice a1 n c1, .slice a2 ls.length c2] 80)).cell? ⟨w.heap.size, 2, none⟩ = some (.slice a2 ls.length c2) := by simp
  go_enter Tryz.func137, Tryz.ntmps137
  go_wp2_with fail
  have hrow := rowIs_made0 (w.alloc (.cells #[.slice a0 gs.length c0, .slice a1 n c1, .slice a2 ls.length c2] 80)) (.bool false) (.bool true) n 4
  rw [World.size_alloc] at hrow
  have hrow2 := hrow.congr (g := bV (metN ls 0)) (fun i _ => by
    unfold bV metN
    by_cases e : i = 0
    · rw [if_pos e, decide_eq_true e]
    · rw [if_neg e, decide_eq_false e])
  have HR := Lib.hid hrow2
  have hw0 : Below w.heap.size w ((w.alloc (.cells #[.slice a0 gs.length c0, .slice a1 n c1, .slice a2 ls.length c2] 80)).alloc (.cells ((madeCells #[.bool false] n).setIfInBounds 0 (.bool true)) 4)) := by (repeat' (first | (with_reducible exact Below.refl _ _) | (with_reducible assumption) | (with_reducible refine Below.alloc ?_ ?_ _) | (with_reducible refine Below.drew ?_) | (with_reducible refine below_drewN ?_ _) | (with_reducible refine Below.setCell ?_ ?_ _) | go_size))
  have y1 : ((w.alloc (.cells #[.slice a0 gs.length c0, .slice a1 n c1, .slice a2 ls.length c2] 80)).alloc (.cells ((madeCells #[.bool false] n).setIfInBounds 0 (.bool true)) 4)).cell? ⟨w.heap.size, 2, none⟩ = some (.slice a2 ls.length c2) := by simp
  clear hrow hrow2 hcl hfr x1 x2
  generalize (w.alloc (.cells #[.slice a0 gs.length c0, .slice a1 n c1, .slice a2 ls.length c2] 80)).alloc (.cells ((madeCells #[.bool false] n).setIfInBounds 0 (.bool true)) 4) = W at HR hw0 y1 ⊢
  go_loopw [17] (fun pv wr => ∃ p : Nat, p ≤ n ∧ pv = .int .i64 p ∧ Hid (wr.rowIs (w.heap.size + 1) 4 n (bV (metN ls p))) ∧ Below w.heap.size w wr ∧ wr.cell? ⟨w.heap.size, 2, none⟩ = some (.slice a2 ls.length c2)) (fun pv _ => n - (intOf pv).toNat)
  case atStart => exact ⟨0, Nat.zero_le _, rfl, HR.out, hw0, y1⟩
  case round =>
    obtain ⟨p, hp, rfl, hrow, hbr, x2⟩ := hrel
    by_cases hlt : p < n
    · obtain ⟨wo, rfl⟩ : ∃ wo, wo = wr := ⟨_, rfl⟩
      go_wp2_with fail
      go_loopw [22] (fun jv wr => ∃ j : Nat, j ≤ ls.length ∧ jv = .int .i64 j ∧ Hid (wr.rowIs (w.heap.size + 1) 4 n (bV (metTo ls (metN ls p) j))) ∧ Below w.heap.size w wr ∧ wr.cell? ⟨w.heap.size, 2, none⟩ = some (.slice a2 ls.length c2)) (fun jv _ => ls.length - (intOf jv).toNat)
      case atStart => exact ⟨0, Nat.zero_le _, rfl, hrow, hbr, x2⟩
      case round =>
        clear hrow hbr x2
        obtain ⟨j, hj, rfl, hrow, hbr, x2⟩ := hrel
        by_cases hjl : j < ls.length
        · rcases HF.out with h0 | ⟨b, off, rfl, hlo, hcell⟩
          · omega
          obtain ⟨q0, q1, q2, q3⟩ := hcell j hjl
          have d0 := Carries.of lo hbr _ _ hlo q0
          have d1 := Carries.of lo hbr _ _ hlo q1
          have d2 := Carries.of lo hbr _ _ hlo q2
          have d3 := Carries.of lo hbr _ _ hlo q3
          clear hcell q0 q1 q2 q3
          try dsimp only at d0 d1 d2 d3
          have hfb := HIN.out j hjl
          have hnext : metTo ls (metN ls p) (j + 1) = metArc (metTo ls (metN ls p) j) (arF ls j) (arT ls j) := rfl
          obtain ⟨fn, hfn⟩ := Int.eq_ofNat_of_zero_le hfb.1.1
          obtain ⟨tn, htn⟩ := Int.eq_ofNat_of_zero_le hfb.2.1
          rw [hfn] at d0 hnext hfb
          rw [htn] at d3 hnext hfb
          unfold metArc at hnext
          rw [Int.toNat_natCast, Int.toNat_natCast] at hnext
          have HN := Lib.hid hnext; clear hnext hfn htn
          have f1 : (fn : Int) < (n : Int) := hfb.1.2
          have t1 : (tn : Int) < (n : Int) := hfb.2.2
          have f0 : (0 : Int) ≤ (fn : Int) := hfb.1.1
          have t0 : (0 : Int) ≤ (tn : Int) := hfb.2.1
          clear hfb
          generalize arS ls j = xs at d1
          generalize arU ls j = xu at d2
          have zM := hrow.out.lt
          obtain ⟨m, hm⟩ : ∃ m, m = metTo ls (metN ls p) j := ⟨_, rfl⟩
          rw [← hm] at hrow HN
          have HM := Lib.hid hm; clear hm
          have cf : wr.cell? ⟨w.heap.size + 1, fn, none⟩ = some (.bool (m fn)) := hrow.out.cell (by omega)
          cases hmf : m fn with
          | false =>
            rw [hmf] at cf
            have e : metTo ls (metN ls p) (j + 1) = m := by rw [HN.out, hmf]; rfl
            have HE := Lib.hid e; clear e hmf
            have HR2 : Hid (∀ o, (wr.alloc o).rowIs (w.heap.size + 1) 4 n (bV (metTo ls (metN ls p) (j + 1)))) := fun o => by rw [HE.out]; exact hrow.out.alloc o
            clear hrow HN
            go_wp2_with fail
            go_roundw
            case rel => exact ⟨j + 1, by omega, by go_num, HR2.out _, by (repeat' (first | (with_reducible exact Below.refl _ _) | (with_reducible assumption) | (with_reducible refine Below.alloc ?_ ?_ _) | (with_reducible refine Below.drew ?_) | (with_reducible refine below_drewN ?_ _) | (with_reducible refine Below.setCell ?_ ?_ _) | go_size)), cell_carry x2 (by (repeat' (first | (with_reducible exact Carries.refl _ _) | (with_reducible assumption) | (with_reducible refine Carries.alloc ?_ _) | (with_reducible refine Carries.drew ?_) | (with_reducible refine Carries.drewN ?_ _) | (with_reducible refine Carries.set ?_ ?_ _) | go_size)))⟩
            case measure => simp [intOf]; omega
          | true =>
            rw [hmf] at cf
            have e : metTo ls (metN ls p) (j + 1) = upB m tn := by rw [HN.out, hmf]; rfl
            have HE := Lib.hid e; clear e hmf
            have ct := hrow.out.cell (i := tn) (by omega)
            have ft := hrow.out.frozen tn
            have HR2 : Hid (∀ o, ((wr.setCell ⟨w.heap.size + 1, tn, none⟩ (.bool true)).alloc o).rowIs (w.heap.size + 1) 4 n (bV (metTo ls (metN ls p) (j + 1)))) := fun o => by
              rw [HE.out, ← bV_up]
              exact (hrow.out.set tn (.bool true)).alloc o
            have x2' : (wr.setCell ⟨w.heap.size + 1, tn, none⟩ (.bool true)).cell? ⟨w.heap.size, 2, none⟩ = some (.slice (some ⟨b, off, none⟩) ls.length c2) := (World.cell?_setCell_other _ _ _ _ (fun h => by injection h; omega)).trans x2
            have hb2 : Below w.heap.size w (wr.setCell ⟨w.heap.size + 1, tn, none⟩ (.bool true)) := hbr.setCell (p := ⟨w.heap.size + 1, tn, none⟩) (by show w.heap.size ≤ w.heap.size + 1; omega) _
            have HX := Lib.hid (And.intro x2' hb2); clear x2' hb2
            clear hrow HN
            go_wp2_with fail
            go_roundw
            case rel => exact ⟨j + 1, by omega, by go_num, HR2.out _, HX.out.2.alloc (by simpa using hbr.size) _, cell_carry HX.out.1 (by (repeat' (first | (with_reducible exact Carries.refl _ _) | (with_reducible assumption) | (with_reducible refine Carries.alloc ?_ _) | (with_reducible refine Carries.drew ?_) | (with_reducible refine Carries.drewN ?_ _) | (with_reducible refine Carries.set ?_ ?_ _) | go_size)))⟩
            case measure => simp [intOf]; omega
        · have hjj : j = ls.length := by omega
          subst hjj
          have HR2 : Hid (wr.rowIs (w.heap.size + 1) 4 n (bV (metN ls (p + 1)))) := hrow
          clear hrow
          go_wp2_with fail
          go_roundw
          case rel => exact ⟨p + 1, by omega, by go_num, HR2, hbr, x2⟩
          case measure => simp [intOf]; omega
    · have hpp : p = n := by omega
      subst hpp
      obtain ⟨wo, rfl⟩ : ∃ wo, wo = wr := ⟨_, rfl⟩
      go_wp2_with fail
      go_loop [39] (fun kv => ∃ k : Nat, k ≤ p ∧ kv = .int .i64 k ∧ Hid (∀ q, q < k → metN ls p q = true)) (fun kv => p - (intOf kv).toNat)
      case atStart => exact ⟨0, Nat.zero_le _, rfl, fun q hq => absurd hq (Nat.not_lt_zero _)⟩
      case round =>
        obtain ⟨k, hk, rfl, hall⟩ := hrel
        by_cases hkl : k < p
        · have ck : wo.cell? ⟨w.heap.size + 1, k, none⟩ = some (.bool (metN ls p k)) := hrow.out.cell hkl
          cases hmk2 : metN ls p k with
          | false =>
            rw [hmk2] at ck
            have e := HQ.out
            have e2 : allMet p ls = false := by
              unfold allMet
              rw [List.all_eq_false]
              exact ⟨k, by simpa using hkl, by rw [hmk2]; simp⟩
            rw [e2] at e
            subst e
            clear e2 hmk2
            go_wp2_with fail
            go_ret
            exact ⟨rfl, hbr⟩
          | true =>
            rw [hmk2] at ck
            have H2 : Hid (∀ q, q < k + 1 → metN ls p q = true) := by
              intro q hq
              by_cases e : q = k
              · subst e; exact hmk2
              · exact hall.out q (by omega)
            clear hmk2
            go_wp2_with fail
            go_round
            case rel => exact ⟨k + 1, by omega, by go_num, H2⟩
            case measure => simp [intOf]; omega
        · have hkk : k = p := by omega
          subst hkk
          have e := HQ.out
          have e2 : allMet k ls = true := by
            unfold allMet
            rw [List.all_eq_true]
            intro q hq
            exact hall.out q (by simpa using hq)
          rw [e2] at e
          subst e
          clear e2
          go_wp2_with fail
          go_ret
          exact ⟨rfl, hbr⟩

set_option maxRecDepth 100000 in
set_option maxHeartbeats 4000000 in
theorem l5Good_any (v : Value) (r : SgD) (w : World) (lo : Nat) (hv : SgAt lo w v r) (hs : SmallSg r) :
    Calls Tryz.prog 84 #[v] w (RetB w (goodG r)) := by
  obtain ⟨q, hq⟩ : ∃ q, q = goodG r := ⟨_, rfl⟩
  rw [← hq]
  have HV := Lib.hid hv
  obtain ⟨a0, c0, a1, c1, a2, c2, rfl, h_0, h_1, h_2⟩ := hv.form
  clear hv
  have HD := Lib.hid h_0
  have HC := Lib.hid h_1
  have HL := Lib.hid h_2
  clear h_0 h_1 h_2
  obtain ⟨nc, hnc⟩ : ∃ n, n = r.codes.length := ⟨_, rfl⟩
  obtain ⟨ng, hng⟩ : ∃ n, n = r.sigs.length := ⟨_, rfl⟩
  obtain ⟨na, hna⟩ : ∃ n, n = r.arcs.length := ⟨_, rfl⟩
  have KC := hs.2.1.1
  have KG := hs.1.1
  have KA := hs.2.2
  have HZ := Lib.hid hs.2.1.2
  have hG1 : sigsB r.sigs = false → q = false := fun h => by rw [hq]; exact goodG_sigs h
  have hG2 : ¬ ((1 ≤ nc ∧ nc ≤ 300) ∧ na ≤ 4000) → q = false := fun h => by rw [hq]; rw [hnc, hna] at h; exact goodG_len h
  have hG3 : codesB ng r.codes = false → q = false := fun h => by rw [hq]; rw [hng] at h; exact goodG_codes h
  have hG4 : arcsB ng r.codes r.arcs = false → q = false := fun h => by rw [hq]; rw [hng] at h; exact goodG_arcs h
  have hG5 : sigsB r.sigs = true → ((1 ≤ nc ∧ nc ≤ 300) ∧ na ≤ 4000) → codesB ng r.codes = true → arcsB ng r.codes r.arcs = true → q = allMet nc r.arcs := fun h1 h2 h3 h4 => by
    rw [hq]; rw [hng] at h3 h4; rw [hnc, hna] at h2; rw [hnc]; exact goodG_all h1 h2 h3 h4
  rw [← hng, ← hnc, ← hna] at HV ⊢
  rw [← hnc] at KC HZ HC
  rw [← hna] at KA HL
  rw [← hng] at KG HD
  have G1 := Lib.hid hG1
  have G2 := Lib.hid hG2
  have G3 := Lib.hid hG3
  have G4 := Lib.hid hG4
  have G5 := Lib.hid hG5
  have HNC := Lib.hid hnc; have HNG := Lib.hid hng; have HNA := Lib.hid hna
  clear hG1 hG2 hG3 hG4 hG5 hq hnc hng hna
  have HS := Lib.hid hs; clear hs
  have x0 : (w.alloc (.cells #[.slice a0 ng c0, .slice a1 nc c1, .slice a2 na c2] 80)).cell? ⟨w.heap.size, 0, none⟩ = some (.slice a0 ng c0) := by simp
  have x1 : (w.alloc (.cells #[.slice a0 ng c0, .slice a1 nc c1, .slice a2 na c2] 80)).cell? ⟨w.heap.size, 1, none⟩ = some (.slice a1 nc c1) := by simp
  have x2 : (w.alloc (.cells #[.slice a0 ng c0, .slice a1 nc c1, .slice a2 na c2] 80)).cell? ⟨w.heap.size, 2, none⟩ = some (.slice a2 na c2) := by simp
  have hal : Below w.heap.size w (w.alloc (.cells #[.slice a0 ng c0, .slice a1 nc c1, .slice a2 na c2] 80)) := (Below.refl _ _).alloc (Nat.le_refl _) _
  go_enter Tryz.func84, Tryz.ntmps84
  go_wp2_with fail
  generalize w.alloc (.cells #[.slice a0 ng c0, .slice a1 nc c1, .slice a2 na c2] 80) = W at x0 x1 x2 hal ⊢
  refine (l2Signals_any _ r.sigs _ lo (HD.out.keep (Carries.of lo hal)) HS.out.1).mono ?_
  rintro e w1 ⟨rfl, hb⟩
  have hw1 : Below w.heap.size w w1 := hal.trans (hb.mono hal.size)
  have x0 := cell_carry x0 (Carries.of 0 hb)
  have x1 := cell_carry x1 (Carries.of 0 hb)
  have x2 := cell_carry x2 (Carries.of 0 hb)
  clear hb hal
  cases h1 : sigsB r.sigs with
  | false =>
    have e := G1.out h1
    subst e
    clear h1
    go_wp2_with fail
    go_ret
    exact ⟨rfl, hw1⟩
  | true =>
  have H1 := Lib.hid h1; clear h1
  go_wp2_with fail
  refine (l1In_any _ _ _ _).mono ?_
  rintro e w2 ⟨rfl, hb⟩
  have hw2 : Below w.heap.size w w2 := hw1.trans (hb.mono hw1.size)
  have x0 := cell_carry x0 (Carries.of 0 hb)
  have x1 := cell_carry x1 (Carries.of 0 hb)
  have x2 := cell_carry x2 (Carries.of 0 hb)
  clear hb hw1
  by_cases h2 : 1 ≤ nc ∧ nc ≤ 300
  case neg =>
    have hd : decide ((1 : Int) ≤ (nc : Int) ∧ (nc : Int) ≤ 300) = false := decide_eq_false (by omega)
    rw [hd]; clear hd
    have e := G2.out (fun h => h2 h.1)
    subst e
    clear h2
    go_wp2_with fail
    go_ret
    exact ⟨rfl, hw2⟩
  have hd : decide ((1 : Int) ≤ (nc : Int) ∧ (nc : Int) ≤ 300) = true := decide_eq_true (by omega)
  rw [hd]; clear hd
  by_cases h3 : na ≤ 4000
  case neg =>
    have e := G2.out (fun h => h3 h.2)
    subst e
    go_wp2_with fail
    go_ret
    exact ⟨rfl, hw2⟩
  have HLEN := Lib.hid (And.intro h2 h3)
  obtain ⟨h2a, h2b⟩ := h2
  go_wp2_with fail
  go_loopw [27] (fun i wr => ∃ k : Nat, k ≤ nc ∧ i = .int .i64 k ∧ Hid (∀ j, j < k → codeB ng (stN r.codes j) = true) ∧ Below w2.heap.size w2 wr) (fun i _ => nc - (intOf i).toNat)
  case atStart => exact ⟨0, Nat.zero_le _, rfl, fun j hj => absurd hj (Nat.not_lt_zero _), Below.refl _ _⟩
  case round =>
    obtain ⟨k, hk, rfl, hall, hb1⟩ := hrel
    have zz1 := hb1.size
    have x0 := cell_keep x0 hb1 (Nat.le_refl _)
    have x1 := cell_keep x1 hb1 (Nat.le_refl _)
    have x2 := cell_keep x2 hb1 (Nat.le_refl _)
    have hwr := hw2.trans (hb1.mono hw2.size)
    by_cases hlt : k < nc
    · have hc0 := HC.out
      obtain ⟨ao, cap, hvv, hc, hz⟩ := hc0
      injection hvv with e1 e2 e3
      subst e1; subst e3
      rcases hz with h0 | ⟨b, off, rfl, hlo, hcell⟩
      · omega
      have d0 := Carries.of lo hwr _ _ hlo (hcell k (by omega))
      have hzk := HZ.out k (by omega)
      clear hcell e2 hc
      go_wp2_with fail
      refine (l5Code_any (stN r.codes k) ng _ hzk KG).mono ?_
      rintro e w3 ⟨rfl, hb⟩
      have hw3 : Below w2.heap.size w2 w3 := hb1.trans (hb.mono hb1.size)
      clear hb d0
      cases hcb : codeB ng (stN r.codes k) with
      | false =>
        have e := G3.out (codesB_false (by rw [← HNC.out]; exact hlt) hcb)
        subst e
        clear hcb
        go_wp2_with fail
        go_ret
        exact ⟨rfl, hw2.trans (hw3.mono hw2.size)⟩
      | true =>
        have H2 : Hid (∀ j, j < k + 1 → codeB ng (stN r.codes j) = true) := by
          intro j hj
          by_cases ej : j = k
          · subst ej; exact hcb
          · exact hall.out j (by omega)
        clear hcb
        go_wp2_with fail
        go_roundw
        case rel => exact ⟨k + 1, by omega, by go_num, H2, hw3⟩
        case measure => simp [intOf]; omega
    · have hkk : k = nc := by omega
      subst hkk
      have HCO : Hid (codesB ng r.codes = true) := codesB_true (fun i hi => hall.out i (by rw [HNC.out]; exact hi))
      clear hall hb1 hlt
      obtain ⟨wo, rfl⟩ : ∃ wo, wo = wr := ⟨_, rfl⟩
      go_wp2_with fail
      go_loopw [41] (fun i wr => ∃ k : Nat, k ≤ na ∧ i = .int .i64 k ∧ Hid (∀ j, j < k → arcV ng r.codes (arF r.arcs j) (arS r.arcs j) (arU r.arcs j) (arT r.arcs j) = true) ∧ Below wo.heap.size wo wr) (fun i _ => na - (intOf i).toNat)
      case atStart => exact ⟨0, Nat.zero_le _, rfl, fun j hj => absurd hj (Nat.not_lt_zero _), Below.refl _ _⟩
      case round =>
        obtain ⟨j, hj, rfl, hall, hb2⟩ := hrel
        have zz2 := hb2.size
        have x0 := cell_keep x0 hb2 (Nat.le_refl _)
        have x1 := cell_keep x1 hb2 (Nat.le_refl _)
        have x2 := cell_keep x2 hb2 (Nat.le_refl _)
        have hwj := hwr.trans (hb2.mono hwr.size)
        have zj : w.heap.size ≤ wr.heap.size := hwj.size
        by_cases hlt2 : j < na
        · have hl0 := HL.out
          obtain ⟨ao, cap, hvv, hc, hz⟩ := hl0
          injection hvv with e1 e2 e3
          subst e1; subst e3
          rcases hz with h0 | ⟨b, off, rfl, hlo, hcell⟩
          · omega
          obtain ⟨q0, q1, q2, q3⟩ := hcell j (by omega)
          have d0 := Carries.of lo hwj _ _ hlo q0
          have d1 := Carries.of lo hwj _ _ hlo q1
          have d2 := Carries.of lo hwj _ _ hlo q2
          have d3 := Carries.of lo hwj _ _ hlo q3
          clear hcell q0 q1 q2 q3 e2 hc
          try dsimp only at d0 d1 d2 d3
          have HAV : Hid (arcV ng r.codes (arF r.arcs j) (arS r.arcs j) (arU r.arcs j) (arT r.arcs j) = false → arcsB ng r.codes r.arcs = false) := fun h => arcsB_false (by rw [← HNA.out]; exact hlt2) h
          obtain ⟨av, hav⟩ : ∃ av, av = arcV ng r.codes (arF r.arcs j) (arS r.arcs j) (arU r.arcs j) (arT r.arcs j) := ⟨_, rfl⟩
          rw [← hav] at HAV
          have HAF := Lib.hid hav.symm
          have HAV2 := Lib.hid hav.symm; clear hav
          generalize arF r.arcs j = xf at d0 HAV2
          generalize arS r.arcs j = xs at d1 HAV2
          generalize arU r.arcs j = xu at d2 HAV2
          generalize arT r.arcs j = xt at d3 HAV2
          have hal2 : Below wr.heap.size wr (wr.alloc (.cells #[.int .i64 xf, .int .i64 xs, .bool xu, .int .i64 xt] 138)) := (Below.refl _ _).alloc (Nat.le_refl _) _
          have u0 := cell_carry x0 (Carries.of 0 hal2)
          have u1 := cell_carry x1 (Carries.of 0 hal2)
          have u2 := cell_carry x2 (Carries.of 0 hal2)
          clear hal2
          go_wp2_with fail
          refine (l5Arc_any _ r _ _ _ _ _ lo (HV.out.keep (Carries.of lo ?_)) HS.out (by rw [← HNG.out]; exact HCO.out)).mono ?_
          · (repeat' (first | (with_reducible exact Below.refl _ _) | (with_reducible assumption) | (with_reducible refine Below.alloc ?_ ?_ _) | (with_reducible refine Below.drew ?_) | (with_reducible refine below_drewN ?_ _) | (with_reducible refine Below.setCell ?_ ?_ _) | go_size))
          rintro e w3 ⟨rfl, hb⟩
          rw [← HNG.out, HAV2.out]
          have hw3 : Below wo.heap.size wo w3 := by
            refine hb2.trans (Below.trans ?_ (hb.mono ?_))
            · (repeat' (first | (with_reducible exact Below.refl _ _) | (with_reducible assumption) | (with_reducible refine Below.alloc ?_ ?_ _) | (with_reducible refine Below.drew ?_) | (with_reducible refine below_drewN ?_ _) | (with_reducible refine Below.setCell ?_ ?_ _) | go_size))
            · simp; omega
          clear hb d0 d1 d2 d3 u0 u1 u2
          cases av with
          | false =>
            have e := G4.out (HAV.out rfl)
            subst e
            go_wp2_with fail
            go_ret
            exact ⟨rfl, hwr.trans (hw3.mono hwr.size)⟩
          | true =>
            have H2 : Hid (∀ i, i < j + 1 → arcV ng r.codes (arF r.arcs i) (arS r.arcs i) (arU r.arcs i) (arT r.arcs i) = true) := by
              intro i hi
              by_cases ei : i = j
              · subst ei; exact HAF.out
              · exact hall.out i (by omega)
            go_wp2_with fail
            go_roundw
            case rel => exact ⟨j + 1, by omega, by go_num, H2, hw3⟩
            case measure => simp [intOf]; omega
        · have hjj : j = na := by omega
          subst hjj
          have HAR : Hid (arcsB ng r.codes r.arcs = true) := arcsB_true (fun i hi => hall.out i (by rw [HNA.out]; exact hi))
          have e := G5.out H1.out HLEN.out HCO.out HAR.out
          clear hall
          go_wp2_with fail
          refine (l5All_any _ r _ lo (HV.out.keep (Carries.of lo hwj)) HS.out (by rw [← HNC.out]; exact h2a) (fun i hi => arcV_in (arcsB_at HAR.out hi))).mono ?_
          rintro e' w5 ⟨rfl, hb⟩
          rw [← HNC.out, ← e]
          have hw5 : Below w.heap.size w w5 := hwj.trans (hb.mono hwj.size)
          clear hb e
          go_wp2_with fail
          go_ret
          exact ⟨rfl, hw5⟩
end Go.Proofs.YtnmoocgocnjdjaaGreat
