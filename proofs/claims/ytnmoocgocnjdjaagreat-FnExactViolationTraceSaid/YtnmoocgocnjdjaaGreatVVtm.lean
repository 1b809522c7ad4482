/- WALK: ViolationTrace of the model. -/
import Derived.Test.YtnmoocgocnjdjaaGreatVVta
import Derived.Test.YtnmoocgocnjdjaaGreatVPvm
import Derived.Test.YtnmoocgocnjdjaaGreatVSpx
import Derived.Test.YtnmoocgocnjdjaaGreatVStgm
import Derived.Test.YtnmoocgocnjdjaaGreatVSgu
namespace Go.Proofs.YtnmoocgocnjdjaaGreat
open Go.RowKit

set_option maxRecDepth 100000 in
set_option maxHeartbeats 4000000 in
theorem specViolationTrace_any (v : Value) (r : SgD) (f s t : Int) (w : World) (lo : Nat) (hv : SgAt lo w v r) (hs : SmallSg r) :
    Calls Tryz.prog 37 #[v, .agg #[.int .i64 f, .int .i64 s, .int .i64 t]] w (RetTx w (vtS r f s t) (vtB r f s t)) := by
  obtain ⟨S, hS⟩ : ∃ x, x = vtS r f s t := ⟨_, rfl⟩
  obtain ⟨B, hB⟩ : ∃ x, x = vtB r f s t := ⟨_, rfl⟩
  rw [← hS, ← hB]
  have HSS := Lib.hid hS; clear hS
  have HBB := Lib.hid hB; clear hB
  have HV := Lib.hid hv
  obtain ⟨a0, c0, a1, c1, a2, c2, rfl, _, _, h_2⟩ := hv.form
  have HL2 := Lib.hid h_2
  clear hv h_2
  have HS := Lib.hid hs; clear hs
  obtain ⟨n0, hn0⟩ : ∃ x, x = r.sigs.length := ⟨_, rfl⟩
  obtain ⟨n1, hn1⟩ : ∃ x, x = r.codes.length := ⟨_, rfl⟩
  obtain ⟨n2, hn2⟩ : ∃ x, x = r.arcs.length := ⟨_, rfl⟩
  rw [← hn0, ← hn1, ← hn2] at HV ⊢
  rw [← hn2] at HL2
  have HN1 := Lib.hid hn1
  have HN2 := Lib.hid hn2
  clear hn0 hn1 hn2
  go_enter Tryz.func37, Tryz.ntmps37
  go_wp2_with fail
  obtain ⟨V, hVe⟩ : ∃ x, x = (w.alloc (.cells #[.slice a0 n0 c0, .slice a1 n1 c1, .slice a2 n2 c2] 80)).alloc (.cells #[.int .i64 f, .int .i64 s, .int .i64 t] 82) := ⟨_, rfl⟩
  have hV : Below w.heap.size w V := by rw [hVe]; (repeat' (first | (with_reducible exact Below.refl _ _) | (with_reducible assumption) | (with_reducible refine Below.alloc ?_ ?_ _) | (with_reducible refine Below.drew ?_) | (with_reducible refine below_drewN ?_ _) | (with_reducible refine Below.setCell ?_ ?_ _) | go_size))
  have x0 : V.cell? ⟨w.heap.size, 0, none⟩ = some (.slice a0 n0 c0) := by
    rw [hVe]
    exact cell_carry (w := w.alloc (.cells #[.slice a0 n0 c0, .slice a1 n1 c1, .slice a2 n2 c2] 80)) (by simp) ((Carries.refl 0 _).alloc _)
  have x1 : V.cell? ⟨w.heap.size, 1, none⟩ = some (.slice a1 n1 c1) := by
    rw [hVe]
    exact cell_carry (w := w.alloc (.cells #[.slice a0 n0 c0, .slice a1 n1 c1, .slice a2 n2 c2] 80)) (by simp) ((Carries.refl 0 _).alloc _)
  have x2 : V.cell? ⟨w.heap.size, 2, none⟩ = some (.slice a2 n2 c2) := by
    rw [hVe]
    exact cell_carry (w := w.alloc (.cells #[.slice a0 n0 c0, .slice a1 n1 c1, .slice a2 n2 c2] 80)) (by simp) ((Carries.refl 0 _).alloc _)
  have y0 : V.cell? ⟨w.heap.size + 1, 0, none⟩ = some (.int .i64 f) := by rw [hVe]; simp
  have y1 : V.cell? ⟨w.heap.size + 1, 1, none⟩ = some (.int .i64 s) := by rw [hVe]; simp
  have y2 : V.cell? ⟨w.heap.size + 1, 2, none⟩ = some (.int .i64 t) := by rw [hVe]; simp
  rw [← hVe]
  clear hVe
  refine (l5Good_any _ r V lo (HV.out.keep (Carries.of lo hV)) HS.out).mono ?_
  rintro e w1 ⟨rfl, hb⟩
  have hw1 : Below w.heap.size w w1 := hV.trans (hb.mono hV.size)
  have x0 := cell_carry x0 (Carries.of 0 hb)
  have x1 := cell_carry x1 (Carries.of 0 hb)
  have x2 := cell_carry x2 (Carries.of 0 hb)
  have y0 := cell_carry y0 (Carries.of 0 hb)
  have y1 := cell_carry y1 (Carries.of 0 hb)
  have y2 := cell_carry y2 (Carries.of 0 hb)
  clear hb hV
  cases hg : goodG r with
  | false =>
    have hf : vtB r f s t = false := by unfold vtB; rw [hg]; rfl
    have k1 := HSS.out
    have k2 := HBB.out
    rw [vtS_no hf] at k1
    rw [hf] at k2
    subst k1; subst k2
    clear hf
    clear hg
    go_wp2_with fail
    go_ret2
    exact ⟨rfl, hw1⟩
  | true =>
  have hfB : vtB r f s t = pvHas (bkL r) f s t := by unfold vtB; rw [hg]; rfl
  have HFB := Lib.hid hfB; clear hfB
  have HG := Lib.hid hg; clear hg
  go_wp2_with fail
  refine (l6Breaks_any _ r w1 lo (HV.out.keep (Carries.of lo hw1)) HS.out HG.out).mono ?_
  rintro e w2 ⟨vp, rfl, hrow, hb⟩
  have hw2 : Below w.heap.size w w2 := hw1.trans (hb.mono hw1.size)
  have x0 := cell_carry x0 (Carries.of 0 hb)
  have x1 := cell_carry x1 (Carries.of 0 hb)
  have x2 := cell_carry x2 (Carries.of 0 hb)
  have y0 := cell_carry y0 (Carries.of 0 hb)
  have y1 := cell_carry y1 (Carries.of 0 hb)
  have y2 := cell_carry y2 (Carries.of 0 hb)
  have hP := hrow.at
  have hl : (bkL r).length ≤ 1048576 := by have := pvL_small r; rw [pvL_yes HG.out] at this; exact this
  clear hrow hb
  obtain ⟨L, hL⟩ : ∃ L, L = bkL r := ⟨_, rfl⟩
  rw [← hL] at hP hl
  have HLL := Lib.hid hL; clear hL
  obtain ⟨ap, cp, rfl, hcp, hzp⟩ := hP
  have HF := Lib.hid hzp; clear hzp hcp
  go_wp2_with fail
  have z2 : w.heap.size + 1 < w2.heap.size := cell_old y0
  go_loopw [14] (fun i wr => ∃ j : Nat, j ≤ L.length ∧ i = .int .i64 j ∧ Hid (∀ q, q < j → pvIs L f s t q = false) ∧ Below w2.heap.size w2 wr) (fun i _ => L.length - (intOf i).toNat)
  case atStart => exact ⟨0, Nat.zero_le _, rfl, fun j hj => absurd hj (Nat.not_lt_zero _), Below.refl _ _⟩
  case round =>
    obtain ⟨j, hj, rfl, hall, hbi⟩ := hrel
    have x0 := cell_keep x0 hbi (by omega)
    have x1 := cell_keep x1 hbi (by omega)
    have x2 := cell_keep x2 hbi (by omega)
    have y0 := cell_keep y0 hbi (by omega)
    have y1 := cell_keep y1 hbi (by omega)
    have y2 := cell_keep y2 hbi (by omega)
    by_cases hlt : j < L.length
    · rcases HF.out with h0 | ⟨b', off', rfl, hlo', hcell'⟩
      · omega
      obtain ⟨q0, q1, q3⟩ := hcell' j hlt
      have p0 := Carries.of _ hbi _ _ hlo' q0
      have p1 := Carries.of _ hbi _ _ hlo' q1
      have p3 := Carries.of _ hbi _ _ hlo' q3
      clear hcell' q0 q1 q3
      have hgj : decide ((mvF L j, mvB L j, mvT L j) = (f, s, t)) = pvIs L f s t j := by unfold pvIs; exact decide_eq_decide.2 eq_comm
      have hrun := fun w' => (eqlPv_run (mvF L j) (mvB L j) (mvT L j) f s t w').trans (by rw [hgj])
      clear hgj
      try dsimp only at p0 p1 p3
      generalize mvF L j = e0 at p0 hrun
      generalize mvB L j = e1 at p1 hrun
      generalize mvT L j = e3 at p3 hrun
      have hb : Below wr.heap.size wr (wr.alloc (.cells #[.int .i64 e0, .int .i64 e1, .int .i64 e3] 82)) := (Below.refl _ _).alloc (Nat.le_refl _) _
      have hbi' : Below w2.heap.size w2 (wr.alloc (.cells #[.int .i64 e0, .int .i64 e1, .int .i64 e3] 82)) := hbi.alloc hbi.size _
      have x0 := cell_carry x0 (Carries.of 0 hb)
      have x1 := cell_carry x1 (Carries.of 0 hb)
      have x2 := cell_carry x2 (Carries.of 0 hb)
      have y0 := cell_carry y0 (Carries.of 0 hb)
      have y1 := cell_carry y1 (Carries.of 0 hb)
      have y2 := cell_carry y2 (Carries.of 0 hb)
      clear hb
      cases hm : pvIs L f s t j with
      | false =>
        have H2 : Hid (∀ q, q < j + 1 → pvIs L f s t q = false) := by
          intro q hq
          by_cases eq : q = j
          · subst eq; exact hm
          · exact hall.out q (by omega)
        rw [hm] at hrun
        clear hm
        go_wp2_with fail
        go_roundw
        case rel => exact ⟨j + 1, by omega, by go_num, H2, hbi'⟩
        case measure => simp [intOf]; omega
      | true =>
        have hp : pvHas (bkL r) f s t = true := by
          rw [← HLL.out]; exact anyTo_true hlt hm
        rw [hm] at hrun
        clear hm
        obtain ⟨k, n, rfl, rfl, hk, hn, h0⟩ := vtB_in hp
        have hf := HFB.out
        rw [hp] at hf
        have k1 := HSS.out
        have k2 := HBB.out
        rw [vtS_yes hf] at k1
        rw [hf] at k2
        subst k2
        have HK := Lib.hid k1; clear k1 hf hp
        have H0 := Lib.hid h0; clear h0
        rw [← HN2.out] at hn
        have hwU := hw2.trans (hbi'.mono hw2.size)
        obtain ⟨ao, cap, e0', hc2, hz2⟩ := HL2.out
        injection e0' with e1' e2' e3'
        subst e1'; subst e3'; clear e2'
        rcases hz2 with h0 | ⟨b, off, rfl, hlo, hcell⟩
        · have := HN2.out; omega
        obtain ⟨q0, q1, q2, q3⟩ := hcell n (by rw [← HN2.out]; exact hn)
        have HD : Hid (∀ w', Below w.heap.size w w' → w'.cell? ⟨b, off + n * 4, none⟩ = some (.int .i64 (arF r.arcs n)) ∧ w'.cell? ⟨b, off + n * 4 + 1, none⟩ = some (.int .i64 (arS r.arcs n)) ∧ w'.cell? ⟨b, off + n * 4 + 2, none⟩ = some (.bool (arU r.arcs n)) ∧ w'.cell? ⟨b, off + n * 4 + 3, none⟩ = some (.int .i64 (arT r.arcs n))) := fun w' h => ⟨Carries.of lo h _ _ hlo q0, Carries.of lo h _ _ hlo q1, Carries.of lo h _ _ hlo q2, Carries.of lo h _ _ hlo q3⟩
        clear hcell q0 q1 q2 q3
        have HAT : Hid (arAt r ((n : Nat) : Int) = (arF r.arcs n, arS r.arcs n, arU r.arcs n, arT r.arcs n)) := rfl
        generalize arF r.arcs n = g0 at HAT HD
        generalize arS r.arcs n = g1 at HAT HD
        generalize arU r.arcs n = g2 at HAT HD
        generalize arT r.arcs n = g3 at HAT HD
        go_wp2_with fail
        clear hrun p0 p1 p3
        obtain ⟨d0, d1, d2, d3⟩ := HD.out _ hwU
        clear hbi'
        generalize wr.alloc (.cells #[.int .i64 e0, .int .i64 e1, .int .i64 e3] 82) = U at x0 x1 x2 y0 y1 y2 d0 d1 d2 d3 hwU ⊢
        have XD : Hid (∀ w', Below U.heap.size U w' → ((w'.cell? ⟨w.heap.size, 0, none⟩ = some (.slice a0 n0 c0) ∧ w'.cell? ⟨w.heap.size, 1, none⟩ = some (.slice a1 n1 c1) ∧ w'.cell? ⟨w.heap.size, 2, none⟩ = some (.slice (some ⟨b, off, none⟩) n2 c2)) ∧ w'.cell? ⟨w.heap.size + 1, 0, none⟩ = some (.int .i64 (k : Int)) ∧ w'.cell? ⟨w.heap.size + 1, 1, none⟩ = some (.int .i64 s) ∧ w'.cell? ⟨w.heap.size + 1, 2, none⟩ = some (.int .i64 (n : Int))) ∧ w'.cell? ⟨b, off + n * 4, none⟩ = some (.int .i64 g0) ∧ w'.cell? ⟨b, off + n * 4 + 1, none⟩ = some (.int .i64 g1) ∧ w'.cell? ⟨b, off + n * 4 + 2, none⟩ = some (.bool g2) ∧ w'.cell? ⟨b, off + n * 4 + 3, none⟩ = some (.int .i64 g3)) := fun w' hb => ⟨⟨⟨cell_carry x0 (Carries.of 0 hb), cell_carry x1 (Carries.of 0 hb), cell_carry x2 (Carries.of 0 hb)⟩, cell_carry y0 (Carries.of 0 hb), cell_carry y1 (Carries.of 0 hb), cell_carry y2 (Carries.of 0 hb)⟩, cell_carry d0 (Carries.of 0 hb), cell_carry d1 (Carries.of 0 hb), cell_carry d2 (Carries.of 0 hb), cell_carry d3 (Carries.of 0 hb)⟩
        refine wp_region_held_drew (S := fun w' => ((w'.cell? ⟨w.heap.size, 0, none⟩ = some (.slice a0 n0 c0) ∧ w'.cell? ⟨w.heap.size, 1, none⟩ = some (.slice a1 n1 c1) ∧ w'.cell? ⟨w.heap.size, 2, none⟩ = some (.slice (some ⟨b, off, none⟩) n2 c2)) ∧ w'.cell? ⟨w.heap.size + 1, 0, none⟩ = some (.int .i64 (k : Int)) ∧ w'.cell? ⟨w.heap.size + 1, 1, none⟩ = some (.int .i64 s) ∧ w'.cell? ⟨w.heap.size + 1, 2, none⟩ = some (.int .i64 (n : Int))) ∧ w'.cell? ⟨b, off + n * 4, none⟩ = some (.int .i64 g0) ∧ w'.cell? ⟨b, off + n * 4 + 1, none⟩ = some (.int .i64 g1) ∧ w'.cell? ⟨b, off + n * 4 + 2, none⟩ = some (.bool g2) ∧ w'.cell? ⟨b, off + n * 4 + 3, none⟩ = some (.int .i64 g3)) (by kernel_rfl) ⟨⟨⟨x0, x1, x2⟩, y0, y1, y2⟩, d0, d1, d2, d3⟩ (fun hHeld => ?_)
        refine tk0 (v := ?_) (by kernel_rfl) (by kernel_rfl) (by kernel_rfl) (by first | exact fun _ _ _ h => h | exact fun _ _ _ h => absurd h.1 (by simp)) (Or.inl ⟨by rfl, ?_⟩) (by assumption) ?_
        rotate_left 1
        focus (intro wx hSw; (try dsimp only at hSw); go_simp; try (with_reducible rfl))
        try simp only [Act.put, List.setIfInBounds_toArray, List.set_cons_zero, List.set_cons_succ]
        refine tk1 (v := ?_) (by kernel_rfl) (by kernel_rfl) (by kernel_rfl) (by first | exact fun _ _ _ h => h | exact fun _ _ _ h => absurd h.1 (by simp)) (Or.inl ⟨by rfl, ?_⟩) (by assumption) ?_
        rotate_left 1
        focus (intro wx hSw; (try dsimp only at hSw); go_simp; try (with_reducible rfl))
        try simp only [Act.put, List.setIfInBounds_toArray, List.set_cons_zero, List.set_cons_succ]
        refine tk2 (v := ?_) (by kernel_rfl) (by kernel_rfl) (by kernel_rfl) (by first | exact fun _ _ _ h => h | exact fun _ _ _ h => absurd h.1 (by simp)) (Or.inl ⟨by rfl, ?_⟩) (by assumption) ?_
        rotate_left 1
        focus (intro wx hSw; (try dsimp only at hSw); go_simp; try (with_reducible rfl))
        try simp only [Act.put, List.setIfInBounds_toArray, List.set_cons_zero, List.set_cons_succ]
        refine tk3 (v := ?_) (by kernel_rfl) (by kernel_rfl) (by kernel_rfl) (by first | exact fun _ _ _ h => h | exact fun _ _ _ h => absurd h.1 (by simp)) (Or.inl ⟨by rfl, ?_⟩) (by assumption) ?_
        rotate_left 1
        focus (intro wx hSw; (try dsimp only at hSw); go_simp; try (with_reducible rfl))
        try simp only [Act.put, List.setIfInBounds_toArray, List.set_cons_zero, List.set_cons_succ]
        refine tk5 (v := ?_) (by kernel_rfl) (by kernel_rfl) (by kernel_rfl) (by first | exact fun _ _ _ h => h | exact fun _ _ _ h => absurd h.1 (by simp)) (Or.inl ⟨by rfl, ?_⟩) (by assumption) ?_
        rotate_left 1
        focus (intro wx hSw; (try dsimp only at hSw); go_simp; try (with_reducible rfl))
        try simp only [Act.put, List.setIfInBounds_toArray, List.set_cons_zero, List.set_cons_succ]
        refine tk6 (v := ?_) (by kernel_rfl) (by kernel_rfl) (by kernel_rfl) (by first | exact fun _ _ _ h => h | exact fun _ _ _ h => absurd h.1 (by simp)) (Or.inl ⟨by rfl, ?_⟩) (by assumption) ?_
        rotate_left 1
        focus (intro wx hSw; (try dsimp only at hSw); go_simp; try (with_reducible rfl))
        try simp only [Act.put, List.setIfInBounds_toArray, List.set_cons_zero, List.set_cons_succ]
        refine tk7 (v := ?_) (by kernel_rfl) (by kernel_rfl) (by kernel_rfl) (by first | exact fun _ _ _ h => h | exact fun _ _ _ h => absurd h.1 (by simp)) (Or.inl ⟨by rfl, ?_⟩) (by assumption) ?_
        rotate_left 1
        focus (intro wx hSw; (try dsimp only at hSw); go_simp; try (with_reducible rfl))
        try simp only [Act.put, List.setIfInBounds_toArray, List.set_cons_zero, List.set_cons_succ]
        refine tk8 (v := ?_) (by kernel_rfl) (by kernel_rfl) (by kernel_rfl) (by first | exact fun _ _ _ h => h | exact fun _ _ _ h => absurd h.1 (by simp)) (Or.inl ⟨by rfl, ?_⟩) (by assumption) ?_
        rotate_left 1
        focus (intro wx hSw; (try dsimp only at hSw); go_simp; try (with_reducible rfl))
        try simp only [Act.put, List.setIfInBounds_toArray, List.set_cons_zero, List.set_cons_succ]
        refine tk9 (v := ?_) (by kernel_rfl) (by kernel_rfl) (by kernel_rfl) (by first | exact fun _ _ _ h => h | exact fun _ _ _ h => absurd h.1 (by simp)) (Or.inl ⟨by rfl, ?_⟩) (by assumption) ?_
        rotate_left 1
        focus (intro wx hSw; (try dsimp only at hSw); go_simp; try (with_reducible rfl))
        try simp only [Act.put, List.setIfInBounds_toArray, List.set_cons_zero, List.set_cons_succ]
        refine tk10 (v := ?_) (by kernel_rfl) (by kernel_rfl) (by kernel_rfl) (by first | exact fun _ _ _ h => h | exact fun _ _ _ h => absurd h.1 (by simp)) (Or.inl ⟨by rfl, ?_⟩) (by assumption) ?_
        rotate_left 1
        focus (intro wx hSw; (try dsimp only at hSw); go_simp; try (with_reducible rfl))
        try simp only [Act.put, List.setIfInBounds_toArray, List.set_cons_zero, List.set_cons_succ]
        clear x0 x1 x2 y0 y1 y2 d0 d1 d2 d3
        have hbU : Below U.heap.size U U.drew := (Below.refl _ _).drew
        refine wpAnyH_ready (rs := [4, 11]) (by kernel_rfl) (by simp) ?_
        refine ar4 (fun K hK => ?_) ?_
        · go_simp
          refine (l5Way_any _ r k U.drew lo (HV.out.keep (Carries.of lo hwU.drew)) HS.out HG.out hk).mono ?_
          rintro e w4 ⟨vl, rfl, hrow, hb⟩
          have hb4 : Below U.heap.size U w4 := hbU.trans (hb.mono (by simp))
          have HR := Lib.hid hrow
          obtain ⟨al, cl, rfl⟩ := hrow.form
          clear hrow hb
          refine hK.out _ _ ⟨(XD.out _ hb4).1, (XD.out _ hb4).2⟩ (fun hHeld => ?_)
          clear hK K
          try simp only [Act.put, List.setIfInBounds_toArray, List.set_cons_zero, List.set_cons_succ]
          refine rd11 (by kernel_rfl) (fun K hK => ?_)
          go_simp
          obtain ⟨A, hA⟩ : ∃ x, x = w4.alloc (.cells #[.int .i64 g0, .int .i64 g1, .bool g2, .int .i64 g3] 138) := ⟨_, rfl⟩
          have hbA : Below U.heap.size U A := by rw [hA]; exact hb4.alloc hb4.size _
          have HRA : Hid (ARow U.heap.size A (.slice al (spL r (k : Int)).length cl) (spL r (k : Int))) := by unfold Hid; rw [hA]; exact World.ownsRow.alloc HR.out _
          have e0 : A.cell? ⟨w4.heap.size, 0, none⟩ = some (.int .i64 g0) := by rw [hA]; simp
          have e1 : A.cell? ⟨w4.heap.size, 1, none⟩ = some (.int .i64 g1) := by rw [hA]; simp
          have e2 : A.cell? ⟨w4.heap.size, 2, none⟩ = some (.bool g2) := by rw [hA]; simp
          have e3 : A.cell? ⟨w4.heap.size, 3, none⟩ = some (.int .i64 g3) := by rw [hA]; simp
          rw [← hA]
          clear hA
          refine hK.out _ _ ⟨(XD.out _ hbA).1, (XD.out _ hbA).2⟩ (fun hHeld => ?_)
          clear hK K
          try simp only [Act.put, List.setIfInBounds_toArray, List.set_cons_zero, List.set_cons_succ]
          refine rd12 (by kernel_rfl) (fun K hK => ?_)
          rw [if_pos (by rfl)]
          refine wp_append_ar (.tmp 25) (.tmp 32) rfl U.heap.size _ (spL r (k : Int)) rfl HRA.out w4.heap.size (g0, g1, g2, g3) rfl e0 e1 e2 e3 (by have := spL_small (t := (k : Int)) HS.out; omega) hbA.size ?_
          intro v' w6 hown6 hgrow
          have hge : ∀ g, (Value.slice al (spL r (k : Int)).length cl).ownBlock = some g → U.heap.size ≤ g := fun g hg => (HRA.out.lt g hg).1
          have hb6 : Below U.heap.size U w6 := hbA.grown hgrow hbA.size hge
          have hw6 : Below w.heap.size w w6 := hwU.trans (hb6.mono hwU.size)
          clear hgrow hge e0 e1 e2 e3
          have hvt : ARow U.heap.size w6 v' (vtL r (k : Int) (n : Int)) := by unfold vtL; rw [HAT.out]; exact hown6
          have HO := Lib.hid hvt.at
          obtain ⟨av, cv, rfl⟩ := hvt.form
          clear hvt hown6
          refine hK.out _ _ ⟨(XD.out _ hb6).1, (XD.out _ hb6).2⟩ (fun hHeld => ?_)
          clear hK K
          try simp only [Act.put, List.setIfInBounds_toArray, List.set_cons_zero, List.set_cons_succ]
          refine rd13 (by kernel_rfl) (fun K hK => ?_)
          go_simp
          refine (l6Trace_any _ _ r (vtL r (k : Int) (n : Int)) w6 lo _ (HV.out.keep (Carries.of lo hw6)) HO.out HS.out (vtL_small HG.out) (vtL_labs HG.out H0.out)).mono ?_
          rintro e w7 ⟨rfl, hb⟩
          have hw7 : Below w.heap.size w w7 := hw6.trans (hb.mono hw6.size)
          have hb7 : Below U.heap.size U w7 := hb6.trans (hb.mono hb6.size)
          clear hb
          rw [← HK.out]
          refine hK.out _ _ ⟨(XD.out _ hb7).1, (XD.out _ hb7).2⟩ (fun hHeld => ?_)
          clear hK K
          try simp only [Act.put, List.setIfInBounds_toArray, List.set_cons_zero, List.set_cons_succ]
          refine tk14 (v := ?_) (by kernel_rfl) (by kernel_rfl) (by kernel_rfl) (by first | exact fun _ _ _ h => h | exact fun _ _ _ h => absurd h.1 (by simp)) (Or.inl ⟨by rfl, ?_⟩) (by assumption) ?_
          rotate_left 1
          focus (intro wx hSw; (try dsimp only at hSw); go_simp; try (with_reducible rfl))
          try simp only [Act.put, List.setIfInBounds_toArray, List.set_cons_zero, List.set_cons_succ]
          refine tk15 (v := ?_) (by kernel_rfl) (by kernel_rfl) (by kernel_rfl) (by first | exact fun _ _ _ h => h | exact fun _ _ _ h => absurd h.1 (by simp)) (Or.inl ⟨by rfl, ?_⟩) (by assumption) ?_
          rotate_left 1
          focus (intro wx hSw; (try dsimp only at hSw); go_simp; try (with_reducible rfl))
          try simp only [Act.put, List.setIfInBounds_toArray, List.set_cons_zero, List.set_cons_succ]
          refine wpAnyH_done (by kernel_rfl) ?_ _
          go_wp2_with fail
          go_ret2
          exact ⟨rfl, hw7⟩
        refine ar11 (fun K hK => ?_) AllReadyH.nil
        · go_simp
          obtain ⟨A0, hA⟩ : ∃ x, x = (U.alloc (.cells #[.int .i64 g0, .int .i64 g1, .bool g2, .int .i64 g3] 138)).drew := ⟨_, rfl⟩
          have hb0 : Below U.heap.size U A0 := by rw [hA]; exact ((Below.refl _ _).alloc (Nat.le_refl _) _).drew
          have e0 : A0.cell? ⟨U.heap.size, 0, none⟩ = some (.int .i64 g0) := by rw [hA]; simp
          have e1 : A0.cell? ⟨U.heap.size, 1, none⟩ = some (.int .i64 g1) := by rw [hA]; simp
          have e2 : A0.cell? ⟨U.heap.size, 2, none⟩ = some (.bool g2) := by rw [hA]; simp
          have e3 : A0.cell? ⟨U.heap.size, 3, none⟩ = some (.int .i64 g3) := by rw [hA]; simp
          rw [← hA]
          clear hA
          refine hK.out _ _ ⟨(XD.out _ hb0).1, (XD.out _ hb0).2⟩ (fun hHeld => ?_)
          clear hK K
          try simp only [Act.put, List.setIfInBounds_toArray, List.set_cons_zero, List.set_cons_succ]
          refine rd4 (by kernel_rfl) (fun K hK => ?_)
          go_simp
          have hw0 := hwU.trans (hb0.mono hwU.size)
          refine (l5Way_any _ r k A0 lo (HV.out.keep (Carries.of lo hw0)) HS.out HG.out hk).mono ?_
          rintro e A ⟨vl, rfl, hrow, hb⟩
          have hbA : Below U.heap.size U A := hb0.trans (hb.mono hb0.size)
          have e0 := cell_carry e0 (Carries.of 0 hb)
          have e1 := cell_carry e1 (Carries.of 0 hb)
          have e2 := cell_carry e2 (Carries.of 0 hb)
          have e3 := cell_carry e3 (Carries.of 0 hb)
          have HRA : Hid (ARow U.heap.size A vl (spL r (k : Int))) := hrow.low hb0.size
          obtain ⟨al, cl, rfl⟩ := hrow.form
          clear hrow hb
          refine hK.out _ _ ⟨(XD.out _ hbA).1, (XD.out _ hbA).2⟩ (fun hHeld => ?_)
          clear hK K
          try simp only [Act.put, List.setIfInBounds_toArray, List.set_cons_zero, List.set_cons_succ]
          refine rd12 (by kernel_rfl) (fun K hK => ?_)
          rw [if_pos (by rfl)]
          refine wp_append_ar (.tmp 25) (.tmp 32) rfl U.heap.size _ (spL r (k : Int)) rfl HRA.out U.heap.size (g0, g1, g2, g3) rfl e0 e1 e2 e3 (by have := spL_small (t := (k : Int)) HS.out; omega) hbA.size ?_
          intro v' w6 hown6 hgrow
          have hge : ∀ g, (Value.slice al (spL r (k : Int)).length cl).ownBlock = some g → U.heap.size ≤ g := fun g hg => (HRA.out.lt g hg).1
          have hb6 : Below U.heap.size U w6 := hbA.grown hgrow hbA.size hge
          have hw6 : Below w.heap.size w w6 := hwU.trans (hb6.mono hwU.size)
          clear hgrow hge e0 e1 e2 e3
          have hvt : ARow U.heap.size w6 v' (vtL r (k : Int) (n : Int)) := by unfold vtL; rw [HAT.out]; exact hown6
          have HO := Lib.hid hvt.at
          obtain ⟨av, cv, rfl⟩ := hvt.form
          clear hvt hown6
          refine hK.out _ _ ⟨(XD.out _ hb6).1, (XD.out _ hb6).2⟩ (fun hHeld => ?_)
          clear hK K
          try simp only [Act.put, List.setIfInBounds_toArray, List.set_cons_zero, List.set_cons_succ]
          refine rd13 (by kernel_rfl) (fun K hK => ?_)
          go_simp
          refine (l6Trace_any _ _ r (vtL r (k : Int) (n : Int)) w6 lo _ (HV.out.keep (Carries.of lo hw6)) HO.out HS.out (vtL_small HG.out) (vtL_labs HG.out H0.out)).mono ?_
          rintro e w7 ⟨rfl, hb⟩
          have hw7 : Below w.heap.size w w7 := hw6.trans (hb.mono hw6.size)
          have hb7 : Below U.heap.size U w7 := hb6.trans (hb.mono hb6.size)
          clear hb
          rw [← HK.out]
          refine hK.out _ _ ⟨(XD.out _ hb7).1, (XD.out _ hb7).2⟩ (fun hHeld => ?_)
          clear hK K
          try simp only [Act.put, List.setIfInBounds_toArray, List.set_cons_zero, List.set_cons_succ]
          refine tk14 (v := ?_) (by kernel_rfl) (by kernel_rfl) (by kernel_rfl) (by first | exact fun _ _ _ h => h | exact fun _ _ _ h => absurd h.1 (by simp)) (Or.inl ⟨by rfl, ?_⟩) (by assumption) ?_
          rotate_left 1
          focus (intro wx hSw; (try dsimp only at hSw); go_simp; try (with_reducible rfl))
          try simp only [Act.put, List.setIfInBounds_toArray, List.set_cons_zero, List.set_cons_succ]
          refine tk15 (v := ?_) (by kernel_rfl) (by kernel_rfl) (by kernel_rfl) (by first | exact fun _ _ _ h => h | exact fun _ _ _ h => absurd h.1 (by simp)) (Or.inl ⟨by rfl, ?_⟩) (by assumption) ?_
          rotate_left 1
          focus (intro wx hSw; (try dsimp only at hSw); go_simp; try (with_reducible rfl))
          try simp only [Act.put, List.setIfInBounds_toArray, List.set_cons_zero, List.set_cons_succ]
          refine wpAnyH_done (by kernel_rfl) ?_ _
          go_wp2_with fail
          go_ret2
          exact ⟨rfl, hw7⟩
    · have hjj : j = L.length := by omega
      subst hjj
      have hp : pvHas (bkL r) f s t = false := by
        rw [← HLL.out]; exact anyTo_false hall.out
      have hf := HFB.out
      rw [hp] at hf
      have k1 := HSS.out
      have k2 := HBB.out
      rw [vtS_no hf] at k1
      rw [hf] at k2
      subst k1; subst k2
      clear hf hp
      go_wp2_with fail
      go_ret2
      exact ⟨rfl, hw2.trans (hbi.mono hw2.size)⟩

end Go.Proofs.YtnmoocgocnjdjaaGreat
