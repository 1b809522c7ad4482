/- WALKS: violations, PersistencyViolations of the program. -/
import Derived.BigRegion
import Derived.Test.YtgmnknlnlmcmfaaVUne
namespace Go.Proofs.Ytgmnknlnlmcmfaa
open Go.RowKit Go.Shelf

theorem exV_at {r : SgD} {cnt : Int → Bool} {j f s : Nat} (h : s < 8) : exV r cnt j (f * 8 + s) = .bool (exTo r cnt j f s) := by
  have e1 : (f * 8 + s) / 8 = f := by omega
  have e2 : (f * 8 + s) % 8 = s := by omega
  unfold exV
  rw [e1, e2]
def pvL (r : SgD) : List Mv := if goodG r = true then bkL r else []
theorem pvL_no {r : SgD} (h : goodG r = false) : pvL r = [] := by unfold pvL; rw [h]; rfl
theorem pvL_yes {r : SgD} (h : goodG r = true) : pvL r = bkL r := by unfold pvL; rw [h]; rfl
theorem pvL_small (r : SgD) : (pvL r).length ≤ 1048576 := by
  cases h : goodG r with
  | false => rw [pvL_no h]; exact Nat.zero_le _
  | true =>
    rw [pvL_yes h, ← (fd_perm h).length_eq]
    have h1 := fdTo_length r r.arcs.length
    have h8 : r.sigs.length ≤ 8 := (of_decide_eq_true (Bool.and_eq_true_iff.1 (goodG_get h).1).2).2
    have h3 : r.arcs.length * r.sigs.length ≤ 4000 * 8 := Nat.mul_le_mul (goodG_get h).2.1.2 h8
    show (fdTo r r.arcs.length).length ≤ _
    omega
def RetPvb (w : World) (L : List Mv) (b : Bool) (e : Ending) (w' : World) : Prop := ∃ v, e = .returned (.tuple #[v, .bool b]) ∧ PRow w.heap.size w' v L ∧ Below w.heap.size w w'
def RetPv (L : List Mv) (w : World) : Ending → World → Prop := fun e w' => ∃ v, e = .returned v ∧ PRow w.heap.size w' v L ∧ Below w.heap.size w w'
/-- an arc in a block of its own -/
def ArcBx (w : World) (b : Nat) (f s : Int) (u : Bool) (t : Int) : Prop := w.heap[b]? = some (.cells #[.int .i64 f, .int .i64 s, .bool u, .int .i64 t] 153)
theorem ArcBx.new (w : World) (f s : Int) (u : Bool) (t : Int) : ArcBx (w.alloc (.cells #[.int .i64 f, .int .i64 s, .bool u, .int .i64 t] 153)) w.heap.size f s u t := heap_alloc_new w _
theorem ArcBx.after {w w' : World} {b : Nat} {f s : Int} {u : Bool} {t : Int} (h : ArcBx w b f s u t) (hb : Below w.heap.size w w') : ArcBx w' b f s u t := (hb.block b (Array.getElem?_eq_some_iff.1 h).1).trans h
theorem ArcBx.grown {w w' : World} {b : Nat} {f s : Int} {u : Bool} {t : Int} {B : Nat} {v : Value} {n : Nat} {xs : List Value} (h : ArcBx w b f s u t) (hown : w.ownsRow B 106 3 v n xs) (hg : w.grownBy w' v.ownBlock) : ArcBx w' b f s u t :=
  (hg.block b (Array.getElem?_eq_some_iff.1 h).1 (fun e => owns_ne hown ⟨_, _, h⟩ (by decide) e)).trans h
theorem ArcBx.cells {w : World} {b : Nat} {f s : Int} {u : Bool} {t : Int} (h : ArcBx w b f s u t) : w.cell? ⟨b, 0, none⟩ = some (.int .i64 f) ∧ w.cell? ⟨b, 1, none⟩ = some (.int .i64 s) ∧ w.cell? ⟨b, 2, none⟩ = some (.bool u) ∧ w.cell? ⟨b, 3, none⟩ = some (.int .i64 t) := by
  unfold ArcBx at h
  refine ⟨?_, ?_, ?_, ?_⟩ <;> simp [World.cell?, h]

set_option maxRecDepth 100000 in
set_option maxHeartbeats 8000000 in
theorem violations_any (v : Value) (r : SgD) (w : World) (lo : Nat) (hv : SgAt lo w v r) (hs : SmallSg r) (hg : goodG r = true) (h8 : r.sigs.length ≤ 8) :
    Calls Try.prog 76 #[v] w (RetPv (bkL r) w) := by
  have hL := fd_sorted hg
  obtain ⟨LL, hLL⟩ : ∃ L, L = bkL r := ⟨_, rfl⟩
  rw [← hLL] at hL ⊢
  have HSO := Lib.hid hL; clear hL hLL
  have HV := Lib.hid hv
  obtain ⟨a0, c0, a1, c1, a2, c2, rfl, h_0, h_1, h_2⟩ := hv.form
  clear hv h_0 h_1
  obtain ⟨ao, cap, hvv, hc, hz⟩ := h_2
  injection hvv with e1 e2 e3
  subst e1; subst e3; clear e2
  have HF := Lib.hid hz; clear hz hc
  have KG := hs.1.1
  have KC := hs.2.1.1
  have HS := Lib.hid hs; clear hs
  have hin := fun j (hj : j < r.arcs.length) => arcV_in (arcsB_at (goodG_get hg).2.2.2.1 hj)
  have hct : ∀ j, j < r.arcs.length → hsB r (arS r.arcs j) = true → 0 ≤ arS r.arcs j ∧ arS r.arcs j < 8 := fun j _ h => by
    unfold hsB at h
    have := of_decide_eq_true h
    omega
  have hn4 : r.arcs.length ≤ 4000 := (goodG_get hg).2.1.2
  have hlen : ∀ j s, j < r.arcs.length → s ≤ r.sigs.length → (fdTo r j ++ fdRow r j s).length ≤ 32000 := fun j s hj hs => by
    have h1 := fdTo_length r j
    have h2 := fdRow_length r j s
    rw [List.length_append]
    have h3 : (j + 1) * r.sigs.length ≤ 4000 * 8 := Nat.mul_le_mul (by omega) h8
    rw [Nat.succ_mul] at h3
    omega
  have hend : (fdL r).length ≤ 1048576 := by
    have h1 := fdTo_length r r.arcs.length
    have h3 : r.arcs.length * r.sigs.length ≤ 4000 * 8 := Nat.mul_le_mul hn4 h8
    show (fdTo r r.arcs.length).length ≤ _
    omega
  have HIN := Lib.hid (fun j hj => (hin j hj).1)
  have HIT := Lib.hid (fun j hj => (hin j hj).2)
  have HCT := Lib.hid hct
  have HLE := Lib.hid hlen
  have HEN := Lib.hid hend
  clear hin hct hlen hend hg
  obtain ⟨ng, hng⟩ : ∃ n, n = r.sigs.length := ⟨_, rfl⟩
  obtain ⟨nc, hnc⟩ : ∃ n, n = r.codes.length := ⟨_, rfl⟩
  obtain ⟨na, hna⟩ : ∃ n, n = r.arcs.length := ⟨_, rfl⟩
  have hhs : hsB r = fun x => decide (0 ≤ x ∧ x < (ng : Int)) := by funext x; unfold hsB; rw [hng]
  rw [← hng, ← hnc, ← hna] at HV ⊢
  rw [← hna] at HF hn4
  rw [← hng] at KG h8
  rw [← hnc] at KC
  have HNG := Lib.hid hng
  have HNC := Lib.hid hnc
  have HNA := Lib.hid hna
  have HHS := Lib.hid hhs
  clear hng hnc hna hhs
  have hal : Below w.heap.size w (w.alloc (.cells #[.slice a0 ng c0, .slice a1 nc c1, .slice a2 na c2] 34)) := (Below.refl _ _).alloc (Nat.le_refl _) _
  have x0 : (w.alloc (.cells #[.slice a0 ng c0, .slice a1 nc c1, .slice a2 na c2] 34)).cell? ⟨w.heap.size, 0, none⟩ = some (.slice a0 ng c0) := by simp
  have x1 : (w.alloc (.cells #[.slice a0 ng c0, .slice a1 nc c1, .slice a2 na c2] 34)).cell? ⟨w.heap.size, 1, none⟩ = some (.slice a1 nc c1) := by simp
  have x2 : (w.alloc (.cells #[.slice a0 ng c0, .slice a1 nc c1, .slice a2 na c2] 34)).cell? ⟨w.heap.size, 2, none⟩ = some (.slice a2 na c2) := by simp
  go_enter Try.func76, Try.ntmps76
  go_wp2_with fail
  generalize w.alloc (.cells #[.slice a0 ng c0, .slice a1 nc c1, .slice a2 na c2] 34) = W at x0 x1 x2 hal ⊢
  have zW := hal.size
  have HVW := Lib.hid (HV.out.keep (Carries.of lo hal))
  refine (excitations_any _ r (hsB r) 121 (.agg #[.slice a0 ng c0, .slice a1 nc c1, .slice a2 na c2]) W lo HVW.out HS.out HIN.out HCT.out (enters_of Try.func121 (by kernel_rfl) rfl) (fun x W2 _ => by rw [HHS.out]; exact sgHasSignal_any a0 a1 a2 ng c0 nc c1 na c2 x W2 KG)).mono ?_
  rintro e W2 ⟨b, rfl, hbW, hrow, hb⟩
  rw [← HNC.out, ← HNA.out] at hrow
  rw [← HNC.out]
  have x0 := cell_carry x0 (Carries.of 0 hb)
  have x1 := cell_carry x1 (Carries.of 0 hb)
  have x2 := cell_carry x2 (Carries.of 0 hb)
  have hw2 : Below w.heap.size w W2 := hal.trans (hb.mono zW)
  have z2 := hw2.size
  have HRW := Lib.hid hrow
  have HV2 := Lib.hid (HV.out.keep (Carries.of lo hw2))
  clear hb hrow hal HVW HCT
  go_wp2_with fail
  go_loopw [4, 5, 6, 7, 15] (fun out _ _ _ c wr => ∃ j : Nat, j ≤ na ∧ c = .int .i64 j ∧ Hid (PRow W2.heap.size wr out (fdTo r j)) ∧ Below W2.heap.size W2 wr) (fun _ _ _ _ c _ => na - (intOf c).toNat)
  case atStart => exact ⟨0, Nat.zero_le _, rfl, PRow.nil _ _, Below.refl _ _⟩
  case round =>
    obtain ⟨j, hj, rfl, HG, hb1⟩ := hrel
    have zo := hb1.size
    have x0' := cell_carry x0 (Carries.of 0 hb1)
    by_cases hlt : j < na
    · rcases HF.out with h0 | ⟨bA, off, rfl, hlo, hcell⟩
      · omega
      obtain ⟨wo, hwo⟩ : ∃ wo, wo = wr := ⟨_, rfl⟩
      subst hwo
      have hbo : Below w.heap.size w wo := hw2.trans (hb1.mono z2)
      obtain ⟨p0, p1, p2, p3⟩ := hcell j hlt
      have d0 := Carries.of lo hbo _ _ hlo p0
      have d1 := Carries.of lo hbo _ _ hlo p1
      have d2 := Carries.of lo hbo _ _ hlo p2
      have d3 := Carries.of lo hbo _ _ hlo p3
      have hjr : j < r.arcs.length := by rw [← HNA.out]; exact hlt
      have hif := HIN.out j hjr
      have hit := HIT.out j hjr
      rw [← HNC.out] at hif hit
      have HP : Hid (∀ s : Nat, pvP r j s = (exTo r (hsB r) na (arF r.arcs j).toNat s && (!exTo r (hsB r) na (arT r.arcs j).toNat s && !((arS r.arcs j == (s : Int)) || (inB r (arS r.arcs j) && inB r (s : Int)))))) := fun s => by unfold pvP mdB; rw [HNA.out]
      have HY : Hid (∀ t : Nat, pvP r j t = true → fdRow r j (t + 1) = fdRow r j t ++ [(arF r.arcs j, (t : Int), (j : Int))]) := fun t h => fdRow_yes h
      clear hcell p0 p1 p2 p3 hbo
      try dsimp only at d0 d1 d2 d3
      generalize arF r.arcs j = f1 at d0 HP HY hif
      generalize arS r.arcs j = s1 at d1 HP
      generalize arU r.arcs j = u1 at d2
      generalize arT r.arcs j = t1 at d3 HP hit
      obtain ⟨f, rfl⟩ := Int.eq_ofNat_of_zero_le hif.1
      obtain ⟨t, rfl⟩ := Int.eq_ofNat_of_zero_le hit.1
      have hfn : f < nc := by omega
      have htn : t < nc := by omega
      have hba : Below wo.heap.size wo (wo.alloc (.cells #[.int .i64 (f : Int), .int .i64 s1, .bool u1, .int .i64 (t : Int)] 153)) := (Below.refl _ _).alloc (Nat.le_refl _) _
      have y0 := cell_carry x0' (Carries.of 0 hba)
      clear x0'
      go_wp2_with fail
      have AI := ArcBx.new wo f s1 u1 t
      have hza : (wo.alloc (.cells #[.int .i64 (f : Int), .int .i64 s1, .bool u1, .int .i64 (t : Int)] 153)).heap.size = wo.heap.size + 1 := by simp
      generalize wo.alloc (.cells #[.int .i64 (f : Int), .int .i64 s1, .bool u1, .int .i64 (t : Int)] 153) = wa at hba AI hza y0 ⊢
      have zwa := hba.size
      have hb3 : Below W2.heap.size W2 wa := hb1.trans (hba.mono zo)
      have HGa := Lib.hid (show PRow W2.heap.size wa _ (fdTo r j) from owns_after HG.out hba)
      clear d0 d1 d2 d3 hba HG hza
      go_loopw [4, 7, 23] (fun out _ c wr => ∃ s : Nat, s ≤ ng ∧ c = .int .i64 s ∧ Hid (PRow W2.heap.size wr out (fdTo r j ++ fdRow r j s)) ∧ Hid (ArcBx wr wo.heap.size f s1 u1 t) ∧ Below W2.heap.size W2 wr) (fun _ _ c _ => ng - (intOf c).toNat)
      case atStart =>
        refine ⟨0, Nat.zero_le _, rfl, ?_, AI, hb3⟩
        rw [fdRow_zero, List.append_nil]; exact HGa.out
      case round =>
        obtain ⟨s, hs1, rfl, HG2, HAI, hb2⟩ := hrel
        have zr := hb2.size
        have g0 := cell_carry x0 (Carries.of 0 hb2)
        have g1 := cell_carry x1 (Carries.of 0 hb2)
        have g2 := cell_carry x2 (Carries.of 0 hb2)
        obtain ⟨k0, k1, k2, k3⟩ := HAI.out.cells
        by_cases hst : s < ng
        · have hs8 : s < 8 := by omega
          have ix1 : f * 8 + s < nc * 8 := by omega
          have ix2 : t * 8 + s < nc * 8 := by omega
          have hrw := HRW.out.of_block (hb2.block _ HRW.out.lt)
          have r0 := hrw.cell ix1
          have r1 := hrw.cell ix2
          rw [exV_at hs8] at r0 r1
          have hP := HP.out s
          rw [Int.toNat_natCast, Int.toNat_natCast] at hP
          have hY := HY.out s
          have HNOW : Hid (pvP r j s = false → fdRow r j (s + 1) = fdRow r j s) := fun h => fdRow_no h
          have hle := HLE.out j s hjr (by rw [← HNG.out]; omega)
          have HVr := Lib.hid (HV2.out.keep (Carries.of lo hb2))
          have hMD := mayDisable_any _ r (f : Int) s1 u1 (t : Int) (s : Int) wr lo HVr.out HS.out
          generalize exTo r (hsB r) na f s = E1 at r0 hP
          generalize exTo r (hsB r) na t s = E2 at r1 hP
          generalize ((s1 == (s : Int)) || (inB r s1 && inB r (s : Int))) = M at hP hMD
          have HMD := Lib.hid hMD
          have HLS := Lib.hid hle
          clear hrw hMD hle ix1 ix2
          cases E1 with
          | false =>
            have hno := HNOW.out hP
            have HG5 := Lib.hid (show PRow W2.heap.size wr u4 (fdTo r j ++ fdRow r j (s + 1)) by rw [hno]; exact HG2.out)
            clear hP hY hno HNOW HG2 HMD
            go_wp2_with fail
            go_roundw
            case rel => exact ⟨s + 1, by omega, by go_num, HG5, HAI, hb2⟩
            case measure => simp [intOf]; omega
          | true =>
            cases E2 with
            | true =>
              have hno := HNOW.out hP
              have HG5 := Lib.hid (show PRow W2.heap.size wr u4 (fdTo r j ++ fdRow r j (s + 1)) by rw [hno]; exact HG2.out)
              clear hP hY hno HNOW HG2 HMD
              go_wp2_with fail
              go_roundw
              case rel => exact ⟨s + 1, by omega, by go_num, HG5, HAI, hb2⟩
              case measure => simp [intOf]; omega
            | false =>
              have HP5 := Lib.hid hP; clear hP
              have HY5 := Lib.hid hY; clear hY
              go_wp2_with fail
              refine HMD.out.mono ?_
              rintro e W5 ⟨rfl, hb5⟩
              have hw5 : Below W2.heap.size W2 W5 := hb2.trans (hb5.mono zr)
              have HG5 := Lib.hid (show PRow W2.heap.size W5 _ (fdTo r j ++ fdRow r j s) from owns_after HG2.out hb5)
              have HA5 := Lib.hid (HAI.out.after hb5)
              obtain ⟨q0, q1, q2, q3⟩ := HA5.out.cells
              have z5 := hw5.size
              clear hb5 HG2 HAI k0 k1 k2 k3 r0 r1 g0 g1 g2
              cases M with
              | true =>
                have hno := HNOW.out HP5.out
                have HG6 := Lib.hid (show PRow W2.heap.size W5 u4 (fdTo r j ++ fdRow r j (s + 1)) by rw [hno]; exact HG5.out)
                clear hno HG5
                go_wp2_with fail
                go_roundw
                case rel => exact ⟨s + 1, by omega, by go_num, HG6, HA5, hw5⟩
                case measure => simp [intOf]; omega
              | false =>
                have HE := Lib.hid (HY5.out HP5.out)
                go_wp2_with (refine wpList_append_pv rfl (.tmp 50) (.tmp 56) rfl W2.heap.size _ (fdTo r j ++ fdRow r j s) rfl (World.ownsRow.alloc HG5.out _) _ ((f : Int), (s : Int), (j : Int)) rfl (by simp) (by simp) (by simp) (Nat.le_trans HLS.out (by decide)) (by simp; omega) ?_; intro v' w' hown' hgrow)
                have hw6 : Below W2.heap.size W2 w' := (hw5.alloc z5 _).grown hgrow (by simp; omega) (fun g hg => (HG5.out.lt g hg).1)
                have HG6 := Lib.hid (show PRow W2.heap.size w' v' (fdTo r j ++ fdRow r j (s + 1)) by rw [HE.out, ← List.append_assoc]; exact hown')
                have HA6 := Lib.hid ((HA5.out.after ((Below.refl _ _).alloc (Nat.le_refl _) _)).grown (World.ownsRow.alloc HG5.out _) hgrow)
                clear hown' hgrow HG5 HE q0 q1 q2 q3 HA5
                go_wp2_with fail
                go_roundw
                case rel => exact ⟨s + 1, by omega, by go_num, HG6, HA6, hw6⟩
                case measure => simp [intOf]; omega
        · obtain rfl : s = ng := by omega
          have HG5 := Lib.hid (show PRow W2.heap.size wr u4 (fdTo r (j + 1)) by rw [fdTo_succ, ← HNG.out]; exact HG2.out)
          clear HG2 k0 k1 k2 k3
          go_wp2_with fail
          go_roundw
          case rel => exact ⟨j + 1, by omega, by go_num, HG5, hb2⟩
          case measure => simp [intOf]; omega
    · obtain rfl : j = na := by omega
      have hG := HG.out
      rw [HNA.out] at hG
      have HSP := Lib.hid (sortPV_any W2.heap.size u4 (fdL r) wr hG HEN.out)
      have hlt4 := Lib.hid (fun g hg => (hG.lt g hg).1)
      clear HG hG
      go_wp2_with fail
      refine HSP.out.mono ?_
      rintro e W6 ⟨rfl, hrow, hgr⟩
      rw [HSO.out] at hrow
      have hw6 : Below W2.heap.size W2 W6 := hb1.grown hgr zo hlt4.out
      have HR := Lib.hid (hrow.low z2)
      obtain ⟨av, cv, rfl⟩ := hrow.form
      clear hrow hgr
      go_wp2_with fail
      go_ret
      exact ⟨_, rfl, HR.out, hw2.trans (hw6.mono z2)⟩

set_option maxRecDepth 100000 in
set_option maxHeartbeats 2000000 in
theorem PersistencyViolations_any (v : Value) (r : SgD) (w : World) (lo : Nat) (hv : SgAt lo w v r) (hs : SmallSg r) :
    Calls Try.prog 31 #[v] w (RetPvb w (pvL r) (goodG r)) := by
  have HV := Lib.hid hv
  obtain ⟨a0, c0, a1, c1, a2, c2, rfl, h_0, h_1, h_2⟩ := hv.form
  clear hv h_0 h_1 h_2
  have HS := Lib.hid hs; clear hs
  obtain ⟨ng, hng⟩ : ∃ n, n = r.sigs.length := ⟨_, rfl⟩
  obtain ⟨nc, hnc⟩ : ∃ n, n = r.codes.length := ⟨_, rfl⟩
  obtain ⟨na, hna⟩ : ∃ n, n = r.arcs.length := ⟨_, rfl⟩
  have e4 : goodG r = false → pvL r = [] := pvL_no
  have e5 : goodG r = true → pvL r = bkL r := pvL_yes
  obtain ⟨LL, hL⟩ : ∃ L, L = pvL r := ⟨_, rfl⟩
  rw [← hL] at e4 e5 ⊢
  obtain ⟨G, hG⟩ : ∃ G, G = goodG r := ⟨_, rfl⟩
  rw [← hG] at e4 e5 ⊢
  have HGG := Lib.hid hG
  have E4 := Lib.hid e4
  have E5 := Lib.hid e5
  rw [← hng, ← hnc, ← hna] at HV ⊢
  clear hG e4 e5 hL hng hnc hna
  have x0 : (w.alloc (.cells #[.slice a0 ng c0, .slice a1 nc c1, .slice a2 na c2] 34)).cell? ⟨w.heap.size, 0, none⟩ = some (.slice a0 ng c0) := by simp
  have x1 : (w.alloc (.cells #[.slice a0 ng c0, .slice a1 nc c1, .slice a2 na c2] 34)).cell? ⟨w.heap.size, 1, none⟩ = some (.slice a1 nc c1) := by simp
  have x2 : (w.alloc (.cells #[.slice a0 ng c0, .slice a1 nc c1, .slice a2 na c2] 34)).cell? ⟨w.heap.size, 2, none⟩ = some (.slice a2 na c2) := by simp
  have hal : Below w.heap.size w (w.alloc (.cells #[.slice a0 ng c0, .slice a1 nc c1, .slice a2 na c2] 34)) := (Below.refl _ _).alloc (Nat.le_refl _) _
  go_enter Try.func31, Try.ntmps31
  go_wp2_with fail
  generalize w.alloc (.cells #[.slice a0 ng c0, .slice a1 nc c1, .slice a2 na c2] 34) = W0 at x0 x1 x2 hal ⊢
  refine (IsValidSg_any _ r _ lo (HV.out.keep (Carries.of lo hal)) HS.out).mono ?_
  rintro e W ⟨rfl, hb⟩
  have hW : Below w.heap.size w W := hal.trans (hb.mono hal.size)
  have x0 := cell_carry x0 (Carries.of 0 hb)
  have x1 := cell_carry x1 (Carries.of 0 hb)
  have x2 := cell_carry x2 (Carries.of 0 hb)
  have zW := hW.size
  clear hb hal
  rw [← HGG.out]
  cases hg : G with
  | false =>
    have el := E4.out hg
    subst el
    subst hg
    go_wp2_with fail
    go_ret2
    exact ⟨_, rfl, PRow.nil _ _, hW⟩
  | true =>
  have HE := Lib.hid (E5.out hg)
  have HGT := Lib.hid (HGG.out.symm.trans hg)
  subst hg
  go_wp2_with fail
  refine (violations_any _ r W lo (HV.out.keep (Carries.of lo hW)) HS.out HGT.out (of_decide_eq_true (Bool.and_eq_true_iff.1 (goodG_get HGT.out).1).2).2).mono ?_
  rintro e W2 ⟨v2, rfl, hrow, hb2⟩
  have hw : Below w.heap.size w W2 := hW.trans (hb2.mono zW)
  have hR := Lib.hid (show PRow w.heap.size W2 v2 LL by rw [HE.out]; exact hrow.low zW)
  obtain ⟨av, cv, rfl⟩ := hR.out.form
  clear hrow hb2
  go_wp2_with fail
  go_ret2
  exact ⟨_, rfl, hR.out, hw⟩

end Go.Proofs.Ytgmnknlnlmcmfaa
