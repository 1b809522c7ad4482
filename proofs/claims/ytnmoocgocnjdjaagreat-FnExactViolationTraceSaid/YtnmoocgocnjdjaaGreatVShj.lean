/- WALKS: violations, PersistencyViolations of the program.
   WALK: labelText of the program; the word of a label.
   CONTRACTS OF THE LIBRARY at this program, laid by program (gen/layshelf.py): Tryz.strings_Join_none Tryz.strings_Join -/
import Derived.BigRegion
import Derived.Test.YtnmoocgocnjdjaaGreatVUne
import Derived.Test.YtnmoocgocnjdjaaGreatVSigas
import Derived.Test.YtnmoocgocnjdjaaGreatVSgj
import Derived.Shelf.Strings.OnBuilder
import Derived.Test.YtnmoocgocnjdjaaGreatVSrt
namespace Go.Proofs.YtnmoocgocnjdjaaGreat
open Go.RowKit Go.Shelf

theorem exV_at {r : SgD} {cnt : Int → Bool} {j f s : Nat} (h : s < 8) : exV r cnt j (f * 8 + s) = .bool (exTo r cnt j f s) := by
  have e1 : (f * 8 + s) / 8 = f := by omega
  have e2 : (f * 8 + s) % 8 = s := by omega
  unfold exV
  rw [e1, e2]
def pvL (r : SgD) : List Mv := if goodG r = true then bkL r else []
theorem pvL_no {r : SgD} (h : goodG r = false) : pvL r = [] := by unfold pvL; rw [h]; rfl
theorem pvL_yes {r : SgD} (h : goodG r = true) : pvL r = bkL r := by unfold pvL; rw [h]; rfl
theorem pvL_small (r : SgD) : (pvL r).length ≤ 1048576 := by
  cases h : goodG r with
  | false => rw [pvL_no h]; exact Nat.zero_le _
  | true =>
    rw [pvL_yes h, ← (fd_perm h).length_eq]
    have h1 := fdTo_length r r.arcs.length
    have h8 : r.sigs.length ≤ 8 := (of_decide_eq_true (Bool.and_eq_true_iff.1 (goodG_get h).1).2).2
    have h3 : r.arcs.length * r.sigs.length ≤ 4000 * 8 := Nat.mul_le_mul (goodG_get h).2.1.2 h8
    show (fdTo r r.arcs.length).length ≤ _
    omega
def RetPvb (w : World) (L : List Mv) (b : Bool) (e : Ending) (w' : World) : Prop := ∃ v, e = .returned (.tuple #[v, .bool b]) ∧ PRow w.heap.size w' v L ∧ Below w.heap.size w w'
def RetPv (L : List Mv) (w : World) : Ending → World → Prop := fun e w' => ∃ v, e = .returned v ∧ PRow w.heap.size w' v L ∧ Below w.heap.size w w'
/-- an arc in a block of its own -/
def ArcBx (w : World) (b : Nat) (f s : Int) (u : Bool) (t : Int) : Prop := w.heap[b]? = some (.cells #[.int .i64 f, .int .i64 s, .bool u, .int .i64 t] 138)
theorem ArcBx.new (w : World) (f s : Int) (u : Bool) (t : Int) : ArcBx (w.alloc (.cells #[.int .i64 f, .int .i64 s, .bool u, .int .i64 t] 138)) w.heap.size f s u t := heap_alloc_new w _
theorem ArcBx.after {w w' : World} {b : Nat} {f s : Int} {u : Bool} {t : Int} (h : ArcBx w b f s u t) (hb : Below w.heap.size w w') : ArcBx w' b f s u t := (hb.block b (Array.getElem?_eq_some_iff.1 h).1).trans h
theorem ArcBx.grown {w w' : World} {b : Nat} {f s : Int} {u : Bool} {t : Int} {B : Nat} {v : Value} {n : Nat} {xs : List Value} (h : ArcBx w b f s u t) (hown : w.ownsRow B 82 3 v n xs) (hg : w.grownBy w' v.ownBlock) : ArcBx w' b f s u t :=
  (hg.block b (Array.getElem?_eq_some_iff.1 h).1 (fun e => owns_ne hown ⟨_, _, h⟩ (by decide) e)).trans h
theorem ArcBx.cells {w : World} {b : Nat} {f s : Int} {u : Bool} {t : Int} (h : ArcBx w b f s u t) : w.cell? ⟨b, 0, none⟩ = some (.int .i64 f) ∧ w.cell? ⟨b, 1, none⟩ = some (.int .i64 s) ∧ w.cell? ⟨b, 2, none⟩ = some (.bool u) ∧ w.cell? ⟨b, 3, none⟩ = some (.int .i64 t) := by
  unfold ArcBx at h
  refine ⟨?_, ?_, ?_, ?_⟩ <;> simp [World.cell?, h]

set_option maxRecDepth 100000 in
set_option maxHeartbeats 8000000 in
theorem violations_any (v : Value) (r : SgD) (w : World) (lo : Nat) (hv : SgAt lo w v r) (hs : SmallSg r) (hg : goodG r = true) (h8 : r.sigs.length ≤ 8) :
    Calls Tryz.prog 93 #[v] w (RetPv (bkL r) w) := by
  have hL := fd_sorted hg
  obtain ⟨LL, hLL⟩ : ∃ L, L = bkL r := ⟨_, rfl⟩
  rw [← hLL] at hL ⊢
  have HSO := Lib.hid hL; clear hL hLL
  have HV := Lib.hid hv
  obtain ⟨a0, c0, a1, c1, a2, c2, rfl, h_0, h_1, h_2⟩ := hv.form
  clear hv h_0 h_1
  obtain ⟨ao, cap, hvv, hc, hz⟩ := h_2
  injection hvv with e1 e2 e3
  subst e1; subst e3; clear e2
  have HF := Lib.hid hz; clear hz hc
  have KG := hs.1.1
  have KC := hs.2.1.1
  have HS := Lib.hid hs; clear hs
  have hin := fun j (hj : j < r.arcs.length) => arcV_in (arcsB_at (goodG_get hg).2.2.2.1 hj)
  have hct : ∀ j, j < r.arcs.length → hsB r (arS r.arcs j) = true → 0 ≤ arS r.arcs j ∧ arS r.arcs j < 8 := fun j _ h => by
    unfold hsB at h
    have := of_decide_eq_true h
    omega
  have hn4 : r.arcs.length ≤ 4000 := (goodG_get hg).2.1.2
  have hlen : ∀ j s, j < r.arcs.length → s ≤ r.sigs.length → (fdTo r j ++ fdRow r j s).length ≤ 32000 := fun j s hj hs => by
    have h1 := fdTo_length r j
    have h2 := fdRow_length r j s
    rw [List.length_append]
    have h3 : (j + 1) * r.sigs.length ≤ 4000 * 8 := Nat.mul_le_mul (by omega) h8
    rw [Nat.succ_mul] at h3
    omega
  have hend : (fdL r).length ≤ 1048576 := by
    have h1 := fdTo_length r r.arcs.length
    have h3 : r.arcs.length * r.sigs.length ≤ 4000 * 8 := Nat.mul_le_mul hn4 h8
    show (fdTo r r.arcs.length).length ≤ _
    omega
  have HIN := Lib.hid (fun j hj => (hin j hj).1)
  have HIT := Lib.hid (fun j hj => (hin j hj).2)
  have HCT := Lib.hid hct
  have HLE := Lib.hid hlen
  have HEN := Lib.hid hend
  clear hin hct hlen hend hg
  obtain ⟨ng, hng⟩ : ∃ n, n = r.sigs.length := ⟨_, rfl⟩
  obtain ⟨nc, hnc⟩ : ∃ n, n = r.codes.length := ⟨_, rfl⟩
  obtain ⟨na, hna⟩ : ∃ n, n = r.arcs.length := ⟨_, rfl⟩
  have hhs : hsB r = fun x => decide (0 ≤ x ∧ x < (ng : Int)) := by funext x; unfold hsB; rw [hng]
  rw [← hng, ← hnc, ← hna] at HV ⊢
  rw [← hna] at HF hn4
  rw [← hng] at KG h8
  rw [← hnc] at KC
  have HNG := Lib.hid hng
  have HNC := Lib.hid hnc
  have HNA := Lib.hid hna
  have HHS := Lib.hid hhs
  clear hng hnc hna hhs
  have hal : Below w.heap.size w (w.alloc (.cells #[.slice a0 ng c0, .slice a1 nc c1, .slice a2 na c2] 80)) := (Below.refl _ _).alloc (Nat.le_refl _) _
  have x0 : (w.alloc (.cells #[.slice a0 ng c0, .slice a1 nc c1, .slice a2 na c2] 80)).cell? ⟨w.heap.size, 0, none⟩ = some (.slice a0 ng c0) := by simp
  have x1 : (w.alloc (.cells #[.slice a0 ng c0, .slice a1 nc c1, .slice a2 na c2] 80)).cell? ⟨w.heap.size, 1, none⟩ = some (.slice a1 nc c1) := by simp
  have x2 : (w.alloc (.cells #[.slice a0 ng c0, .slice a1 nc c1, .slice a2 na c2] 80)).cell? ⟨w.heap.size, 2, none⟩ = some (.slice a2 na c2) := by simp
  go_enter Tryz.func93, Tryz.ntmps93
  go_wp2_with fail
  generalize w.alloc (.cells #[.slice a0 ng c0, .slice a1 nc c1, .slice a2 na c2] 80) = W at x0 x1 x2 hal ⊢
  have zW := hal.size
  have HVW := Lib.hid (HV.out.keep (Carries.of lo hal))
  refine (excitations_any _ r (hsB r) 151 (.agg #[.slice a0 ng c0, .slice a1 nc c1, .slice a2 na c2]) W lo HVW.out HS.out HIN.out HCT.out (enters_of Tryz.func151 (by kernel_rfl) rfl) (fun x W2 _ => by rw [HHS.out]; exact sgHasSignal_any a0 a1 a2 ng c0 nc c1 na c2 x W2 KG)).mono ?_
  rintro e W2 ⟨b, rfl, hbW, hrow, hb⟩
  rw [← HNC.out, ← HNA.out] at hrow
  rw [← HNC.out]
  have x0 := cell_carry x0 (Carries.of 0 hb)
  have x1 := cell_carry x1 (Carries.of 0 hb)
  have x2 := cell_carry x2 (Carries.of 0 hb)
  have hw2 : Below w.heap.size w W2 := hal.trans (hb.mono zW)
  have z2 := hw2.size
  have HRW := Lib.hid hrow
  have HV2 := Lib.hid (HV.out.keep (Carries.of lo hw2))
  clear hb hrow hal HVW HCT
  go_wp2_with fail
  go_loopw [4, 5, 6, 7, 15] (fun out _ _ _ c wr => ∃ j : Nat, j ≤ na ∧ c = .int .i64 j ∧ Hid (PRow W2.heap.size wr out (fdTo r j)) ∧ Below W2.heap.size W2 wr) (fun _ _ _ _ c _ => na - (intOf c).toNat)
  case atStart => exact ⟨0, Nat.zero_le _, rfl, PRow.nil _ _, Below.refl _ _⟩
  case round =>
    obtain ⟨j, hj, rfl, HG, hb1⟩ := hrel
    have zo := hb1.size
    have x0' := cell_carry x0 (Carries.of 0 hb1)
    by_cases hlt : j < na
    · rcases HF.out with h0 | ⟨bA, off, rfl, hlo, hcell⟩
      · omega
      obtain ⟨wo, hwo⟩ : ∃ wo, wo = wr := ⟨_, rfl⟩
      subst hwo
      have hbo : Below w.heap.size w wo := hw2.trans (hb1.mono z2)
      obtain ⟨p0, p1, p2, p3⟩ := hcell j hlt
      have d0 := Carries.of lo hbo _ _ hlo p0
      have d1 := Carries.of lo hbo _ _ hlo p1
      have d2 := Carries.of lo hbo _ _ hlo p2
      have d3 := Carries.of lo hbo _ _ hlo p3
      have hjr : j < r.arcs.length := by rw [← HNA.out]; exact hlt
      have hif := HIN.out j hjr
      have hit := HIT.out j hjr
      rw [← HNC.out] at hif hit
      have HP : Hid (∀ s : Nat, pvP r j s = (exTo r (hsB r) na (arF r.arcs j).toNat s && (!exTo r (hsB r) na (arT r.arcs j).toNat s && !((arS r.arcs j == (s : Int)) || (inB r (arS r.arcs j) && inB r (s : Int)))))) := fun s => by unfold pvP mdB; rw [HNA.out]
      have HY : Hid (∀ t : Nat, pvP r j t = true → fdRow r j (t + 1) = fdRow r j t ++ [(arF r.arcs j, (t : Int), (j : Int))]) := fun t h => fdRow_yes h
      clear hcell p0 p1 p2 p3 hbo
      try dsimp only at d0 d1 d2 d3
      generalize arF r.arcs j = f1 at d0 HP HY hif
      generalize arS r.arcs j = s1 at d1 HP
      generalize arU r.arcs j = u1 at d2
      generalize arT r.arcs j = t1 at d3 HP hit
      obtain ⟨f, rfl⟩ := Int.eq_ofNat_of_zero_le hif.1
      obtain ⟨t, rfl⟩ := Int.eq_ofNat_of_zero_le hit.1
      have hfn : f < nc := by omega
      have htn : t < nc := by omega
      have hba : Below wo.heap.size wo (wo.alloc (.cells #[.int .i64 (f : Int), .int .i64 s1, .bool u1, .int .i64 (t : Int)] 138)) := (Below.refl _ _).alloc (Nat.le_refl _) _
      have y0 := cell_carry x0' (Carries.of 0 hba)
      clear x0'
      go_wp2_with fail
      have AI := ArcBx.new wo f s1 u1 t
      have hza : (wo.alloc (.cells #[.int .i64 (f : Int), .int .i64 s1, .bool u1, .int .i64 (t : Int)] 138)).heap.size = wo.heap.size + 1 := by simp
      generalize wo.alloc (.cells #[.int .i64 (f : Int), .int .i64 s1, .bool u1, .int .i64 (t : Int)] 138) = wa at hba AI hza y0 ⊢
      have zwa := hba.size
      have hb3 : Below W2.heap.size W2 wa := hb1.trans (hba.mono zo)
      have HGa := Lib.hid (show PRow W2.heap.size wa _ (fdTo r j) from owns_after HG.out hba)
      clear d0 d1 d2 d3 hba HG hza
      go_loopw [4, 7, 23] (fun out _ c wr => ∃ s : Nat, s ≤ ng ∧ c = .int .i64 s ∧ Hid (PRow W2.heap.size wr out (fdTo r j ++ fdRow r j s)) ∧ Hid (ArcBx wr wo.heap.size f s1 u1 t) ∧ Below W2.heap.size W2 wr) (fun _ _ c _ => ng - (intOf c).toNat)
      case atStart =>
        refine ⟨0, Nat.zero_le _, rfl, ?_, AI, hb3⟩
        rw [fdRow_zero, List.append_nil]; exact HGa.out
      case round =>
        obtain ⟨s, hs1, rfl, HG2, HAI, hb2⟩ := hrel
        have zr := hb2.size
        have g0 := cell_carry x0 (Carries.of 0 hb2)
        have g1 := cell_carry x1 (Carries.of 0 hb2)
        have g2 := cell_carry x2 (Carries.of 0 hb2)
        obtain ⟨k0, k1, k2, k3⟩ := HAI.out.cells
        by_cases hst : s < ng
        · have hs8 : s < 8 := by omega
          have ix1 : f * 8 + s < nc * 8 := by omega
          have ix2 : t * 8 + s < nc * 8 := by omega
          have hrw := HRW.out.of_block (hb2.block _ HRW.out.lt)
          have r0 := hrw.cell ix1
          have r1 := hrw.cell ix2
          rw [exV_at hs8] at r0 r1
          have hP := HP.out s
          rw [Int.toNat_natCast, Int.toNat_natCast] at hP
          have hY := HY.out s
          have HNOW : Hid (pvP r j s = false → fdRow r j (s + 1) = fdRow r j s) := fun h => fdRow_no h
          have hle := HLE.out j s hjr (by rw [← HNG.out]; omega)
          have HVr := Lib.hid (HV2.out.keep (Carries.of lo hb2))
          have hMD := mayDisable_any _ r (f : Int) s1 u1 (t : Int) (s : Int) wr lo HVr.out HS.out
          generalize exTo r (hsB r) na f s = E1 at r0 hP
          generalize exTo r (hsB r) na t s = E2 at r1 hP
          generalize ((s1 == (s : Int)) || (inB r s1 && inB r (s : Int))) = M at hP hMD
          have HMD := Lib.hid hMD
          have HLS := Lib.hid hle
          clear hrw hMD hle ix1 ix2
          cases E1 with
          | false =>
            have hno := HNOW.out hP
            have HG5 := Lib.hid (show PRow W2.heap.size wr u4 (fdTo r j ++ fdRow r j (s + 1)) by rw [hno]; exact HG2.out)
            clear hP hY hno HNOW HG2 HMD
            go_wp2_with fail
            go_roundw
            case rel => exact ⟨s + 1, by omega, by go_num, HG5, HAI, hb2⟩
            case measure => simp [intOf]; omega
          | true =>
            cases E2 with
            | true =>
              have hno := HNOW.out hP
              have HG5 := Lib.hid (show PRow W2.heap.size wr u4 (fdTo r j ++ fdRow r j (s + 1)) by rw [hno]; exact HG2.out)
              clear hP hY hno HNOW HG2 HMD
              go_wp2_with fail
              go_roundw
              case rel => exact ⟨s + 1, by omega, by go_num, HG5, HAI, hb2⟩
              case measure => simp [intOf]; omega
            | false =>
              have HP5 := Lib.hid hP; clear hP
              have HY5 := Lib.hid hY; clear hY
              go_wp2_with fail
              refine HMD.out.mono ?_
              rintro e W5 ⟨rfl, hb5⟩
              have hw5 : Below W2.heap.size W2 W5 := hb2.trans (hb5.mono zr)
              have HG5 := Lib.hid (show PRow W2.heap.size W5 _ (fdTo r j ++ fdRow r j s) from owns_after HG2.out hb5)
              have HA5 := Lib.hid (HAI.out.after hb5)
              obtain ⟨q0, q1, q2, q3⟩ := HA5.out.cells
              have z5 := hw5.size
              clear hb5 HG2 HAI k0 k1 k2 k3 r0 r1 g0 g1 g2
              cases M with
              | true =>
                have hno := HNOW.out HP5.out
                have HG6 := Lib.hid (show PRow W2.heap.size W5 u4 (fdTo r j ++ fdRow r j (s + 1)) by rw [hno]; exact HG5.out)
                clear hno HG5
                go_wp2_with fail
                go_roundw
                case rel => exact ⟨s + 1, by omega, by go_num, HG6, HA5, hw5⟩
                case measure => simp [intOf]; omega
              | false =>
                have HE := Lib.hid (HY5.out HP5.out)
                go_wp2_with (refine wpList_append_pv rfl (.tmp 50) (.tmp 56) rfl W2.heap.size _ (fdTo r j ++ fdRow r j s) rfl (World.ownsRow.alloc HG5.out _) _ ((f : Int), (s : Int), (j : Int)) rfl (by simp) (by simp) (by simp) (Nat.le_trans HLS.out (by decide)) (by simp; omega) ?_; intro v' w' hown' hgrow)
                have hw6 : Below W2.heap.size W2 w' := (hw5.alloc z5 _).grown hgrow (by simp; omega) (fun g hg => (HG5.out.lt g hg).1)
                have HG6 := Lib.hid (show PRow W2.heap.size w' v' (fdTo r j ++ fdRow r j (s + 1)) by rw [HE.out, ← List.append_assoc]; exact hown')
                have HA6 := Lib.hid ((HA5.out.after ((Below.refl _ _).alloc (Nat.le_refl _) _)).grown (World.ownsRow.alloc HG5.out _) hgrow)
                clear hown' hgrow HG5 HE q0 q1 q2 q3 HA5
                go_wp2_with fail
                go_roundw
                case rel => exact ⟨s + 1, by omega, by go_num, HG6, HA6, hw6⟩
                case measure => simp [intOf]; omega
        · obtain rfl : s = ng := by omega
          have HG5 := Lib.hid (show PRow W2.heap.size wr u4 (fdTo r (j + 1)) by rw [fdTo_succ, ← HNG.out]; exact HG2.out)
          clear HG2 k0 k1 k2 k3
          go_wp2_with fail
          go_roundw
          case rel => exact ⟨j + 1, by omega, by go_num, HG5, hb2⟩
          case measure => simp [intOf]; omega
    · obtain rfl : j = na := by omega
      have hG := HG.out
      rw [HNA.out] at hG
      have HSP := Lib.hid (sortPV_any W2.heap.size u4 (fdL r) wr hG HEN.out)
      have hlt4 := Lib.hid (fun g hg => (hG.lt g hg).1)
      clear HG hG
      go_wp2_with fail
      refine HSP.out.mono ?_
      rintro e W6 ⟨rfl, hrow, hgr⟩
      rw [HSO.out] at hrow
      have hw6 : Below W2.heap.size W2 W6 := hb1.grown hgr zo hlt4.out
      have HR := Lib.hid (hrow.low z2)
      obtain ⟨av, cv, rfl⟩ := hrow.form
      clear hrow hgr
      go_wp2_with fail
      go_ret
      exact ⟨_, rfl, HR.out, hw2.trans (hw6.mono z2)⟩

end Go.Proofs.YtnmoocgocnjdjaaGreat

namespace Go.Proofs.YtnmoocgocnjdjaaGreat
open Go.RowKit

/-- the word of a label -/
def wordL (ss : List Sig) (a : Int) (u : Bool) : ByteArray := if a < 0 then ⟨#[126]⟩ else sgN ss a.toNat ++ (if u = true then ⟨#[43]⟩ else ⟨#[45]⟩)
def LabIn (n : Nat) (a : Int) (u : Bool) : Prop := (0 ≤ a ∧ a < n) ∨ (a = -1 ∧ u = false)
theorem wordL_none {ss : List Sig} {a : Int} {u : Bool} (h : a < 0) : wordL ss a u = ⟨#[126]⟩ := by unfold wordL; rw [if_pos h]
theorem wordL_up {ss : List Sig} {k : Nat} : wordL ss (k : Int) true = sgN ss k ++ ⟨#[43]⟩ := by unfold wordL; rw [if_neg (by omega)]; rfl
theorem wordL_down {ss : List Sig} {k : Nat} : wordL ss (k : Int) false = sgN ss k ++ ⟨#[45]⟩ := by unfold wordL; rw [if_neg (by omega)]; rfl
theorem wordL_size {ss : List Sig} {a : Int} {u : Bool} (h : SmallSigs ss) (hin : LabIn ss.length a u) : (wordL ss a u).size ≤ 1048577 := by
  rcases hin with ⟨h0, h1⟩ | ⟨rfl, rfl⟩
  · obtain ⟨k, rfl⟩ : ∃ k : Nat, a = (k : Int) := ⟨a.toNat, by omega⟩
    have hk := h.2 k (by omega)
    cases u
    · rw [wordL_down, ByteArray.size_append]; show _ + 1 ≤ _; omega
    · rw [wordL_up, ByteArray.size_append]; show _ + 1 ≤ _; omega
  · rw [wordL_none (by omega)]; show (1 : Nat) ≤ _; omega

set_option maxRecDepth 100000 in
set_option maxHeartbeats 1000000 in
theorem labelText_any (p : Int) (a0 a2 : Option Addr) (m c0 nl c2 : Nat) (vs : Value) (ss : List Sig) (a : Int) (u : Bool) (w : World) (lo : Nat) (hv : SigsAt lo w vs ss) (hs : SmallSigs ss) (hin : LabIn ss.length a u) :
    Calls Tryz.prog 158 #[.agg #[.int .i64 p, .slice a0 m c0, vs, .slice a2 nl c2], .agg #[.int .i64 a, .bool u]] w (RetV w (.string (wordL ss a u))) := by
  obtain ⟨ao, cap, rfl, hc, hz⟩ := hv
  obtain ⟨R, hR⟩ : ∃ x, x = wordL ss a u := ⟨_, rfl⟩
  rw [← hR]
  have HR := Lib.hid hR; clear hR
  have HF := Lib.hid hz; clear hz
  have HS := Lib.hid hs.2
  have hsl := hs.1
  clear hs
  go_enter Tryz.func158, Tryz.ntmps158
  go_wp2_with fail
  refine (isDummy_any _ _ _).mono ?_
  rintro e w1 ⟨rfl, hb⟩
  have hw1 : Below w.heap.size w w1 := by
    refine Below.trans ?_ (hb.mono ?_)
    · (repeat' (first | (with_reducible exact Below.refl _ _) | (with_reducible assumption) | (with_reducible refine Below.alloc ?_ ?_ _) | (with_reducible refine Below.drew ?_) | (with_reducible refine below_drewN ?_ _) | (with_reducible refine Below.setCell ?_ ?_ _) | go_size))
    · simp; omega
  have x1 : w1.cell? ⟨w.heap.size, 2, none⟩ = some (.slice ao ss.length cap) := cell_carry (by simp) (Carries.of 0 hb)
  have y0 : w1.cell? ⟨w.heap.size + 1, 0, none⟩ = some (.int .i64 a) := cell_carry (by simp) (Carries.of 0 hb)
  have y1 : w1.cell? ⟨w.heap.size + 1, 1, none⟩ = some (.bool u) := cell_carry (by simp) (Carries.of 0 hb)
  clear hb
  rcases hin with ⟨h0, h1⟩ | ⟨rfl, rfl⟩
  · obtain ⟨k, rfl⟩ : ∃ k : Nat, a = (k : Int) := ⟨a.toNat, by omega⟩
    have hk : k < ss.length := by omega
    rcases HF.out with h | ⟨b, off, rfl, hlo, hcell⟩
    · omega
    have d0 := Carries.of lo hw1 _ _ hlo (hcell k hk).1
    try dsimp only at d0
    have hsz := HS.out k hk
    clear hcell
    have hd : (decide ((k : Int) = -1) && !u) = false := by rw [decide_eq_false (by omega)]; rfl
    rw [hd]; clear hd
    have e := HR.out
    cases u with
    | true =>
      rw [wordL_up] at e
      generalize sgN ss k = nm at d0 hsz e
      subst e
      go_wp2_with fail
      go_ret
      exact ⟨rfl, hw1⟩
    | false =>
      rw [wordL_down] at e
      generalize sgN ss k = nm at d0 hsz e
      subst e
      go_wp2_with fail
      go_ret
      exact ⟨rfl, hw1⟩
  · have e := HR.out
    rw [wordL_none (by omega)] at e
    subst e
    have hd : (decide ((-1 : Int) = -1) && !false) = true := rfl
    rw [hd]; clear hd
    go_wp2_with fail
    go_ret
    exact ⟨rfl, hw1⟩


end Go.Proofs.YtnmoocgocnjdjaaGreat

namespace Go.Proofs
open Go.Shelf
def Tryz.lays156_ren : Go.Shelf.Ren := ⟨fun | 156 => 160 | 165 => 197 | 166 => 198 | 169 => 199 | 240 => 229 | 241 => 230 | 276 => 241 | 277 => 242 | n => n, fun | 31 => 69 | 9 => 9 | 3 => 3 | 4 => 4 | 0 => 0 | 20 => 20 | 72 => 243 | 76 => 247 | 70 => 241 | 37 => 166 | 75 => 246 | 127 => 269 | 164 => 281 | 5 => 5 | 80 => 249 | n => n, fun | n => n⟩
theorem Tryz.lays156 : Go.Proofs.Lays.n156 Tryz.prog Tryz.lays156_ren := {
  mixed := by kernel_rfl
  f156 := Tryz.func160.trans (congrArg some (by kernel_rfl))
  f165 := Tryz.func197.trans (congrArg some (by kernel_rfl))
  f166 := Tryz.func198.trans (congrArg some (by kernel_rfl))
  f169 := Tryz.func199.trans (congrArg some (by kernel_rfl))
  f240 := Tryz.func229.trans (congrArg some (by kernel_rfl))
  f241 := Tryz.func230.trans (congrArg some (by kernel_rfl))
  f276 := Tryz.func241.trans (congrArg some (by kernel_rfl))
  f277 := Tryz.func242.trans (congrArg some (by kernel_rfl))
  t0 := Tryz.underlying0
  a0 := Tryz.isAgg0
  z0 := Tryz.sizeOf0
  v0 := Tryz.zeroValue0
  t3 := Tryz.underlying3
  a3 := Tryz.isAgg3
  z3 := Tryz.sizeOf3
  v3 := Tryz.zeroValue3
  t4 := Tryz.underlying4
  a4 := Tryz.isAgg4
  z4 := Tryz.sizeOf4
  v4 := Tryz.zeroValue4
  t9 := Tryz.underlying9
  a9 := Tryz.isAgg9
  z9 := Tryz.sizeOf9
  v9 := Tryz.zeroValue9
  t20 := Tryz.underlying20
  a20 := Tryz.isAgg20
  z20 := Tryz.sizeOf20
  v20 := Tryz.zeroValue20
  t31 := Tryz.underlying69
  a31 := Tryz.isAgg69
  z31 := Tryz.sizeOf69
  v31 := Tryz.zeroValue69
  t37 := Tryz.underlying166
  a37 := Tryz.isAgg166
  z37 := Tryz.sizeOf166
  v37 := Tryz.zeroValue166
  t70 := Tryz.underlying241
  a70 := Tryz.isAgg241
  z70 := Tryz.sizeOf241
  v70 := Tryz.zeroValue241
  t72 := Tryz.underlying243
  a72 := Tryz.isAgg243
  z72 := Tryz.sizeOf243
  v72 := Tryz.zeroValue243
  t75 := Tryz.underlying246
  a75 := Tryz.isAgg246
  z75 := Tryz.sizeOf246
  v75 := Tryz.zeroValue246
  t76 := Tryz.underlying247
  a76 := Tryz.isAgg247
  z76 := Tryz.sizeOf247
  v76 := Tryz.zeroValue247
  t127 := Tryz.underlying269
  a127 := Tryz.isAgg269
  z127 := Tryz.sizeOf269
  v127 := Tryz.zeroValue269
  t164 := Tryz.underlying281
  a164 := Tryz.isAgg281
  z164 := Tryz.sizeOf281
  v164 := Tryz.zeroValue281 }
theorem Tryz.Builder_Extra_156 : Builder.Extra Tryz.prog Tryz.lays156_ren := {
  sizeBuilder := by kernel_rfl
  liesBuilder := by kernel_rfl
  t5 := Tryz.underlying5
  a5 := Tryz.isAgg5
  z5 := Tryz.sizeOf5
  v5 := Tryz.zeroValue5
  infoByte := by kernel_rfl
  cellsByte := by kernel_rfl
  sizeByte := by kernel_rfl
  neB5 := by decide }
open Go.RowKit in
/-- No element: the empty string; the world is as it was. (Whatever the slice's address and capacity: a nil slice too.) (LAID: no walk: one application.) -/
theorem Tryz.strings_Join_none (a : Option Addr) (c : Nat) (sep : ByteArray) (w : World) :
    Calls Tryz.prog 160 #[.slice a 0 c, .string sep] w fun e w' => e = .returned (.string ⟨#[]⟩) ∧ w' = w := Any.strings_Join_none Tryz.lays156 Tryz.Builder_Extra_156 a c sep w
open Go.RowKit in
/-- strings.Join: "Join concatenates the elements of its first argument to create a single string. The separator string sep is placed between elements in the resulting string.": HOWEVER MANY ELEMENTS. Below the heap's end the world is as it was. (LAID: no walk: one application.) -/
theorem Tryz.strings_Join (bk o c : Nat) (xs : List ByteArray) (sep : ByteArray) (w : World) (hcells : ∀ (j : Nat) x, xs[j]? = some x → w.cell? ⟨bk, o + j, none⟩ = some (.string x)) (hbk : bk < w.heap.size) (hN : xs.length ≤ 140737488355328) (hcap : xs.length ≤ c) (hlen : (Lib.join (xs.map (·.data.toList)) sep.data.toList).length ≤ 140737488355328) :
    Calls Tryz.prog 160 #[.slice (some ⟨bk, o, none⟩) xs.length c, .string sep] w fun e w' => e = .returned (.string ⟨(Lib.join (xs.map (·.data.toList)) sep.data.toList).toArray⟩) ∧ Below w.heap.size w w' := Any.strings_Join Tryz.lays156 Tryz.Builder_Extra_156 bk o c xs sep w hcells hbk hN hcap hlen
end Go.Proofs
