/- WALKS: l6Ways of the model. -/
import Derived.Test.YtgmnknlnlmcmfaaVEcq
namespace Go.Proofs.Ytgmnknlnlmcmfaa
open Go.RowKit

/-- an arc in a block of its own -/
def ArcIn (w : World) (b : Nat) (f s : Int) (u : Bool) (t : Int) : Prop := w.heap[b]? = some (.cells #[.int .i64 f, .int .i64 s, .bool u, .int .i64 t] 153)
theorem ArcIn.new (w : World) (f s : Int) (u : Bool) (t : Int) : ArcIn (w.alloc (.cells #[.int .i64 f, .int .i64 s, .bool u, .int .i64 t] 153)) w.heap.size f s u t := heap_alloc_new w _
theorem ArcIn.after {w w' : World} {b : Nat} {f s : Int} {u : Bool} {t : Int} (h : ArcIn w b f s u t) (hb : Below w.heap.size w w') : ArcIn w' b f s u t := (hb.block b (Array.getElem?_eq_some_iff.1 h).1).trans h
theorem ArcIn.grown {w w' : World} {b : Nat} {f s : Int} {u : Bool} {t : Int} {B : Nat} {v : Value} {n : Nat} {xs : List Value} (h : ArcIn w b f s u t) (hown : w.ownsRow B 28 1 v n xs) (hg : w.grownBy w' v.ownBlock) : ArcIn w' b f s u t :=
  (hg.block b (Array.getElem?_eq_some_iff.1 h).1 (fun e => owns_ne hown ⟨_, _, h⟩ (by decide) e)).trans h
theorem ArcIn.cells {w : World} {b : Nat} {f s : Int} {u : Bool} {t : Int} (h : ArcIn w b f s u t) : w.cell? ⟨b, 0, none⟩ = some (.int .i64 f) ∧ w.cell? ⟨b, 1, none⟩ = some (.int .i64 s) ∧ w.cell? ⟨b, 3, none⟩ = some (.int .i64 t) := by
  unfold ArcIn at h
  refine ⟨?_, ?_, ?_⟩ <;> simp [World.cell?, h]

def fkM (r : SgD) (i k : Nat) : Bool := (arF r.arcs i == arF r.arcs k) && ((arS r.arcs i == arS r.arcs k) && (decide (0 ≤ arS r.arcs i) && (arT r.arcs i != arT r.arcs k)))
theorem fk_same {r : SgD} (hg : goodG r = true) : prL (fkC r) r.arcs.length = prL (fkM r) r.arcs.length := by
  refine prL_congr fun i k hik hk => ?_
  have hl := arcV_lab (arcsB_at (goodG_get hg).2.2.2.1 (Nat.lt_trans hik hk))
  have he : (arS r.arcs i != -1) = decide (0 ≤ arS r.arcs i) := by
    by_cases h : 0 ≤ arS r.arcs i
    · rw [decide_eq_true h, bne_iff_ne]; omega
    · rw [decide_eq_false h]
      rw [labV_out (fun q => h q.1)] at hl
      have : arS r.arcs i = -1 := by simpa using (Bool.and_eq_true_iff.1 hl).1
      rw [this]; rfl
  unfold fkC fkM
  rw [he]

set_option maxRecDepth 100000 in
set_option maxHeartbeats 4000000 in
theorem l6Ways_any (v : Value) (r : SgD) (w : World) (lo : Nat) (hv : SgAt lo w v r) (hn : r.arcs.length ≤ 4000) :
    Calls Try.prog 73 #[v] w (RetRr w (prZ (fkM r) r.arcs.length)) := by
  obtain ⟨a0, c0, a1, c1, a2, c2, rfl, h_0, h_1, h_2⟩ := hv.form
  clear hv h_0 h_1
  obtain ⟨ao, cap, hvv, hc, hz⟩ := h_2
  injection hvv with e1 e2 e3
  subst e1; subst e3; clear e2
  have HF := Lib.hid hz; clear hz
  obtain ⟨f, hf⟩ : ∃ f, f = fkM r := ⟨_, rfl⟩
  have HE : Hid (∀ i k : Nat, f i k = ((arF r.arcs i == arF r.arcs k) && ((arS r.arcs i == arS r.arcs k) && (decide (0 ≤ arS r.arcs i) && (arT r.arcs i != arT r.arcs k))))) := fun i k => by rw [hf]; rfl
  rw [← hf]
  clear hf
  obtain ⟨ng, hng⟩ : ∃ n, n = r.sigs.length := ⟨_, rfl⟩
  obtain ⟨nc, hnc⟩ : ∃ n, n = r.codes.length := ⟨_, rfl⟩
  obtain ⟨na, hna⟩ : ∃ n, n = r.arcs.length := ⟨_, rfl⟩
  rw [← hna] at hn HF hc
  rw [← hng, ← hnc, ← hna]
  clear hng hnc hna
  have hal : Below w.heap.size w (w.alloc (.cells #[.slice a0 ng c0, .slice a1 nc c1, .slice a2 na c2] 34)) := (Below.refl _ _).alloc (Nat.le_refl _) _
  have x2 : (w.alloc (.cells #[.slice a0 ng c0, .slice a1 nc c1, .slice a2 na c2] 34)).cell? ⟨w.heap.size, 2, none⟩ = some (.slice a2 na c2) := by simp
  go_enter Try.func73, Try.ntmps73
  go_wp2_with fail
  generalize w.alloc (.cells #[.slice a0 ng c0, .slice a1 nc c1, .slice a2 na c2] 34) = W0 at x2 hal ⊢
  have z0 := hal.size
  go_loopw [3, 4, 5, 6, 7, 11] (fun out _ _ _ _ c wr => ∃ i : Nat, i ≤ na ∧ c = .int .i64 i ∧ Hid (RowsG W0.heap.size wr out ((prTo f na i).map prI)) ∧ Below W0.heap.size W0 wr) (fun _ _ _ _ _ c _ => na - (intOf c).toNat)
  case atStart => exact ⟨0, Nat.zero_le _, rfl, RowsG.nil _ _, Below.refl _ _⟩
  case round =>
    obtain ⟨i, hi, rfl, HG, hb1⟩ := hrel
    have zo := hb1.size
    by_cases hlt : i < na
    · rcases HF.out with h0 | ⟨b, off, rfl, hlo, hcell⟩
      · omega
      obtain ⟨wo, hwo⟩ : ∃ wo, wo = wr := ⟨_, rfl⟩
      subst hwo
      have hbo : Below w.heap.size w wo := hal.trans (hb1.mono z0)
      obtain ⟨p0, p1, p2, p3⟩ := hcell i hlt
      have d0 := Carries.of lo hbo _ _ hlo p0
      have d1 := Carries.of lo hbo _ _ hlo p1
      have d2 := Carries.of lo hbo _ _ hlo p2
      have d3 := Carries.of lo hbo _ _ hlo p3
      have HCL := Lib.hid hcell
      have HEI := Lib.hid (HE.out i)
      clear hcell p0 p1 p2 p3 hbo
      try dsimp only at d0 d1 d2 d3
      generalize arF r.arcs i = f1 at d0 HEI
      generalize arS r.arcs i = s1 at d1 HEI
      generalize arU r.arcs i = u1 at d2
      generalize arT r.arcs i = t1 at d3 HEI
      go_wp2_with fail
      have hba : Below wo.heap.size wo (wo.alloc (.cells #[.int .i64 f1, .int .i64 s1, .bool u1, .int .i64 t1] 153)) := (Below.refl _ _).alloc (Nat.le_refl _) _
      have AI := ArcIn.new wo f1 s1 u1 t1
      generalize wo.alloc (.cells #[.int .i64 f1, .int .i64 s1, .bool u1, .int .i64 t1] 153) = wa at hba AI ⊢
      have zwa := hba.size
      have hb3 : Below W0.heap.size W0 wa := hb1.trans (hba.mono zo)
      have HGa := Lib.hid (HG.out.after hba)
      clear d0 d1 d2 d3 hba HG
      go_loopw [3, 6, 7] (fun out kv _ wr => ∃ k : Nat, i + 1 ≤ k ∧ k ≤ na ∧ kv = .int .i64 k ∧ Hid (RowsG W0.heap.size wr out ((prTo f na i ++ prRow f i k).map prI)) ∧ Hid (ArcIn wr wo.heap.size f1 s1 u1 t1) ∧ Below W0.heap.size W0 wr) (fun _ kv _ _ => na - (intOf kv).toNat)
      case atStart =>
        refine ⟨i + 1, Nat.le_refl _, hlt, by go_num, ?_, AI, hb3⟩
        rw [prRow_start (Nat.le_refl _), List.append_nil]; exact HGa.out
      case round =>
        obtain ⟨k, hk1, hk2, rfl, HG2, HAI, hb2⟩ := hrel
        have zr := hb2.size
        have x2' := cell_carry x2 (Carries.of 0 hb2)
        obtain ⟨y0, y1, y3⟩ := HAI.out.cells
        by_cases hkt : k < na
        · have hbb : Below w.heap.size w wr := hal.trans (hb2.mono z0)
          obtain ⟨p0, p1, p2, p3⟩ := HCL.out k hkt
          have d0 := Carries.of lo hbb _ _ hlo p0
          have d1 := Carries.of lo hbb _ _ hlo p1
          have d2 := Carries.of lo hbb _ _ hlo p2
          have d3 := Carries.of lo hbb _ _ hlo p3
          have hfe := HEI.out k
          clear p0 p1 p2 p3 hbb
          try dsimp only at d0 d1 d2 d3
          generalize arF r.arcs k = f2 at d0 hfe
          generalize arS r.arcs k = s2 at d1 hfe
          generalize arU r.arcs k = u2 at d2
          generalize arT r.arcs k = t2 at d3 hfe
          have hal2 : ∀ o, Below wr.heap.size wr (wr.alloc o) := fun o => (Below.refl _ _).alloc (Nat.le_refl _) _
          have y0' := cell_carry y0 (Carries.of 0 (hal2 (.cells #[.int .i64 f2, .int .i64 s2, .bool u2, .int .i64 t2] 153)))
          have y1' := cell_carry y1 (Carries.of 0 (hal2 (.cells #[.int .i64 f2, .int .i64 s2, .bool u2, .int .i64 t2] 153)))
          have y3' := cell_carry y3 (Carries.of 0 (hal2 (.cells #[.int .i64 f2, .int .i64 s2, .bool u2, .int .i64 t2] 153)))
          have hle : Hid ((prTo f na i ++ prRow f i k).length ≤ 16000000) := by
            show (prTo f na i ++ prRow f i k).length ≤ 16000000
            have h1 := prL_part (f := f) (m := na) (i := i) (k := k) hlt hk2
            have h2 := prTo_length f na na
            have h3 : na * na ≤ 4000 * 4000 := Nat.mul_le_mul hn hn
            exact Nat.le_trans h1 (Nat.le_trans h2 h3)
          have hbd : Below W0.heap.size W0 (wr.alloc (.cells #[.int .i64 f2, .int .i64 s2, .bool u2, .int .i64 t2] 153)) := hb2.alloc zr _
          have HGd := Lib.hid (HG2.out.after (hal2 (.cells #[.int .i64 f2, .int .i64 s2, .bool u2, .int .i64 t2] 153)))
          have HAd := Lib.hid (HAI.out.after (hal2 (.cells #[.int .i64 f2, .int .i64 s2, .bool u2, .int .i64 t2] 153)))
          clear hal2 HG2 HAI
          by_cases hq : f i k = true
          · obtain ⟨q0, q1, q2, q3⟩ : (f1 == f2) = true ∧ (s1 == s2) = true ∧ decide (0 ≤ s1) = true ∧ (t1 != t2) = true := by
              rw [hq] at hfe
              have h := hfe.symm
              simp only [Bool.and_eq_true_iff] at h
              exact ⟨h.1, h.2.1, h.2.2.1, h.2.2.2⟩
            have HT := Lib.hid (prRow_yes (f := f) (i := i) (k := k) (by omega) hq)
            have q2' : 0 ≤ s1 := of_decide_eq_true q2
            clear hfe hq
            obtain ⟨zs, g1, g2, g3⟩ := HGd.out
            have hzl : zs.length ≤ 16000000 := by
              have h4 := congrArg List.length g3
              rw [List.length_map, List.length_map] at h4
              have h5 : (prTo f na i ++ prRow f i k).length ≤ 16000000 := hle.out
              omega
            have G1 := Lib.hid g1
            have G2 := Lib.hid g2
            have G3 := Lib.hid g3
            clear g1 g2 g3 HGd
            have eA : (wr.alloc (.cells #[.int .i64 f2, .int .i64 s2, .bool u2, .int .i64 t2] 153)).heap.size = wr.heap.size + 1 := by simp
            have hcell9 : (((wr.alloc (.cells #[.int .i64 f2, .int .i64 s2, .bool u2, .int .i64 t2] 153)).alloc (.cells #[.int .i64 (i : Int), .int .i64 (k : Int)] 3)).alloc (.cells #[.slice (some ⟨wr.heap.size + 1, 0, none⟩) 2 2] 28)).cell? ⟨wr.heap.size + 2, 0, none⟩ = some (.slice (some ⟨wr.heap.size + 1, 0, none⟩) 2 2) := by
              have h := (Boxed.new ((wr.alloc (.cells #[.int .i64 f2, .int .i64 s2, .bool u2, .int .i64 t2] 153)).alloc (.cells #[.int .i64 (i : Int), .int .i64 (k : Int)] 3)) 28 (.slice (some ⟨wr.heap.size + 1, 0, none⟩) 2 2)).cell
              simp only [World.size_alloc] at h
              exact h
            have H9 := Lib.hid hcell9
            have EA := Lib.hid eA
            clear eA hcell9
            go_wp2_with (refine wpList_append_row rfl (.tmp 54) (.tmp 58) rfl W0.heap.size _ zs.length _ rfl ((World.ownsRow.alloc G1.out _).alloc _) (wr.heap.size + 2) (.slice (some ⟨wr.heap.size + 1, 0, none⟩) 2 2) rfl H9.out rfl (by omega) (by simp; omega) ?_; intro v' w' hown' hgrow)
            have hg5 := Lib.hid (show RowsG W0.heap.size w' v' ((prTo f na i ++ prRow f i (k + 1)).map prI) by
              have h := RowsG.pair G1.out G2.out G3.out (by rw [EA.out]; omega) (by rw [EA.out]; exact hown') hgrow
              rw [HT.out, ← List.append_assoc, List.map_append]; exact h)
            have hb5 : Below W0.heap.size W0 w' := ((hbd.alloc (by simp; omega) _).alloc (by simp; omega) _).grown hgrow (by simp; omega) (fun g hg => (G1.out.lt g hg).1)
            have hai5 := Lib.hid (((HAd.out.after ((Below.refl _ _).alloc (Nat.le_refl _) _)).after ((Below.refl _ _).alloc (Nat.le_refl _) _)).grown ((World.ownsRow.alloc G1.out _).alloc _) hgrow)
            obtain ⟨av, cv, rfl⟩ := hg5.out.form
            clear hown' hgrow G1 G2 G3 H9 EA HAd
            go_wp2_with fail
            go_roundw
            case rel => exact ⟨k + 1, by omega, by omega, by go_num, hg5, hai5, hb5⟩
            case measure => simp [intOf]; omega
          · have hqf : f i k = false := by simpa using hq
            have hg5 := Lib.hid (show RowsG W0.heap.size (wr.alloc (.cells #[.int .i64 f2, .int .i64 s2, .bool u2, .int .i64 t2] 153)) u3 ((prTo f na i ++ prRow f i (k + 1)).map prI) by rw [prRow_no hqf]; exact HGd.out)
            rw [hqf] at hfe
            clear hq hqf HGd
            obtain ⟨e0, t0⟩ : ∃ y, (f1 == f2) = y := ⟨_, rfl⟩
            obtain ⟨e1, t1'⟩ : ∃ y, (s1 == s2) = y := ⟨_, rfl⟩
            obtain ⟨e3, t3⟩ : ∃ y, (t1 != t2) = y := ⟨_, rfl⟩
            rw [t0, t1', t3] at hfe
            cases e0 with
            | false =>
              clear hfe
              go_wp2_with fail
              go_roundw
              case rel => exact ⟨k + 1, by omega, by omega, by go_num, hg5, HAd, hbd⟩
              case measure => simp [intOf]; omega
            | true =>
              cases e1 with
              | false =>
                clear hfe
                go_wp2_with fail
                go_roundw
                case rel => exact ⟨k + 1, by omega, by omega, by go_num, hg5, HAd, hbd⟩
                case measure => simp [intOf]; omega
              | true =>
                by_cases e2 : 0 ≤ s1
                · have q2 : decide (0 ≤ s1) = true := decide_eq_true e2
                  rw [q2] at hfe
                  cases e3 with
                  | true => cases hfe
                  | false =>
                    clear hfe
                    go_wp2_with fail
                    go_roundw
                    case rel => exact ⟨k + 1, by omega, by omega, by go_num, hg5, HAd, hbd⟩
                    case measure => simp [intOf]; omega
                · have q2 : decide (0 ≤ s1) = false := decide_eq_false e2
                  clear hfe
                  go_wp2_with fail
                  go_roundw
                  case rel => exact ⟨k + 1, by omega, by omega, by go_num, hg5, HAd, hbd⟩
                  case measure => simp [intOf]; omega
        · obtain rfl : k = na := by omega
          have hg5 := Lib.hid (show RowsG W0.heap.size wr u3 ((prTo f k (i + 1)).map prI) by rw [prTo_succ]; exact HG2.out)
          clear HG2 y0 y1 y3
          go_wp2_with fail
          go_roundw
          case rel => exact ⟨i + 1, by omega, by go_num, hg5, hb2⟩
          case measure => simp [intOf]; omega
    · obtain rfl : i = na := by omega
      have hR := Lib.hid (HG.out.own.low z0)
      obtain ⟨av, cv, rfl⟩ := HG.out.form
      clear HG
      go_wp2_with fail
      go_ret
      exact ⟨_, rfl, hR.out, hal.trans (hb1.mono z0)⟩

end Go.Proofs.Ytgmnknlnlmcmfaa
