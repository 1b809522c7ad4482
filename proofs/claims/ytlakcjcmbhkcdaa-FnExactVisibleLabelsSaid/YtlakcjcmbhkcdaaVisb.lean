/-
  WALK: VisibleLabels of the program.
-/
import Derived.Test.YtlakcjcmbhkcdaaVis
namespace Go.Proofs.Ytlakcjcmbhkcdaa
open Go.RowKit

theorem goodS_len {s : StgD} (h : goodS s = true) : s.labs.length = s.net.ts.length := by
  unfold goodS at h
  simp only [Bool.and_eq_true, decide_eq_true_eq] at h
  exact h.2.2.2
theorem goodS_lab {s : StgD} (h : goodS s = true) {j : Nat} (hj : j < s.labs.length) : (decide (lbS s.labs j = -1) && !lbU s.labs j) = !decide (0 ≤ lbS s.labs j) := by
  unfold goodS at h
  simp only [Bool.and_eq_true] at h
  have h2 := of_decide_eq_true h.2.2.1 j hj
  unfold LabOk at h2
  rcases h2 with ⟨h3, _⟩ | ⟨h3, h4⟩
  · rw [decide_eq_true h3, decide_eq_false (by omega)]; rfl
  · rw [h3, h4]; rfl

set_option maxRecDepth 100000 in
set_option maxHeartbeats 4000000 in
theorem VisibleLabels_any (v vl : Value) (s : StgD) (l : List Int) (w : World) (lo lo' : Nat) (hv : StgAt lo w v s) (hvl : IntsAt lo' w vl l) (hs : SmallStg s) (hln : l.length ≤ 1048576) :
    Calls Try.prog 49 #[v, vl] w (RetLv w (visL s l) (visB s l)) := by
  obtain ⟨a0, c0, a1, c1, a2, c2, rfl, hn, hsg, hl⟩ := hv.form
  clear hsg
  have HV := Lib.hid hv; clear hv
  have HN := Lib.hid hn; clear hn
  have hll := hs.2.2.1
  have HS := Lib.hid hs; clear hs
  obtain ⟨BB, hB⟩ : ∃ B, B = visB s l := ⟨_, rfl⟩
  obtain ⟨LL, hL⟩ : ∃ L, L = visL s l := ⟨_, rfl⟩
  rw [← hB, ← hL]
  have HB := Lib.hid hB; clear hB
  have HLL := Lib.hid hL; clear hL
  obtain ⟨p, hp⟩ : ∃ p, p = s.net.places := ⟨_, rfl⟩
  obtain ⟨m, hm⟩ : ∃ m, m = s.net.ts.length := ⟨_, rfl⟩
  obtain ⟨ns, hns⟩ : ∃ ns, ns = s.sigs.length := ⟨_, rfl⟩
  obtain ⟨ls, hls⟩ : ∃ ls, ls = s.labs := ⟨_, rfl⟩
  obtain ⟨st, hst⟩ : ∃ st, st = s.start := ⟨_, rfl⟩
  rw [← hp, ← hm, ← hns, ← hls, ← hst] at HV ⊢
  rw [← hp, ← hm] at HN
  rw [← hls] at hl hll
  have HP := Lib.hid hls
  have HM := Lib.hid hm
  clear hp hm hns hls hst
  obtain ⟨al, capl, hal, hcl, hzl⟩ := hl
  simp only [Value.slice.injEq, true_and] at hal
  obtain ⟨rfl, rfl⟩ := hal
  have HF := Lib.hid hzl; clear hzl
  have HI := Lib.hid hvl
  obtain ⟨ai, ci, rfl, hci, hzi⟩ := hvl
  have HFI := Lib.hid hzi; clear hzi
  go_enter Try.func49, Try.ntmps49
  go_wp2_with fail
  refine (IsValidSTG_any _ s _ lo (HV.out.keep ?_) HS.out).mono ?_
  · (repeat' (first | (with_reducible exact Carries.refl _ _) | (with_reducible assumption) | (with_reducible refine Carries.alloc ?_ _) | (with_reducible refine Carries.drew ?_) | (with_reducible refine Carries.drewN ?_ _) | (with_reducible refine Carries.set ?_ ?_ _) | go_size))
  rintro e w1 ⟨rfl, hb⟩
  have hw1 : Below w.heap.size w w1 := by
    refine Below.trans ?_ (hb.mono ?_)
    · (repeat' (first | (with_reducible exact Below.refl _ _) | (with_reducible assumption) | (with_reducible refine Below.alloc ?_ ?_ _) | (with_reducible refine Below.drew ?_) | (with_reducible refine below_drewN ?_ _) | (with_reducible refine Below.setCell ?_ ?_ _) | go_size))
    · simp
  have x0 : w1.cell? ⟨w.heap.size, 0, none⟩ = some (.int .i64 p) := cell_carry (by simp) (Carries.of 0 hb)
  have x1 : w1.cell? ⟨w.heap.size, 1, none⟩ = some (.slice a0 m c0) := cell_carry (by simp) (Carries.of 0 hb)
  have x2 : w1.cell? ⟨w.heap.size, 2, none⟩ = some (.slice a1 ns c1) := cell_carry (by simp) (Carries.of 0 hb)
  have x3 : w1.cell? ⟨w.heap.size, 3, none⟩ = some (.slice a2 ls.length c2) := cell_carry (by simp) (Carries.of 0 hb)
  have x4 : w1.cell? ⟨w.heap.size, 4, none⟩ = some (.string st) := cell_carry (by simp) (Carries.of 0 hb)
  have z1 : w.heap.size < w1.heap.size := by have := hb.size; simp at this; omega
  clear hb
  cases hg : goodS s with
  | false =>
    have hf : visB s l = false := by unfold visB; rw [hg]; rfl
    have e2 := HLL.out
    rw [visL_no hf] at e2
    have e1 := HB.out
    rw [hf] at e1
    subst e1; subst e2
    clear hg hf
    go_wp2_with fail
    go_ret2
    exact ⟨_, rfl, LRow.nil _ _, hw1⟩
  | true =>
  have HGS := Lib.hid hg; clear hg
  by_cases h200 : l.length ≤ 200
  case neg =>
    have hf : visB s l = false := by unfold visB; rw [decide_eq_false h200]; simp
    have e2 := HLL.out
    rw [visL_no hf] at e2
    have e1 := HB.out
    rw [hf] at e1
    subst e1; subst e2
    clear hf
    go_wp2_with fail
    go_ret2
    exact ⟨_, rfl, LRow.nil _ _, hw1⟩
  go_wp2_with fail
  refine (labelledNetOf_any _ _ _ _ _ _ _ _ _ _ _ _).mono ?_
  rintro e w3 ⟨rfl, hb⟩
  have hw3 : Below w.heap.size w w3 := hw1.trans (hb.mono hw1.size)
  have z3 : w.heap.size < w3.heap.size := by have := hb.size; omega
  clear hb hw1 z1 x0 x1 x2 x3 x4
  have hal : Below w3.heap.size w3 (w3.alloc (.cells #[.int .i64 p, .slice a0 m c0, .slice a1 ns c1, .slice a2 ls.length c2] 108)) := (Below.refl _ _).alloc (Nat.le_refl _) _
  go_wp2_with fail
  have y0 : (w3.alloc (.cells #[.int .i64 p, .slice a0 m c0, .slice a1 ns c1, .slice a2 ls.length c2] 108)).cell? ⟨w3.heap.size, 0, none⟩ = some (.int .i64 p) := by simp
  have y1 : (w3.alloc (.cells #[.int .i64 p, .slice a0 m c0, .slice a1 ns c1, .slice a2 ls.length c2] 108)).cell? ⟨w3.heap.size, 1, none⟩ = some (.slice a0 m c0) := by simp
  have y3 : (w3.alloc (.cells #[.int .i64 p, .slice a0 m c0, .slice a1 ns c1, .slice a2 ls.length c2] 108)).cell? ⟨w3.heap.size, 3, none⟩ = some (.slice a2 ls.length c2) := by simp
  have zA : w3.heap.size < (w3.alloc (.cells #[.int .i64 p, .slice a0 m c0, .slice a1 ns c1, .slice a2 ls.length c2] 108)).heap.size := by simp
  generalize w3.alloc (.cells #[.int .i64 p, .slice a0 m c0, .slice a1 ns c1, .slice a2 ls.length c2] 108) = W at hal y0 y1 y3 zA ⊢
  have hW : Below w.heap.size w W := hw3.trans (hal.mono hw3.size)
  have zW := hW.size
  have Y0 := Lib.hid y0; clear y0
  have Y1 := Lib.hid y1; clear y1
  have Y3 := Lib.hid y3; clear y3
  clear hal hw3
  go_loopw [7, 22] (fun u i wr => ∃ k : Nat, k ≤ l.length ∧ i = .int .i64 k ∧ Hid (LRow W.heap.size wr u (visTo ls l k)) ∧ Hid (AllTo 0 ((ls.length : Int) - 1) l k) ∧ Below W.heap.size W wr) (fun _ i _ => l.length - (intOf i).toNat)
  case atStart => exact ⟨0, Nat.zero_le _, rfl, LRow.nil _ _, fun i hi => absurd hi (Nat.not_lt_zero _), Below.refl _ _⟩
  case round =>
    obtain ⟨k, hk, rfl, hown, hall, hb1⟩ := hrel
    have zz1 := hb1.size
    by_cases hlt : k < l.length
    · rcases HFI.out with rfl | ⟨bi, offi, rfl, hloi, hcelli⟩
      · simp at hlt
      have ci1 := Carries.of lo' (hW.trans (hb1.mono zW)) _ _ hloi (hcelli k hlt)
      have hbad := fun h => allB_bad (lo := 0) (hi := (ls.length : Int) - 1) (l := l) hlt h
      have hsucc := fun h => hall.out.succ (k := k) h
      have hvy := fun h => visTo_yes (ls := ls) (l := l) (k := k) h
      have hvn := fun h => visTo_no (ls := ls) (l := l) (k := k) h
      have hle := visTo_length ls l k
      generalize l.getD k 0 = t at ci1 hbad hsucc hvy hvn
      have HBAD := Lib.hid hbad; clear hbad
      have HSUCC := Lib.hid hsucc; clear hsucc
      have HVY := Lib.hid hvy; clear hvy
      have HVN := Lib.hid hvn; clear hvn
      have y0 := cell_keep Y0.out hb1 (Nat.le_refl _)
      have y1 := cell_keep Y1.out hb1 (Nat.le_refl _)
      have y3 := cell_keep Y3.out hb1 (Nat.le_refl _)
      clear hcelli
      go_wp2_with fail
      refine (isTransition_any _ s.net t _ lo (HN.out.keep (Carries.of lo (hW.trans (hb1.mono zW)))) HS.out.1).mono ?_
      rintro e w5 ⟨rfl, hb⟩
      rw [← HM.out]
      have hw5 : Below W.heap.size W w5 := hb1.trans (hb.mono hb1.size)
      have zz5 := hw5.size
      have y3 := cell_carry y3 (Carries.of 0 hb)
      have HO5 := Lib.hid (owns_after hown.out hb)
      have hml : m = ls.length := by rw [HM.out, HP.out]; exact (goodS_len HGS.out).symm
      clear hb hown ci1 y0 y1
      by_cases hin : 0 ≤ t ∧ t < (m : Int)
      case neg =>
        have hf : visB s l = false := by
          have ha := HBAD.out (fun h => hin (by omega))
          unfold visB; rw [← HP.out, ha]; simp
        have e2 := HLL.out
        rw [visL_no hf] at e2
        have e1 := HB.out
        rw [hf] at e1
        subst e1; subst e2
        rw [decide_eq_false hin]
        clear hin hf hml
        go_wp2_with fail
        go_ret2
        exact ⟨_, rfl, LRow.nil _ _, hW.trans (hw5.mono zW)⟩
      rw [decide_eq_true hin]
      obtain ⟨j, rfl⟩ : ∃ j : Nat, t = (j : Int) := ⟨t.toNat, by omega⟩
      have hjl : j < ls.length := by omega
      have H2 := Lib.hid (HSUCC.out (by omega))
      have hvy := HVY.out
      have hvn := HVN.out
      simp only [Int.toNat_natCast] at hvy hvn
      rcases HF.out with h0 | ⟨b, off, rfl, hlo, hcell⟩
      · omega
      obtain ⟨q0, q1⟩ := hcell j hjl
      have d0 := Carries.of lo (hW.trans (hw5.mono zW)) _ _ hlo q0
      have d1 := Carries.of lo (hW.trans (hw5.mono zW)) _ _ hlo q1
      clear hcell q0 q1 HVY HVN HBAD HSUCC hin hml
      try dsimp only at d0 d1
      have hdum := goodS_lab HGS.out (j := j) (by rw [← HP.out]; exact hjl)
      rw [← HP.out] at hdum
      have HVY := Lib.hid hvy; clear hvy
      have HVN := Lib.hid hvn; clear hvn
      have HDM := Lib.hid hdum; clear hdum
      generalize lbS ls j = y0 at d0 HVY HVN HDM
      generalize lbU ls j = y1 at d1 HVY HVN HDM
      go_wp2_with fail
      refine (isDummy_any y0 y1 _).mono ?_
      rintro e w6 ⟨rfl, hb⟩
      rw [HDM.out]
      have hw6 : Below W.heap.size W w6 := hw5.trans (hb.mono hw5.size)
      have zz6 := hw6.size
      have y3 := cell_carry y3 (Carries.of 0 hb)
      have d0 := cell_carry d0 (Carries.of 0 hb)
      have d1 := cell_carry d1 (Carries.of 0 hb)
      have HO6 := Lib.hid (owns_after HO5.out hb)
      clear hb HO5 hw5
      by_cases hy : 0 ≤ y0
      · have HE := Lib.hid (HVY.out hy)
        rw [decide_eq_true hy]
        go_wp2_with (refine wpList_append_lab rfl (.tmp 38) (.tmp 44) rfl W.heap.size _ (visTo ls l k) rfl (World.ownsRow.alloc HO6.out _) _ y0 y1 rfl (by simp) (by simp) (by omega) (by simp; omega) ?_; intro v' w' hown' hgrow)
        have hw7 : Below W.heap.size W w' := (hw6.alloc zz6 _).grown hgrow (by simp; omega) (fun g hg => (HO6.out.lt g hg).1)
        have HO7 := Lib.hid (show LRow W.heap.size w' v' (visTo ls l (k + 1)) by rw [HE.out]; exact hown')
        clear hown' hgrow
        go_wp2_with fail
        go_roundw
        case rel => exact ⟨k + 1, by omega, by go_num, HO7.out, H2.out, hw7⟩
        case measure => simp [intOf]; omega
      · have he := HVN.out (by omega)
        have HO7 := Lib.hid (show LRow W.heap.size w6 u7 (visTo ls l (k + 1)) by rw [he]; exact HO6.out)
        rw [decide_eq_false hy]
        clear he HO6
        go_wp2_with fail
        go_roundw
        case rel => exact ⟨k + 1, by omega, by go_num, HO7.out, H2.out, hw6⟩
        case measure => simp [intOf]; omega
    · have hkk : k = l.length := by omega
      have HO2 := Lib.hid (hown.out.low zW)
      have HA2 := Lib.hid hall.out
      clear hown hall
      subst hkk
      have ha : allB 0 ((ls.length : Int) - 1) l = true := decide_eq_true HA2.out
      have hf : visB s l = true := by unfold visB; rw [HGS.out, decide_eq_true h200, ← HP.out, ha]; rfl
      have e2 := HLL.out
      rw [visL_yes hf, ← HP.out] at e2
      have e1 := HB.out
      rw [hf] at e1
      subst e1; subst e2
      clear ha hf
      go_wp2_with fail
      go_ret2
      exact ⟨_, rfl, HO2.out, hW.trans (hb1.mono zW)⟩

end Go.Proofs.Ytlakcjcmbhkcdaa
