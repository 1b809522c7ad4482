/-
  WALKS: Deadlocks of the program and of the model.
-/
import Derived.Test.YtjelnlhalpoinaaMvf
import Derived.Test.YtjelnlhalpoinaaOvk
namespace Go.Proofs.Ytjelnlhalpoinaa
open Go.RowKit

def ddF (r : RgD) (k : Nat) : Bool := decide ((frL r (k : Int)).length = 0)
def ddL (r : RgD) : List Int := if goodR r = true then enTo (ddF r) r.marks.length else []
theorem ddL_no {r : RgD} (h : goodR r = false) : ddL r = [] := by unfold ddL; rw [h]; rfl
theorem ddL_yes {r : RgD} (h : goodR r = true) : ddL r = enTo (ddF r) r.marks.length := by unfold ddL; rw [h]; rfl
theorem ddL_small {r : RgD} (h : SmallRg r) : (ddL r).length ≤ 1048576 := by
  unfold ddL
  by_cases hb : goodR r = true
  · rw [if_pos hb]; exact Nat.le_trans (enTo_length _ _) h.1.1
  · rw [if_neg hb]; exact Nat.zero_le _

set_option maxRecDepth 100000 in
set_option maxHeartbeats 2000000 in
theorem specDeadlocks_any (v : Value) (s : RgD) (w : World) (lo : Nat) (hv : RgAt lo w v s) (hs : SmallRg s) :
    Calls Try.prog 43 #[v] w (RetOv w (ddL s) (goodR s)) := by
  obtain ⟨a0, c0, a1, c1, rfl, hm, hl⟩ := hv.form
  clear hm
  have e4 : goodR s = false → ddL s = [] := ddL_no
  have e5 : goodR s = true → ddL s = enTo (ddF s) s.marks.length := ddL_yes
  have hms := hs.2
  have hsm := hs.1.1
  have hfk : ∀ k : Nat, ddF s k = decide ((frL s (k : Int)).length = 0) := fun _ => rfl
  have hmf : goodR s = true → ∀ k : Nat, k < s.marks.length → mfL s (k : Int) = frL s (k : Int) := fun h k hk => mfL_yes (mf_in h (by omega))
  obtain ⟨f, hf⟩ : ∃ f, f = ddF s := ⟨_, rfl⟩
  obtain ⟨LL, hL⟩ : ∃ L, L = ddL s := ⟨_, rfl⟩
  rw [← hL] at e4 e5 ⊢
  rw [← hf] at e5 hfk
  clear hL hf
  obtain ⟨G, hG⟩ : ∃ G, G = goodR s := ⟨_, rfl⟩
  rw [← hG] at e4 e5 hmf ⊢
  have HGG := Lib.hid hG; clear hG
  have E4 := Lib.hid e4; clear e4
  have HFK := Lib.hid hfk; clear hfk
  have HV := Lib.hid hv; clear hv
  have HL := Lib.hid hl; clear hl
  have HS := Lib.hid hs; clear hs
  have HMS := Lib.hid hms; clear hms
  obtain ⟨nm, hnm⟩ : ∃ x, x = s.marks.length := ⟨_, rfl⟩
  obtain ⟨nv, hnv⟩ : ∃ x, x = s.moves.length := ⟨_, rfl⟩
  rw [← hnm, ← hnv] at HV ⊢
  rw [← hnv] at HL
  rw [← hnm] at e5 hsm hmf
  have E5 := Lib.hid e5; clear e5
  have HMF := Lib.hid hmf; clear hmf
  clear hnm hnv
  go_enter Try.func43, Try.ntmps43
  go_wp2_with fail
  refine (l4Good_any _ s _ lo (HV.out.keep ?_) HS.out).mono ?_
  · (repeat' (first | (with_reducible exact Carries.refl _ _) | (with_reducible assumption) | (with_reducible refine Carries.alloc ?_ _) | (with_reducible refine Carries.drew ?_) | (with_reducible refine Carries.drewN ?_ _) | (with_reducible refine Carries.set ?_ ?_ _) | go_size))
  rintro e W ⟨rfl, hb⟩
  have hW : Below w.heap.size w W := by
    refine Below.trans ?_ (hb.mono ?_)
    · (repeat' (first | (with_reducible exact Below.refl _ _) | (with_reducible assumption) | (with_reducible refine Below.alloc ?_ ?_ _) | (with_reducible refine Below.drew ?_) | (with_reducible refine below_drewN ?_ _) | (with_reducible refine Below.setCell ?_ ?_ _) | go_size))
    · simp
  have x0 : W.cell? ⟨w.heap.size, 0, none⟩ = some (.slice a0 nm c0) := cell_carry (by simp) (Carries.of 0 hb)
  have x1 : W.cell? ⟨w.heap.size, 1, none⟩ = some (.slice a1 nv c1) := cell_carry (by simp) (Carries.of 0 hb)
  have zW := hW.size
  clear hb
  rw [← HGG.out]
  cases hg : G with
  | false =>
    have el := E4.out hg
    subst el
    subst hg
    go_wp2_with fail
    go_ret2
    exact ⟨_, rfl, ow_nil _ _, hW⟩
  | true =>
  have HE := Lib.hid (E5.out hg)
  have HMF2 := Lib.hid (HMF.out hg); clear HMF
  subst hg
  go_wp2_with fail
  go_loopw [4, 14] (fun l i wr => ∃ k : Nat, k ≤ nm ∧ i = .int .i64 k ∧ Hid (wr.ownsRow W.heap.size 3 1 l (enTo f k).length (intCells (enTo f k))) ∧ Below W.heap.size W wr) (fun _ i _ => nm - (intOf i).toNat)
  case atStart => exact ⟨0, Nat.zero_le _, rfl, World.ownsRow_nil _ _ _ _, Below.refl _ _⟩
  case round =>
    obtain ⟨k, hk, rfl, hown, hb1⟩ := hrel
    have zz1 := hb1.size
    by_cases hlt : k < nm
    · have hle := enTo_length f k
      have hkk := HFK.out k
      have x0 := cell_keep x0 hb1 (Nat.le_refl _)
      have x1 := cell_keep x1 hb1 (Nat.le_refl _)
      have hen1 := fun h => enTo_true (f := f) (k := k) h
      have hen0 := fun h => enTo_false (f := f) (k := k) h
      have HEN1 := Lib.hid hen1; clear hen1
      have HEN0 := Lib.hid hen0; clear hen0
      have hsmall := mfL_small (x := (k : Int)) HS.out
      rw [HMF2.out k hlt] at hsmall
      have HKK := Lib.hid hkk; clear hkk
      go_wp2_with fail
      refine (specMovesFrom_any _ s (k : Int) _ lo (HV.out.keep (Carries.of lo (hW.trans (hb1.mono zW)))) HS.out).mono ?_
      rintro e w2 ⟨u, rfl, hr, hb⟩
      rw [HMF2.out k hlt] at hr
      obtain ⟨ar, cr, rfl⟩ := hr.form
      clear hr
      have hw2 : Below W.heap.size W w2 := hb1.trans (hb.mono zz1)
      have zz2 := hw2.size
      have HO2 := Lib.hid (owns_after hown.out hb)
      clear hown hb
      obtain ⟨n, hn⟩ : ∃ n, n = (frL s (k : Int)).length := ⟨_, rfl⟩
      rw [← hn] at HKK hsmall ⊢
      clear hn
      by_cases h0 : n = 0
      · have hd := HKK.out
        rw [decide_eq_true h0] at hd
        have HEN := Lib.hid (HEN1.out hd)
        have t0 : ((n : Int) == 0) = true := by rw [beq_iff_eq]; omega
        clear h0 hd
        go_wp2_with (refine wpList_append_ints rfl (.tmp 26) (.tmp 28) rfl W.heap.size 0 _ _ _ rfl (World.ownsRow.alloc HO2.out _) _ [(k : Int)] rfl (ints_one _ _ _) (by simp; omega) (by simp; omega) ?_; intro v' w' hown' hgrow)
        have hw4 : Below W.heap.size W w' := (hw2.alloc zz2 _).grown hgrow (by simp; omega) (fun g hg => (HO2.out.lt g hg).1)
        have HO4 := Lib.hid (show w'.ownsRow W.heap.size 3 1 v' (enTo f (k + 1)).length (intCells (enTo f (k + 1))) by rw [HEN.out, List.length_append, intCells_append]; exact hown')
        clear hown' hgrow
        go_wp2_with fail
        go_roundw
        case rel => exact ⟨k + 1, by omega, by go_num, HO4, hw4⟩
        case measure => simp [intOf]; omega
      · have hd := HKK.out
        rw [decide_eq_false h0] at hd
        have HO4 := Lib.hid (show w2.ownsRow W.heap.size 3 1 u4 (enTo f (k + 1)).length (intCells (enTo f (k + 1))) by rw [HEN0.out hd]; exact HO2.out)
        have t0 : ((n : Int) == 0) = false := by rw [beq_eq_false_iff_ne]; omega
        clear h0 hd
        go_wp2_with fail
        go_roundw
        case rel => exact ⟨k + 1, by omega, by go_num, HO4, hw2⟩
        case measure => simp [intOf]; omega
    · have hkk : k = nm := by omega
      subst hkk
      have HO2 : Hid (IntsOw w.heap.size wr u4 LL) := by
        have h := ow_of_owns (Go.Joins.ownsRow_le hown.out zW)
        rw [← HE.out] at h
        exact h
      clear hown
      go_wp2_with fail
      go_ret2
      exact ⟨_, rfl, HO2.out, hW.trans (hb1.mono zW)⟩

set_option maxRecDepth 100000 in
set_option maxHeartbeats 2000000 in
theorem Deadlocks_any (v : Value) (s : RgD) (w : World) (lo : Nat) (hv : RgAt lo w v s) (hs : SmallRg s) :
    Calls Try.prog 44 #[v] w (RetOv w (ddL s) (goodR s)) := by
  obtain ⟨a0, c0, a1, c1, rfl, hm, hl⟩ := hv.form
  clear hm
  have e4 : goodR s = false → ddL s = [] := ddL_no
  have e5 : goodR s = true → ddL s = enTo (ddF s) s.marks.length := ddL_yes
  have hms := hs.2
  have hsm := hs.1.1
  have hfk : ∀ k : Nat, ddF s k = decide ((frL s (k : Int)).length = 0) := fun _ => rfl
  have hmf : goodR s = true → ∀ k : Nat, k < s.marks.length → mfL s (k : Int) = frL s (k : Int) := fun h k hk => mfL_yes (mf_in h (by omega))
  obtain ⟨f, hf⟩ : ∃ f, f = ddF s := ⟨_, rfl⟩
  obtain ⟨LL, hL⟩ : ∃ L, L = ddL s := ⟨_, rfl⟩
  rw [← hL] at e4 e5 ⊢
  rw [← hf] at e5 hfk
  clear hL hf
  obtain ⟨G, hG⟩ : ∃ G, G = goodR s := ⟨_, rfl⟩
  rw [← hG] at e4 e5 hmf ⊢
  have HGG := Lib.hid hG; clear hG
  have E4 := Lib.hid e4; clear e4
  have HFK := Lib.hid hfk; clear hfk
  have HV := Lib.hid hv; clear hv
  have HL := Lib.hid hl; clear hl
  have HS := Lib.hid hs; clear hs
  have HMS := Lib.hid hms; clear hms
  obtain ⟨nm, hnm⟩ : ∃ x, x = s.marks.length := ⟨_, rfl⟩
  obtain ⟨nv, hnv⟩ : ∃ x, x = s.moves.length := ⟨_, rfl⟩
  rw [← hnm, ← hnv] at HV ⊢
  rw [← hnv] at HL
  rw [← hnm] at e5 hsm hmf
  have E5 := Lib.hid e5; clear e5
  have HMF := Lib.hid hmf; clear hmf
  clear hnm hnv
  go_enter Try.func44, Try.ntmps44
  go_wp2_with fail
  refine (isReach_any _ s _ lo (HV.out.keep ?_) HS.out).mono ?_
  · (repeat' (first | (with_reducible exact Carries.refl _ _) | (with_reducible assumption) | (with_reducible refine Carries.alloc ?_ _) | (with_reducible refine Carries.drew ?_) | (with_reducible refine Carries.drewN ?_ _) | (with_reducible refine Carries.set ?_ ?_ _) | go_size))
  rintro e W ⟨rfl, hb⟩
  have hW : Below w.heap.size w W := by
    refine Below.trans ?_ (hb.mono ?_)
    · (repeat' (first | (with_reducible exact Below.refl _ _) | (with_reducible assumption) | (with_reducible refine Below.alloc ?_ ?_ _) | (with_reducible refine Below.drew ?_) | (with_reducible refine below_drewN ?_ _) | (with_reducible refine Below.setCell ?_ ?_ _) | go_size))
    · simp
  have x0 : W.cell? ⟨w.heap.size, 0, none⟩ = some (.slice a0 nm c0) := cell_carry (by simp) (Carries.of 0 hb)
  have x1 : W.cell? ⟨w.heap.size, 1, none⟩ = some (.slice a1 nv c1) := cell_carry (by simp) (Carries.of 0 hb)
  have zW := hW.size
  clear hb
  rw [← HGG.out]
  cases hg : G with
  | false =>
    have el := E4.out hg
    subst el
    subst hg
    go_wp2_with fail
    go_ret2
    exact ⟨_, rfl, ow_nil _ _, hW⟩
  | true =>
  have HE := Lib.hid (E5.out hg)
  have HMF2 := Lib.hid (HMF.out hg); clear HMF
  subst hg
  go_wp2_with fail
  go_loopw [4, 12] (fun l i wr => ∃ k : Nat, k ≤ nm ∧ i = .int .i64 k ∧ Hid (wr.ownsRow W.heap.size 3 1 l (enTo f k).length (intCells (enTo f k))) ∧ Below W.heap.size W wr) (fun _ i _ => nm - (intOf i).toNat)
  case atStart => exact ⟨0, Nat.zero_le _, rfl, World.ownsRow_nil _ _ _ _, Below.refl _ _⟩
  case round =>
    obtain ⟨k, hk, rfl, hown, hb1⟩ := hrel
    have zz1 := hb1.size
    by_cases hlt : k < nm
    · have hle := enTo_length f k
      have hkk := HFK.out k
      have x0 := cell_keep x0 hb1 (Nat.le_refl _)
      have x1 := cell_keep x1 hb1 (Nat.le_refl _)
      have hen1 := fun h => enTo_true (f := f) (k := k) h
      have hen0 := fun h => enTo_false (f := f) (k := k) h
      have HEN1 := Lib.hid hen1; clear hen1
      have HEN0 := Lib.hid hen0; clear hen0
      have hsmall : (frL s (k : Int)).length ≤ 1048576 := Nat.le_trans (frTo_length _ _ _) HMS.out
      have HKK := Lib.hid hkk; clear hkk
      go_wp2_with fail
      refine (movesFromM_any _ _ _ _ s.moves (k : Int) _ lo (HL.out.keep (Carries.of lo (hW.trans (hb1.mono zW)))) HMS.out).mono ?_
      rintro e w2 ⟨u, rfl, hr, hb⟩
      change MRow _ w2 u (frL s (k : Int)) at hr
      obtain ⟨ar, cr, rfl⟩ := hr.form
      clear hr
      have hw2 : Below W.heap.size W w2 := hb1.trans (hb.mono zz1)
      have zz2 := hw2.size
      have HO2 := Lib.hid (owns_after hown.out hb)
      clear hown hb
      obtain ⟨n, hn⟩ : ∃ n, n = (frL s (k : Int)).length := ⟨_, rfl⟩
      rw [← hn] at HKK hsmall ⊢
      clear hn
      by_cases h0 : n = 0
      · have hd := HKK.out
        rw [decide_eq_true h0] at hd
        have HEN := Lib.hid (HEN1.out hd)
        have t0 : ((n : Int) == 0) = true := by rw [beq_iff_eq]; omega
        clear h0 hd
        go_wp2_with (refine wpList_append_ints rfl (.tmp 20) (.tmp 22) rfl W.heap.size 0 _ _ _ rfl (World.ownsRow.alloc HO2.out _) _ [(k : Int)] rfl (ints_one _ _ _) (by simp; omega) (by simp; omega) ?_; intro v' w' hown' hgrow)
        have hw4 : Below W.heap.size W w' := (hw2.alloc zz2 _).grown hgrow (by simp; omega) (fun g hg => (HO2.out.lt g hg).1)
        have HO4 := Lib.hid (show w'.ownsRow W.heap.size 3 1 v' (enTo f (k + 1)).length (intCells (enTo f (k + 1))) by rw [HEN.out, List.length_append, intCells_append]; exact hown')
        clear hown' hgrow
        go_wp2_with fail
        go_roundw
        case rel => exact ⟨k + 1, by omega, by go_num, HO4, hw4⟩
        case measure => simp [intOf]; omega
      · have hd := HKK.out
        rw [decide_eq_false h0] at hd
        have HO4 := Lib.hid (show w2.ownsRow W.heap.size 3 1 u4 (enTo f (k + 1)).length (intCells (enTo f (k + 1))) by rw [HEN0.out hd]; exact HO2.out)
        have t0 : ((n : Int) == 0) = false := by rw [beq_eq_false_iff_ne]; omega
        clear h0 hd
        go_wp2_with fail
        go_roundw
        case rel => exact ⟨k + 1, by omega, by go_num, HO4, hw2⟩
        case measure => simp [intOf]; omega
    · have hkk : k = nm := by omega
      subst hkk
      have HO2 : Hid (IntsOw w.heap.size wr u4 LL) := by
        have h := ow_of_owns (Go.Joins.ownsRow_le hown.out zW)
        rw [← HE.out] at h
        exact h
      clear hown
      go_wp2_with fail
      go_ret2
      exact ⟨_, rfl, HO2.out, hW.trans (hb1.mono zW)⟩

end Go.Proofs.Ytjelnlhalpoinaa
