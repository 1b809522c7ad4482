/- WALK: explorer.searchByMarkings. -/
import Derived.Test.YtigkgfdnnfmmmaaVExf
namespace Go.Proofs.Ytigkgfdnnfmmmaa
open Go.RowKit Go.Maps

def cInt (w : World) (p : Addr) : Nat := match w.cell? p with
  | some (.int _ z) => z.toNat
  | _ => 0
theorem cInt_of {w : World} {p : Addr} {k : Nat} (h : w.cell? p = some (.int .i64 (k : Int))) : cInt w p = k := by unfold cInt; rw [h]; simp

theorem ExOk.small {n : NetD} {mx : Nat} {m0 : ByteArray} {i k t : Nat} {s : ExS} (h : ExOk n mx m0 i k t s) (hg : goodN n = true) (hx : mx ≤ 600) : s.ms.length ≤ 624 ∧ s.mv.length ≤ 1000000 ∧ k ≤ 624 ∧ t ≤ 24 := by
  have hT := (goodN_parts hg).2.2.1
  have h1 := h.mvs; have h2 := h.place; have h3 := h.kle; have h4 := h.bound; have h5 := h.tle
  have hk : k ≤ 624 := by omega
  have : k * (n.ts.length + 1) ≤ 624 * 25 := Nat.mul_le_mul hk (by omega)
  omega

/-- what a search came to -/
def RetSe (n : NetD) (ea : Bool) (mx : Nat) (m0 : ByteArray) (B E M : Nat) (w : World) (P : Int) (vt : Value) (e : Ending) (w' : World) : Prop :=
  Below B w w' ∧
  ((∃ (s : ExS) (vm vv : Value) (i k t : Nat) (kk tt : Int), exF n ea mx m0 = .done s ∧ e = .returned (.bool true) ∧ ExOk n mx m0 i k t s ∧ XpAt B E M w' P vt vm vv kk tt false s) ∨
   (∃ (s : ExS) (vm vv : Value) (i k t : Nat), exF n ea mx m0 = .bad k t s ∧ e = .returned (.bool false) ∧ ExOk n mx m0 i k t s ∧ XpAt B E M w' P vt vm vv k t true s) ∨
   (exF n ea mx m0 = .full ∧ e = .returned (.bool false) ∧ ∃ (s : ExS) (vm vv : Value) (kk tt : Int), XpAt B E M w' P vt vm vv kk tt false s))

set_option maxRecDepth 100000 in
set_option maxHeartbeats 4000000 in
theorem searchByMarkings_any (n : NetD) (m0 : ByteArray) (E M : Nat) (w0 w : World) (P : Int) (vt vm vv : Value) (lo : Nat) (h : XpAt w0.heap.size E M w P vt vm vv 0 0 false ⟨[m0], []⟩) (hb : Below w0.heap.size w0 w) (hT : TrsAt lo w0 vt n.ts) (hS : SmallTrs n.ts) (hg : goodN n = true) (hm : markB n m0 = true) :
    Calls Try.prog 64 #[.pointer (some ⟨E, 0, none⟩)] w (RetSe n false 600 m0 w0.heap.size E M w P vt) := by
  obtain ⟨at_, ct, hvt, hct, hz⟩ := id hT
  subst hvt
  obtain ⟨TN, hTN⟩ : ∃ q, q = n.ts.length := ⟨_, rfl⟩
  have h24 : TN ≤ 24 := by rw [hTN]; exact (goodN_parts hg).2.2.1
  rw [← hTN] at h hT ⊢
  have HH := Lib.hid h; have HB := Lib.hid hb; have HT := Lib.hid hT; have HS := Lib.hid hS; have HG := Lib.hid hg; have HM := Lib.hid hm; have HTN := Lib.hid hTN
  have HOK := Lib.hid (fun i k t s hx => ex_ok (ea := false) hg (by omega : 1 ≤ 600) hm i k t s hx)
  have HFI := Lib.hid (fun (i : Nat) (c : ExC) (hx : exTo n false 600 m0 i = c) hc => exF_is hg (by omega : 1 ≤ 600) hm hx hc)
  clear h hb hT hS hg hm hct hz hTN
  go_enter Try.func64, Try.ntmps64
  go_wp2_with fail
  go_loopw [] (fun wr => ∃ (i k : Nat) (s : ExS) (vm vv : Value) (tt : Int), exTo n false 600 m0 i = .on k 0 s ∧ XpAt w0.heap.size E M wr P (.slice at_ TN ct) vm vv k tt false s ∧ Below w0.heap.size w wr) (fun wr => 700 - cInt wr ⟨E, 5, none⟩)
  case atStart => exact ⟨0, 0, ⟨[m0], []⟩, _, _, 0, rfl, HH.out, Below.refl _ _⟩
  case round =>
  obtain ⟨i, k, s, vm', vv', tt, hx, hxp, hbw⟩ := hrel
  obtain ⟨ho, _⟩ := HOK.out i k 0 s hx
  obtain ⟨wo, hwo⟩ : ∃ q, q = wr := ⟨_, rfl⟩
  subst hwo
  have HX := Lib.hid hx; have HXP := Lib.hid hxp; have HO := Lib.hid ho; have HBW := Lib.hid hbw
  have hme := cInt_of hxp.c5
  have HME := Lib.hid hme
  obtain ⟨g, cm, hvm, _, _⟩ := hxp.rm.form ho.pos
  subst hvm
  obtain ⟨N, hN⟩ : ∃ q, q = s.ms.length := ⟨_, rfl⟩
  have HN := Lib.hid hN
  have c3 := hxp.c3; have c5 := hxp.c5
  rw [← hN] at c3
  have hkle : k ≤ N := by rw [hN]; exact ho.kle
  have hNb : N ≤ 600 := by rw [hN]; have := ho.bound; omega
  clear hx hxp ho hbw hme hN
  go_wp2_with fail
  refine wp_region_held_drew (S := fun w' => w'.cell? ⟨E, 3, none⟩ = some (.slice (some ⟨g, 0, none⟩) N cm) ∧ w'.cell? ⟨E, 5, none⟩ = some (.int .i64 (k : Int))) (by kernel_rfl) ⟨c3, c5⟩ (fun hHeld => ?_)
  refine tk0 (v := ?_) (by kernel_rfl) (by kernel_rfl) (by kernel_rfl) (by first | exact fun _ _ _ h => h | exact fun _ _ _ h => absurd h.1 (by simp)) (Or.inl ⟨by rfl, ?_⟩) (by assumption) ?_
  rotate_left 1
  focus (intro wx hSw; (try dsimp only at hSw); go_simp; try (with_reducible rfl))
  try simp only [Act.put, List.setIfInBounds_toArray, List.set_cons_zero, List.set_cons_succ]
  refine tk1 (v := ?_) (by kernel_rfl) (by kernel_rfl) (by kernel_rfl) (by first | exact fun _ _ _ h => h | exact fun _ _ _ h => absurd h.1 (by simp)) (Or.inl ⟨by rfl, ?_⟩) (by assumption) ?_
  rotate_left 1
  focus (intro wx hSw; (try dsimp only at hSw); go_simp; try (with_reducible rfl))
  try simp only [Act.put, List.setIfInBounds_toArray, List.set_cons_zero, List.set_cons_succ]
  refine tk2 (v := ?_) (by kernel_rfl) (by kernel_rfl) (by kernel_rfl) (by first | exact fun _ _ _ h => h | exact fun _ _ _ h => absurd h.1 (by simp)) (Or.inl ⟨by rfl, ?_⟩) (by assumption) ?_
  rotate_left 1
  focus (intro wx hSw; (try dsimp only at hSw); go_simp; try (with_reducible rfl))
  try simp only [Act.put, List.setIfInBounds_toArray, List.set_cons_zero, List.set_cons_succ]
  refine tk3 (v := ?_) (by kernel_rfl) (by kernel_rfl) (by kernel_rfl) (by first | exact fun _ _ _ h => h | exact fun _ _ _ h => absurd h.1 (by simp)) (Or.inl ⟨by rfl, ?_⟩) (by assumption) ?_
  rotate_left 1
  focus (intro wx hSw; (try dsimp only at hSw); go_simp; try (with_reducible rfl))
  try simp only [Act.put, List.setIfInBounds_toArray, List.set_cons_zero, List.set_cons_succ]
  refine tk4 (v := ?_) (by kernel_rfl) (by kernel_rfl) (by kernel_rfl) (by first | exact fun _ _ _ h => h | exact fun _ _ _ h => absurd h.1 (by simp)) (Or.inl ⟨by rfl, ?_⟩) (by assumption) ?_
  rotate_left 1
  focus (intro wx hSw; (try dsimp only at hSw); go_simp; try (with_reducible rfl))
  try simp only [Act.put, List.setIfInBounds_toArray, List.set_cons_zero, List.set_cons_succ]
  refine tk5 (v := ?_) (by kernel_rfl) (by kernel_rfl) (by kernel_rfl) (by first | exact fun _ _ _ h => h | exact fun _ _ _ h => absurd h.1 (by simp)) (Or.inl ⟨by rfl, ?_⟩) (by assumption) ?_
  rotate_left 1
  focus (intro wx hSw; (try dsimp only at hSw); go_simp; try (with_reducible rfl))
  try simp only [Act.put, List.setIfInBounds_toArray, List.set_cons_zero, List.set_cons_succ]
  refine tk6 (v := ?_) (by kernel_rfl) (by kernel_rfl) (by kernel_rfl) (by first | exact fun _ _ _ h => h | exact fun _ _ _ h => absurd h.1 (by simp)) (Or.inl ⟨by rfl, ?_⟩) (by assumption) ?_
  rotate_left 1
  focus (intro wx hSw; (try dsimp only at hSw); go_simp; try (with_reducible rfl))
  try simp only [Act.put, List.setIfInBounds_toArray, List.set_cons_zero, List.set_cons_succ]
  refine tk7 (v := ?_) (by kernel_rfl) (by kernel_rfl) (by kernel_rfl) (by first | exact fun _ _ _ h => h | exact fun _ _ _ h => absurd h.1 (by simp)) (Or.inl ⟨by rfl, ?_⟩) (by assumption) ?_
  rotate_left 1
  focus (intro wx hSw; (try dsimp only at hSw); go_simp; try (with_reducible rfl))
  try simp only [Act.put, List.setIfInBounds_toArray, List.set_cons_zero, List.set_cons_succ]
  refine tk8 (v := ?_) (by kernel_rfl) (by kernel_rfl) (by kernel_rfl) (by first | exact fun _ _ _ h => h | exact fun _ _ _ h => absurd h.1 (by simp)) (Or.inl ⟨by rfl, ?_⟩) (by assumption) ?_
  rotate_left 1
  focus (intro wx hSw; (try dsimp only at hSw); go_simp; try (with_reducible rfl))
  try simp only [Act.put, List.setIfInBounds_toArray, List.set_cons_zero, List.set_cons_succ]
  refine tk9 (v := ?_) (by kernel_rfl) (by kernel_rfl) (by kernel_rfl) (by first | exact fun _ _ _ h => h | exact fun _ _ _ h => absurd h.1 (by simp)) (Or.inl ⟨by rfl, ?_⟩) (by assumption) ?_
  rotate_left 1
  focus (intro wx hSw; (try dsimp only at hSw); go_simp; try (with_reducible rfl))
  try simp only [Act.put, List.setIfInBounds_toArray, List.set_cons_zero, List.set_cons_succ]
  refine wpAnyH_done (by kernel_rfl) ?_ _
  by_cases hlt : k < N
  case neg =>
    have hkN : ¬ k < s.ms.length := by rw [← HN.out]; exact hlt
    have hend := ex_end HX.out hkN
    have hfin := HFI.out _ _ hend rfl
    have HFN := Lib.hid hfin
    have t0 : decide ((k : Int) < (N : Int)) = false := by rw [decide_eq_false_iff_not]; omega
    clear hkN hend hfin
    go_wp2_with fail
    go_ret
    exact ⟨(HBW.out.drew), Or.inl ⟨s, _, _, i, k, 0, _, _, HFN.out, rfl, HO.out, HXP.out.after (Below.refl _ _).drew⟩⟩
  have t0 : decide ((k : Int) < (N : Int)) = true := decide_eq_true (by omega)
  have hdr : Below wo.heap.size wo wo.drew := (Below.refl _ _).drew
  have hxd := HXP.out.after hdr
  have c6 := hxd.c6; have f6 := hxd.fr 6
  have HXD := Lib.hid hxd
  have HBD := Lib.hid (HBW.out.drew)
  have HMO : Hid (700 - cInt wo ⟨E, 5, none⟩ = 700 - k) := by unfold Hid; rw [HME.out]
  clear hdr hxd
  generalize wo.drew = wq at c6 f6 HXD HBD ⊢
  have hkN : k < s.ms.length := by rw [← HN.out]; exact hlt
  have HKN := Lib.hid hkN
  clear hkN
  go_wp2_with fail
  obtain ⟨W3, hW3⟩ : ∃ q, q = wq.setCell ⟨E, 6, none⟩ (.int .i64 0) := ⟨_, rfl⟩
  rw [← hW3]
  have HX3 : Hid (XpAt w0.heap.size E M W3 P (.slice at_ TN ct) (.slice (some ⟨g, 0, none⟩) s.ms.length cm) vv' k 0 false s) := by rw [hW3]; exact HXD.out.setT 0
  have HB3 : Hid (Below w0.heap.size w W3) := by rw [hW3]; exact HBD.out.setCell (p := ⟨E, 6, none⟩) HXD.out.bE _
  clear hW3 c3 c5 c6 f6 HXP HBW HXD HBD hHeld
  rw [show decide (k < N) = true from decide_eq_true hlt]
  go_loopw [] (fun wr => ∃ (i t : Nat) (s : ExS) (vm vv : Value), exTo n false 600 m0 i = .on k t s ∧ k < s.ms.length ∧ XpAt w0.heap.size E M wr P (.slice at_ TN ct) vm vv k t false s ∧ Below w0.heap.size w wr) (fun wr => 25 - cInt wr ⟨E, 6, none⟩)
  case atStart => exact ⟨i, 0, s, _, _, HX.out, HKN.out, HX3.out, HB3.out⟩
  case round =>
  clear HX3 HB3 HX HO HN HKN hlt t0 hkle hNb HME
  obtain ⟨i, t, s, vm', vv', hx, hks, hxp, hbw⟩ := hrel
  obtain ⟨ho, _⟩ := HOK.out i k t s hx
  obtain ⟨wi, hwi⟩ : ∃ q, q = wr := ⟨_, rfl⟩
  subst hwi
  have HX := Lib.hid hx; have HXP := Lib.hid hxp; have HO := Lib.hid ho; have HBW := Lib.hid hbw; have HKS := Lib.hid hks
  have HMI : Hid (25 - cInt wi ⟨E, 6, none⟩ = 25 - t) := by unfold Hid; rw [cInt_of hxp.c6]
  obtain ⟨g, cm, hvm, _, _⟩ := hxp.rm.form ho.pos
  subst hvm
  have c1 := hxp.c1; have c6 := hxp.c6
  have htl : t ≤ TN := by rw [HTN.out]; exact ho.tle
  clear hx hxp ho hbw hks
  go_wp2_with fail
  refine wp_region_held_drew (S := fun w' => w'.cell? ⟨E, 1, none⟩ = some (.slice at_ TN ct) ∧ w'.cell? ⟨E, 6, none⟩ = some (.int .i64 (t : Int))) (by kernel_rfl) ⟨c1, c6⟩ (fun hHeld => ?_)
  refine tk0 (v := ?_) (by kernel_rfl) (by kernel_rfl) (by kernel_rfl) (by first | exact fun _ _ _ h => h | exact fun _ _ _ h => absurd h.1 (by simp)) (Or.inl ⟨by rfl, ?_⟩) (by assumption) ?_
  rotate_left 1
  focus (intro wx hSw; (try dsimp only at hSw); go_simp; try (with_reducible rfl))
  try simp only [Act.put, List.setIfInBounds_toArray, List.set_cons_zero, List.set_cons_succ]
  refine tk1 (v := ?_) (by kernel_rfl) (by kernel_rfl) (by kernel_rfl) (by first | exact fun _ _ _ h => h | exact fun _ _ _ h => absurd h.1 (by simp)) (Or.inl ⟨by rfl, ?_⟩) (by assumption) ?_
  rotate_left 1
  focus (intro wx hSw; (try dsimp only at hSw); go_simp; try (with_reducible rfl))
  try simp only [Act.put, List.setIfInBounds_toArray, List.set_cons_zero, List.set_cons_succ]
  refine tk2 (v := ?_) (by kernel_rfl) (by kernel_rfl) (by kernel_rfl) (by first | exact fun _ _ _ h => h | exact fun _ _ _ h => absurd h.1 (by simp)) (Or.inl ⟨by rfl, ?_⟩) (by assumption) ?_
  rotate_left 1
  focus (intro wx hSw; (try dsimp only at hSw); go_simp; try (with_reducible rfl))
  try simp only [Act.put, List.setIfInBounds_toArray, List.set_cons_zero, List.set_cons_succ]
  refine tk3 (v := ?_) (by kernel_rfl) (by kernel_rfl) (by kernel_rfl) (by first | exact fun _ _ _ h => h | exact fun _ _ _ h => absurd h.1 (by simp)) (Or.inl ⟨by rfl, ?_⟩) (by assumption) ?_
  rotate_left 1
  focus (intro wx hSw; (try dsimp only at hSw); go_simp; try (with_reducible rfl))
  try simp only [Act.put, List.setIfInBounds_toArray, List.set_cons_zero, List.set_cons_succ]
  refine tk4 (v := ?_) (by kernel_rfl) (by kernel_rfl) (by kernel_rfl) (by first | exact fun _ _ _ h => h | exact fun _ _ _ h => absurd h.1 (by simp)) (Or.inl ⟨by rfl, ?_⟩) (by assumption) ?_
  rotate_left 1
  focus (intro wx hSw; (try dsimp only at hSw); go_simp; try (with_reducible rfl))
  try simp only [Act.put, List.setIfInBounds_toArray, List.set_cons_zero, List.set_cons_succ]
  refine tk5 (v := ?_) (by kernel_rfl) (by kernel_rfl) (by kernel_rfl) (by first | exact fun _ _ _ h => h | exact fun _ _ _ h => absurd h.1 (by simp)) (Or.inl ⟨by rfl, ?_⟩) (by assumption) ?_
  rotate_left 1
  focus (intro wx hSw; (try dsimp only at hSw); go_simp; try (with_reducible rfl))
  try simp only [Act.put, List.setIfInBounds_toArray, List.set_cons_zero, List.set_cons_succ]
  refine tk6 (v := ?_) (by kernel_rfl) (by kernel_rfl) (by kernel_rfl) (by first | exact fun _ _ _ h => h | exact fun _ _ _ h => absurd h.1 (by simp)) (Or.inl ⟨by rfl, ?_⟩) (by assumption) ?_
  rotate_left 1
  focus (intro wx hSw; (try dsimp only at hSw); go_simp; try (with_reducible rfl))
  try simp only [Act.put, List.setIfInBounds_toArray, List.set_cons_zero, List.set_cons_succ]
  refine tk7 (v := ?_) (by kernel_rfl) (by kernel_rfl) (by kernel_rfl) (by first | exact fun _ _ _ h => h | exact fun _ _ _ h => absurd h.1 (by simp)) (Or.inl ⟨by rfl, ?_⟩) (by assumption) ?_
  rotate_left 1
  focus (intro wx hSw; (try dsimp only at hSw); go_simp; try (with_reducible rfl))
  try simp only [Act.put, List.setIfInBounds_toArray, List.set_cons_zero, List.set_cons_succ]
  refine tk8 (v := ?_) (by kernel_rfl) (by kernel_rfl) (by kernel_rfl) (by first | exact fun _ _ _ h => h | exact fun _ _ _ h => absurd h.1 (by simp)) (Or.inl ⟨by rfl, ?_⟩) (by assumption) ?_
  rotate_left 1
  focus (intro wx hSw; (try dsimp only at hSw); go_simp; try (with_reducible rfl))
  try simp only [Act.put, List.setIfInBounds_toArray, List.set_cons_zero, List.set_cons_succ]
  refine tk9 (v := ?_) (by kernel_rfl) (by kernel_rfl) (by kernel_rfl) (by first | exact fun _ _ _ h => h | exact fun _ _ _ h => absurd h.1 (by simp)) (Or.inl ⟨by rfl, ?_⟩) (by assumption) ?_
  rotate_left 1
  focus (intro wx hSw; (try dsimp only at hSw); go_simp; try (with_reducible rfl))
  try simp only [Act.put, List.setIfInBounds_toArray, List.set_cons_zero, List.set_cons_succ]
  refine tk10 (v := ?_) (by kernel_rfl) (by kernel_rfl) (by kernel_rfl) (by first | exact fun _ _ _ h => h | exact fun _ _ _ h => absurd h.1 (by simp)) (Or.inl ⟨by rfl, ?_⟩) (by assumption) ?_
  rotate_left 1
  focus (intro wx hSw; (try dsimp only at hSw); go_simp; try (with_reducible rfl))
  try simp only [Act.put, List.setIfInBounds_toArray, List.set_cons_zero, List.set_cons_succ]
  refine wpAnyH_done (by kernel_rfl) ?_ _
  have hdr : Below wi.heap.size wi wi.drew := (Below.refl _ _).drew
  have HXD := Lib.hid (HXP.out.after hdr)
  have HBD := Lib.hid (HBW.out.drew)
  clear hdr c1 c6 hHeld HXP HBW
  generalize wi.drew = wd at HXD HBD ⊢
  by_cases hlt : t < TN
  case neg =>
    have htn : ¬ t < n.ts.length := by rw [← HTN.out]; exact hlt
    have t0 : decide ((t : Int) < (TN : Int)) = false := by rw [decide_eq_false_iff_not]; omega
    obtain ⟨N, hN⟩ : ∃ q, q = s.ms.length := ⟨_, rfl⟩
    have c3 := HXD.out.c3; have c5 := HXD.out.c5; have f5 := HXD.out.fr 5
    rw [← hN] at c3
    have HN := Lib.hid hN
    have hNb : N ≤ 700 := by rw [hN]; have := HO.out.bound; omega
    have HTNN := Lib.hid htn
    clear hN htn
    by_cases hful : 600 < N
    · have t1 : decide ((N : Int) > 600) = true := decide_eq_true (by omega)
      have hr := ex_row_full HX.out HKS.out HTNN.out rfl (by rw [← HN.out]; exact hful)
      have HFN := Lib.hid (HFI.out _ _ hr rfl)
      clear hr
      go_wp2_with fail
      go_ret
      exact ⟨HBD.out, Or.inr (Or.inr ⟨HFN.out, rfl, s, _, _, _, _, HXD.out⟩)⟩
    · have t1 : decide ((N : Int) > 600) = false := by rw [decide_eq_false_iff_not]; omega
      have hr := ex_row HX.out HKS.out HTNN.out (Or.inr (by rw [← HN.out]; omega))
      have HRR := Lib.hid hr
      clear hr
      go_wp2_with fail
      have hks := (HO.out.small HG.out (by omega)).2.2.1
      have hw : wrap64 ((k : Int) + 1) = ((k + 1 : Nat) : Int) := by rw [IntWalk.wrap64_in _ ⟨by omega, by omega⟩]; rfl
      rw [hw]
      have hxk := HXD.out.setK ((k + 1 : Nat) : Int)
      refine ⟨⟨i + 1, k + 1, s, _, _, _, HRR.out, hxk, HBD.out.setCell (p := ⟨E, 5, none⟩) HXD.out.bE _⟩, ?_⟩
      rw [cInt_of hxk.c5, HMO.out]
      exact Nat.sub_lt_sub_left (Nat.lt_of_le_of_lt hks (by decide)) (Nat.lt_succ_self k)
  have t0 : decide ((t : Int) < (TN : Int)) = true := decide_eq_true (by omega)
  have htn : t < n.ts.length := by rw [← HTN.out]; exact hlt
  have HTNN := Lib.hid htn
  clear htn
  go_wp2_with fail
  refine (fire_any n E M w0 wd P _ _ _ k t s lo HXD.out (HB.out.trans HBD.out) HT.out HS.out HG.out HKS.out HTNN.out HO.out.mks HO.out.dist (by have := (HO.out.small HG.out (by omega)).1; omega) (HO.out.small HG.out (by omega)).2.1).mono ?_
  rintro e w1 ⟨hb1, hc⟩
  rcases hc with ⟨hr, rfl, vm1, vv1, hx1⟩ | ⟨hr, hk, rfl, vm1, vv1, hx1⟩ | ⟨hr, hk, rfl, vm1, vv1, hx1⟩
  · have HX1 := Lib.hid hx1
    have HB1 := Lib.hid (HBD.out.trans hb1)
    have HNX := Lib.hid (ex_not HX.out HKS.out HTNN.out hr)
    have c6 := hx1.c6; have f6 := hx1.fr 6
    clear hx1 hb1 hr
    go_wp2_with fail
    have hxk := HX1.out.setT ((t + 1 : Nat) : Int)
    go_roundw
    case rel => exact ⟨i + 1, t + 1, s, _, _, HNX.out, HKS.out, hxk, HB1.out.setCell (p := ⟨E, 6, none⟩) HX1.out.bE _⟩
    case measure =>
      have hm := cInt_of hxk.c6
      have he : ((t + 1 : Nat) : Int) = (t : Int) + 1 := rfl
      rw [he] at hm
      rw [hm, HMI.out]
      omega
  · have HX1 := Lib.hid hx1
    have HB1 := Lib.hid (HBD.out.trans hb1)
    have HFN := Lib.hid (HFI.out _ _ (ex_bad HX.out HKS.out HTNN.out hr hk) rfl)
    clear hx1 hb1 hr hk
    go_wp2_with fail
    go_ret
    exact ⟨HB1.out, Or.inr (Or.inl ⟨s, _, _, i, k, t, HFN.out, rfl, HO.out, HX1.out⟩)⟩
  · have HX1 := Lib.hid hx1
    have HB1 := Lib.hid (HBD.out.trans hb1)
    have HNX := Lib.hid (ex_fire HX.out HKS.out HTNN.out hr hk (Or.inl rfl))
    have c6 := hx1.c6; have f6 := hx1.fr 6
    clear hx1 hb1 hr hk
    go_wp2_with fail
    have hxk := HX1.out.setT ((t + 1 : Nat) : Int)
    have hlen := (exMs_length_le s.ms (exNext n (stN s.ms k) t)).1
    have hks := HKS.out
    go_roundw
    case rel => exact ⟨i + 1, t + 1, _, _, _, HNX.out, by unfold exAdd; simp only; omega, hxk, HB1.out.setCell (p := ⟨E, 6, none⟩) HX1.out.bE _⟩
    case measure =>
      have hm := cInt_of hxk.c6
      have he : ((t + 1 : Nat) : Int) = (t : Int) + 1 := rfl
      rw [he] at hm
      rw [hm, HMI.out]
      omega

end Go.Proofs.Ytigkgfdnnfmmmaa
