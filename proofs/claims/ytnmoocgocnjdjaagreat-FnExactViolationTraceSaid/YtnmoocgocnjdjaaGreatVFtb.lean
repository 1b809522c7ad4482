/- WALKS: traceText, FormatTrace of the program; the text of a walk. -/
import Derived.Test.YtnmoocgocnjdjaaGreatVSgj
import Derived.Test.YtnmoocgocnjdjaaGreatVSgp
import Derived.Test.YtnmoocgocnjdjaaGreatVShj
import Derived.Test.YtnmoocgocnjdjaaGreatVNetb
import Derived.Test.YtnmoocgocnjdjaaGreatVSteps
import Derived.Deep.RegionHeld3
namespace Go.Proofs.YtnmoocgocnjdjaaGreat
open Go.RowKit

/-- the words of a walk -/
def trW (ss : List Sig) (L : List Ar) : List ByteArray := L.map fun a => wordL ss a.2.1 a.2.2.1
theorem trW_length (ss : List Sig) (L : List Ar) : (trW ss L).length = L.length := by simp [trW]
theorem trW_get {ss : List Sig} {L : List Ar} {k : Nat} (hk : k < L.length) : stN (trW ss L) k = wordL ss (arS L k) (arU L k) := by
  simp [trW, stN, arS, arU, List.getD, hk]
/-- the text of a walk: its words, a space between -/
def trT (ss : List Sig) (L : List Ar) : ByteArray := ⟨(Lib.join ((trW ss L).map (·.data.toList)) [32]).toArray⟩
/-- every arc of the walk has a label of the graph's -/
def LabsIn (n : Nat) (L : List Ar) : Prop := ∀ k, k < L.length → LabIn n (arS L k) (arU L k)

theorem labV_labIn {m : Nat} {a : Int} {u : Bool} (h : labV m a u = true) : LabIn m a u := by
  unfold labV at h
  simp only [Bool.or_eq_true, decide_eq_true_eq, Bool.and_eq_true, Bool.not_eq_true'] at h
  rcases h with h | ⟨h1, h2⟩
  · exact Or.inl h
  · exact Or.inr ⟨h1, h2⟩
theorem lens_le {xs : List (List UInt8)} {B : Nat} (h : ∀ x ∈ xs, x.length ≤ B) : Lib.lens xs ≤ xs.length * B := by
  induction xs with
  | nil => simp [Lib.lens]
  | cons x xs ih =>
    have h1 := h x (List.mem_cons_self ..)
    have h2 := ih (fun y hy => h y (List.mem_cons_of_mem _ hy))
    simp only [Lib.lens, List.map_cons, List.sum_cons, List.length_cons] at h2 ⊢
    rw [Nat.succ_mul]
    omega
theorem join_le {xs : List (List UInt8)} {B : Nat} (h : ∀ x ∈ xs, x.length ≤ B) : (Lib.join xs [32]).length ≤ xs.length * (B + 1) := by
  cases xs with
  | nil => simp [Lib.join_nil]
  | cons x r =>
    have h2 := lens_le h
    rw [Lib.join_length]
    simp only [List.length_cons, List.length_nil] at h2 ⊢
    rw [Nat.mul_add]
    omega
theorem trW_small {ss : List Sig} {L : List Ar} (hs : SmallSigs ss) (hin : LabsIn ss.length L) : ∀ x ∈ (trW ss L).map (·.data.toList), x.length ≤ 1048577 := by
  intro x hx
  obtain ⟨y, hy, rfl⟩ := List.mem_map.1 hx
  obtain ⟨k, hk, rfl⟩ := List.mem_iff_getElem.1 hy
  have hk2 : k < L.length := by rw [trW_length] at hk; exact hk
  have e : (trW ss L)[k] = wordL ss (arS L k) (arU L k) := by rw [← trW_get hk2, stN_getD hk]
  rw [e]
  exact wordL_size hs (hin k hk2)

set_option maxRecDepth 100000 in
set_option maxHeartbeats 2000000 in
theorem traceText_any (v vl : Value) (r : SgD) (L : List Ar) (w : World) (lo lo' : Nat) (hv : SgAt lo w v r) (hvl : ArcsAt lo' w vl L) (hs : SmallSg r) (hl : L.length ≤ 4001) (hin : LabsIn r.sigs.length L) :
    Calls Tryz.prog 95 #[v, vl] w (RetV w (.string (trT r.sigs L))) := by
  obtain ⟨a0, c0, a1, c1, a2, c2, rfl, h_0, hm, h_2⟩ := hv.form
  clear hv hm h_2
  obtain ⟨gs, ss, C⟩ := r
  obtain ⟨k0, k1, k2⟩ := hs
  simp only at h_0 k0 hin ⊢
  clear k1 k2
  have HG := Lib.hid h_0; clear h_0
  have HIN := Lib.hid hin; clear hin
  have K0 := Lib.hid k0; clear k0
  obtain ⟨ao, cap, rfl, hc, hz⟩ := hvl
  have HF := Lib.hid hz; clear hz
  generalize ss.length = n1
  generalize C.length = n2
  obtain ⟨m, hm⟩ : ∃ m, m = gs.length := ⟨_, rfl⟩
  rw [← hm] at HG HIN ⊢
  have HM := Lib.hid hm; clear hm
  have hmk := run_make_row' (P := Tryz.prog) 69 9 (.string ByteArray.empty) 16 Tryz.underlying69 Tryz.infoStr rfl .i64 .i64 L.length (by omega) (by omega)
  go_enter Tryz.func95, Tryz.ntmps95
  go_wp2_with fail
  obtain ⟨W, hWe⟩ : ∃ x, x = ((w.alloc (.cells #[.slice a0 m c0, .slice a1 n1 c1, .slice a2 n2 c2] 80)).alloc (.cells #[.int .i64 0, .slice none 0 0, .slice a0 m c0, .slice none 0 0] 207)).alloc (.cells (madeCells #[.string ByteArray.empty] L.length) 9) := ⟨_, rfl⟩
  have hrow0 : W.rowIs (w.heap.size + 1 + 1) 9 L.length (scopied (trW gs L) 0) := by
    rw [hWe]
    have h := (World.rowIs_made ((w.alloc (.cells #[.slice a0 m c0, .slice a1 n1 c1, .slice a2 n2 c2] 80)).alloc (.cells #[.int .i64 0, .slice none 0 0, .slice a0 m c0, .slice none 0 0] 207)) (.string ByteArray.empty) L.length 9).congr (g := scopied (trW gs L) 0) (fun i _ => by simp [scopied])
    simpa using h
  have n0 : W.cell? ⟨w.heap.size + 1, 0, none⟩ = some (.int .i64 0) := by
    rw [hWe]
    exact cell_carry (w := (w.alloc (.cells #[.slice a0 m c0, .slice a1 n1 c1, .slice a2 n2 c2] 80)).alloc (.cells #[.int .i64 0, .slice none 0 0, .slice a0 m c0, .slice none 0 0] 207)) (by simp) ((Carries.refl 0 _).alloc _)
  have n1' : W.cell? ⟨w.heap.size + 1, 1, none⟩ = some (.slice none 0 0) := by
    rw [hWe]
    exact cell_carry (w := (w.alloc (.cells #[.slice a0 m c0, .slice a1 n1 c1, .slice a2 n2 c2] 80)).alloc (.cells #[.int .i64 0, .slice none 0 0, .slice a0 m c0, .slice none 0 0] 207)) (by simp) ((Carries.refl 0 _).alloc _)
  have n2' : W.cell? ⟨w.heap.size + 1, 2, none⟩ = some (.slice a0 m c0) := by
    rw [hWe]
    exact cell_carry (w := (w.alloc (.cells #[.slice a0 m c0, .slice a1 n1 c1, .slice a2 n2 c2] 80)).alloc (.cells #[.int .i64 0, .slice none 0 0, .slice a0 m c0, .slice none 0 0] 207)) (by simp) ((Carries.refl 0 _).alloc _)
  have n3 : W.cell? ⟨w.heap.size + 1, 3, none⟩ = some (.slice none 0 0) := by
    rw [hWe]
    exact cell_carry (w := (w.alloc (.cells #[.slice a0 m c0, .slice a1 n1 c1, .slice a2 n2 c2] 80)).alloc (.cells #[.int .i64 0, .slice none 0 0, .slice a0 m c0, .slice none 0 0] 207)) (by simp) ((Carries.refl 0 _).alloc _)
  have hW : Below w.heap.size w W := by rw [hWe]; (repeat' (first | (with_reducible exact Below.refl _ _) | (with_reducible assumption) | (with_reducible refine Below.alloc ?_ ?_ _) | (with_reducible refine Below.drew ?_) | (with_reducible refine below_drewN ?_ _) | (with_reducible refine Below.setCell ?_ ?_ _) | go_size))
  have zW : w.heap.size + 1 + 1 < W.heap.size := by rw [hWe]; simp
  rw [← hWe]
  clear hWe hmk
  have HR0 := Lib.hid hrow0; clear hrow0
  go_loopw [17] (fun i wr => ∃ k : Nat, k ≤ L.length ∧ i = .int .i64 k ∧ Hid (wr.rowIs (w.heap.size + 1 + 1) 9 L.length (scopied (trW gs L) k)) ∧ Below w.heap.size w wr ∧ w.heap.size + 1 + 1 < wr.heap.size ∧ wr.cell? ⟨w.heap.size + 1, 0, none⟩ = some (.int .i64 0) ∧ wr.cell? ⟨w.heap.size + 1, 1, none⟩ = some (.slice none 0 0) ∧ wr.cell? ⟨w.heap.size + 1, 2, none⟩ = some (.slice a0 m c0) ∧ wr.cell? ⟨w.heap.size + 1, 3, none⟩ = some (.slice none 0 0)) (fun i _ => L.length - (intOf i).toNat)
  case atStart => exact ⟨0, Nat.zero_le _, rfl, HR0.out, hW, zW, n0, n1', n2', n3⟩
  case round =>
    obtain ⟨k, hk, rfl, hrow, hw1, z1, n0, n1', n2', n3⟩ := hrel
    by_cases hlt : k < L.length
    · rcases HF.out with h0 | ⟨b, off, rfl, hlo, hcell⟩
      · omega
      obtain ⟨q0, q1, q2, q3⟩ := hcell k hlt
      have d0 := Carries.of lo' hw1 _ _ hlo q0
      have d1 := Carries.of lo' hw1 _ _ hlo q1
      have d2 := Carries.of lo' hw1 _ _ hlo q2
      have d3 := Carries.of lo' hw1 _ _ hlo q3
      clear hcell q0 q1 q2 q3
      have HLI := Lib.hid (HIN.out k hlt)
      have HTW := Lib.hid (trW_get (ss := gs) hlt)
      try dsimp only at d0 d1 d2 d3
      generalize arF L k = e0 at d0
      generalize arS L k = e1 at d1 HLI HTW
      generalize arU L k = e2 at d2 HLI HTW
      generalize arT L k = e3 at d3
      obtain ⟨V, hV⟩ : ∃ x, x = wr.alloc (.cells #[.int .i64 e0, .int .i64 e1, .bool e2, .int .i64 e3] 138) := ⟨_, rfl⟩
      have hwV : Below w.heap.size w V := by rw [hV]; exact hw1.alloc hw1.size _
      have HV1 : Below wr.heap.size wr V := by rw [hV]; exact (Below.refl _ _).alloc (Nat.le_refl _) _
      have b0 : V.cell? ⟨wr.heap.size, 0, none⟩ = some (.int .i64 e0) := by rw [hV]; simp
      have b1 : V.cell? ⟨wr.heap.size, 1, none⟩ = some (.int .i64 e1) := by rw [hV]; simp
      have b2 : V.cell? ⟨wr.heap.size, 2, none⟩ = some (.bool e2) := by rw [hV]; simp
      have b3 : V.cell? ⟨wr.heap.size, 3, none⟩ = some (.int .i64 e3) := by rw [hV]; simp
      have n0 := cell_carry n0 (Carries.of 0 HV1)
      have n1' := cell_carry n1' (Carries.of 0 HV1)
      have n2' := cell_carry n2' (Carries.of 0 HV1)
      have n3 := cell_carry n3 (Carries.of 0 HV1)
      have hrowV := hrow.out.of_block (HV1.block _ hrow.out.lt)
      have HRV := Lib.hid hrowV
      have zV : w.heap.size + 1 + 1 < V.heap.size := by have := HV1.size; omega
      clear hrow hrowV HV1
      go_wp2_with fail
      rw [← hV]
      clear hV d0 d1 d2 d3
      refine wp_region_held_drew (S := fun w' => (w'.cell? ⟨w.heap.size + 1, 0, none⟩ = some (.int .i64 0) ∧ w'.cell? ⟨w.heap.size + 1, 1, none⟩ = some (.slice none 0 0) ∧ w'.cell? ⟨w.heap.size + 1, 2, none⟩ = some (.slice a0 m c0) ∧ w'.cell? ⟨w.heap.size + 1, 3, none⟩ = some (.slice none 0 0)) ∧ w'.cell? ⟨wr.heap.size, 0, none⟩ = some (.int .i64 e0) ∧ w'.cell? ⟨wr.heap.size, 1, none⟩ = some (.int .i64 e1) ∧ w'.cell? ⟨wr.heap.size, 2, none⟩ = some (.bool e2) ∧ w'.cell? ⟨wr.heap.size, 3, none⟩ = some (.int .i64 e3)) (by kernel_rfl) ⟨⟨n0, n1', n2', n3⟩, b0, b1, b2, b3⟩ (fun hHeld => ?_)
      refine tk0 (v := ?_) (by kernel_rfl) (by kernel_rfl) (by kernel_rfl) (by first | exact fun _ _ _ h => h | exact fun _ _ _ h => absurd h.1 (by simp)) (Or.inl ⟨by rfl, ?_⟩) (by assumption) ?_
      rotate_left 1
      focus (intro wx hSw; (try dsimp only at hSw); go_simp; try (with_reducible rfl))
      try simp only [Act.put, List.setIfInBounds_toArray, List.set_cons_zero, List.set_cons_succ]
      refine tk1 (v := ?_) (by kernel_rfl) (by kernel_rfl) (by kernel_rfl) (by first | exact fun _ _ _ h => h | exact fun _ _ _ h => absurd h.1 (by simp)) (Or.inl ⟨by rfl, ?_⟩) (by assumption) ?_
      rotate_left 1
      focus (intro wx hSw; (try dsimp only at hSw); go_simp; try (with_reducible rfl))
      try simp only [Act.put, List.setIfInBounds_toArray, List.set_cons_zero, List.set_cons_succ]
      refine tk2 (v := ?_) (by kernel_rfl) (by kernel_rfl) (by kernel_rfl) (by first | exact fun _ _ _ h => h | exact fun _ _ _ h => absurd h.1 (by simp)) (Or.inl ⟨by rfl, ?_⟩) (by assumption) ?_
      rotate_left 1
      focus (intro wx hSw; (try dsimp only at hSw); go_simp; try (with_reducible rfl))
      try simp only [Act.put, List.setIfInBounds_toArray, List.set_cons_zero, List.set_cons_succ]
      refine tk3 (v := ?_) (by kernel_rfl) (by kernel_rfl) (by kernel_rfl) (by first | exact fun _ _ _ h => h | exact fun _ _ _ h => absurd h.1 (by simp)) (Or.inl ⟨by rfl, ?_⟩) (by assumption) ?_
      rotate_left 1
      focus (intro wx hSw; (try dsimp only at hSw); go_simp; try (with_reducible rfl))
      try simp only [Act.put, List.setIfInBounds_toArray, List.set_cons_zero, List.set_cons_succ]
      refine rd4 (by kernel_rfl) (fun K hK => ?_)
      go_simp
      refine (label_any _ _ _ _ _).mono ?_
      rintro e w3 ⟨rfl, hb⟩
      have hb3 : Below V.heap.size V w3 := Below.trans (b := V.drew) (Below.refl _ _).drew (hb.mono (by simp))
      have hw3 : Below w.heap.size w w3 := hwV.trans (hb3.mono hwV.size)
      have n0 := cell_carry n0 (Carries.of 0 hb3)
      have n1' := cell_carry n1' (Carries.of 0 hb3)
      have n2' := cell_carry n2' (Carries.of 0 hb3)
      have n3 := cell_carry n3 (Carries.of 0 hb3)
      have b0 := cell_carry b0 (Carries.of 0 hb3)
      have b1 := cell_carry b1 (Carries.of 0 hb3)
      have b2 := cell_carry b2 (Carries.of 0 hb3)
      have b3 := cell_carry b3 (Carries.of 0 hb3)
      have HR3 := Lib.hid (HRV.out.of_block (hb3.block _ HRV.out.lt))
      clear hb
      have hHeld : Hid True := trivial
      refine hK.out _ _ ⟨⟨n0, n1', n2', n3⟩, b0, b1, b2, b3⟩ (fun hHeld => ?_)
      clear hK K
      try simp only [Act.put, List.setIfInBounds_toArray, List.set_cons_zero, List.set_cons_succ]
      refine rd5 (by kernel_rfl) (fun K hK => ?_)
      go_simp
      refine (labelText_any 0 none none 0 0 0 0 (.slice a0 m c0) gs e1 e2 w3 lo (HG.out.keep (Carries.of lo hw3)) K0.out (by rw [← HM.out]; exact HLI.out)).mono ?_
      rintro e w4 ⟨rfl, hb⟩
      have hw4 : Below w.heap.size w w4 := hw3.trans (hb.mono hw3.size)
      have n0 := cell_carry n0 (Carries.of 0 hb)
      have n1' := cell_carry n1' (Carries.of 0 hb)
      have n2' := cell_carry n2' (Carries.of 0 hb)
      have n3 := cell_carry n3 (Carries.of 0 hb)
      have b0 := cell_carry b0 (Carries.of 0 hb)
      have b1 := cell_carry b1 (Carries.of 0 hb)
      have b2 := cell_carry b2 (Carries.of 0 hb)
      have b3 := cell_carry b3 (Carries.of 0 hb)
      have hrow4 := HR3.out.of_block (hb.block _ HR3.out.lt)
      have z4 : w.heap.size + 1 + 1 < w4.heap.size := by have := hb.size; have := hb3.size; omega
      have zr : wr.heap.size < w4.heap.size := by have := cell_old b0; simpa using this
      clear hb hb3
      rw [← HTW.out]
      refine hK.out _ _ ⟨⟨n0, n1', n2', n3⟩, b0, b1, b2, b3⟩ (fun hHeld => ?_)
      clear hK K
      try simp only [Act.put, List.setIfInBounds_toArray, List.set_cons_zero, List.set_cons_succ]
      refine tk6 (v := ?_) (by kernel_rfl) (by kernel_rfl) (by kernel_rfl) (by first | exact fun _ _ _ h => h | exact fun _ _ _ h => absurd h.1 (by simp)) (Or.inl ⟨by rfl, ?_⟩) (by assumption) ?_
      rotate_left 1
      focus (intro wx hSw; (try dsimp only at hSw); go_simp; try (with_reducible rfl))
      try simp only [Act.put, List.setIfInBounds_toArray, List.set_cons_zero, List.set_cons_succ]
      have r0 := hrow4.cell hlt
      have rf := hrow4.frozen k
      have hrow5 := hrow4.set k (.string (stN (trW gs L) k))
      rw [scopied_step] at hrow5
      have HR5 := Lib.hid hrow5
      have hfar : ∀ (q i : Nat), q ≠ w.heap.size + 1 + 1 → ∀ u, w4.cell? ⟨q, i, none⟩ = some u → (w4.setCell ⟨w.heap.size + 1 + 1, k, none⟩ (.string (stN (trW gs L) k))).cell? ⟨q, i, none⟩ = some u := fun q i hq u h => (World.cell?_setCell_other _ _ _ _ (by intro e; injection e with e1; exact hq e1.symm)).trans h
      have p0 := hfar _ _ (by omega) _ n0
      have p1 := hfar _ _ (by omega) _ n1'
      have p2 := hfar _ _ (by omega) _ n2'
      have p3 := hfar _ _ (by omega) _ n3
      have s0 := hfar _ _ (by omega) _ b0
      have s1 := hfar _ _ (by omega) _ b1
      have s2 := hfar _ _ (by omega) _ b2
      have s3 := hfar _ _ (by omega) _ b3
      have hw5 : Below w.heap.size w (w4.setCell ⟨w.heap.size + 1 + 1, k, none⟩ (.string (stN (trW gs L) k))) := hw4.setCell (p := ⟨w.heap.size + 1 + 1, k, none⟩) (by simp; omega) _
      clear hfar hrow5
      refine rd7 (by kernel_rfl) (fun K hK => ?_)
      go_simp
      refine hK.out _ _ ⟨⟨p0, p1, p2, p3⟩, s0, s1, s2, s3⟩ (fun hHeld => ?_)
      clear hK K
      try simp only [Act.put, List.setIfInBounds_toArray, List.set_cons_zero, List.set_cons_succ]
      refine wpAnyH_done (by kernel_rfl) ?_ _
      clear s0 s1 s2 s3 b0 b1 b2 b3 n0 n1' n2' n3 r0 rf hrow4
      go_wp2_with fail
      go_roundw
      case rel => exact ⟨k + 1, by omega, by go_num, HR5.out, hw5, by simpa using z4, p0, p1, p2, p3⟩
      case measure => simp [intOf]; omega
    · have hkk : k = L.length := by omega
      subst hkk
      have HRE := Lib.hid hrow.out; clear hrow
      have hcells : ∀ (j : Nat) x, (trW gs L)[j]? = some x → wr.cell? ⟨w.heap.size + 1 + 1, 0 + j, none⟩ = some (.string x) := by
        intro j x hj
        have hjl : j < (trW gs L).length := (List.getElem?_eq_some_iff.1 hj).1
        have hjL : j < L.length := by rw [trW_length] at hjl; exact hjl
        rw [Nat.zero_add, HRE.out.cell hjL]
        unfold scopied
        rw [if_pos hjL, stN_getD hjl]
        rw [List.getElem?_eq_getElem hjl] at hj
        simp at hj
        rw [hj]
      have hjn := Tryz.strings_Join (w.heap.size + 1 + 1) 0 L.length (trW gs L) ⟨#[32]⟩ wr hcells z1 (by rw [trW_length]; omega) (by rw [trW_length]; exact Nat.le_refl _) (by
        have h1 := join_le (trW_small K0.out (by rw [← HM.out]; exact HIN.out))
        rw [List.length_map, trW_length] at h1
        have h2 : L.length * (1048577 + 1) ≤ 4001 * (1048577 + 1) := Nat.mul_le_mul_right _ hl
        show (Lib.join ((trW gs L).map (·.data.toList)) [32]).length ≤ _
        omega)
      rw [trW_length] at hjn
      have HJ := Lib.hid hjn; clear hjn hcells
      go_wp2_with fail
      refine HJ.out.mono ?_
      rintro e w2 ⟨rfl, hb⟩
      have hw2 : Below w.heap.size w w2 := hw1.trans (hb.mono hw1.size)
      clear hb
      go_wp2_with fail
      go_ret
      exact ⟨rfl, hw2⟩

end Go.Proofs.YtnmoocgocnjdjaaGreat
