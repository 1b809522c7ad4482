/- WALKS: conflicts, CSCConflicts of the program.
   CONFLICTS as the model finds them: pairs of one code, of which a signal that is no input is excited in one alone. -/
import Derived.Test.YtgmnknlnlmcmfaaVCsa
import Derived.Test.YtgmnknlnlmcmfaaVNdb
namespace Go.Proofs.Ytgmnknlnlmcmfaa
open Go.RowKit

def csL (r : SgD) : List (List Int) := if goodG r = true then prZ (csC r) r.codes.length else []
theorem csL_no {r : SgD} (h : goodG r = false) : csL r = [] := by unfold csL; rw [h]; rfl
theorem csL_yes {r : SgD} (h : goodG r = true) : csL r = prZ (csC r) r.codes.length := by unfold csL; rw [h]; rfl
theorem csL_small (r : SgD) : SmallRows (csL r) := by
  cases h : goodG r with
  | false => rw [csL_no h]; exact ⟨Nat.zero_le _, fun i => by simp [rwN]⟩
  | true =>
    rw [csL_yes h]
    have hl := (goodG_get h).2.1
    have hm : r.codes.length ≤ 4000 := by have h1 := hl.1.2; have h2 := hl.2; omega
    refine ⟨Nat.le_trans (prZ_length _ _) (Nat.le_trans (Nat.mul_le_mul hm hm) (by decide)), fun i => Nat.le_trans prZ_two (by decide)⟩

set_option maxRecDepth 100000 in
set_option maxHeartbeats 4000000 in
theorem conflicts_any (v : Value) (r : SgD) (w : World) (lo : Nat) (hv : SgAt lo w v r) (hs : SmallSg r) (hg : goodG r = true) (h8 : r.sigs.length ≤ 8) :
    Calls Try.prog 72 #[v] w (RetIt w (csC r) r.codes.length) := by
  have HV := Lib.hid hv
  obtain ⟨a0, c0, a1, c1, a2, c2, rfl, h_0, h_1, h_2⟩ := hv.form
  clear hv h_0 h_1 h_2
  have KC := hs.2.1.1
  have HS := Lib.hid hs; clear hs
  have hin := fun j (hj : j < r.arcs.length) => (arcV_in (arcsB_at (goodG_get hg).2.2.2.1 hj)).1
  have hct : ∀ j, j < r.arcs.length → niB r (arS r.arcs j) = true → 0 ≤ arS r.arcs j ∧ arS r.arcs j < 8 := fun j _ h => by
    unfold niB at h
    have := of_decide_eq_true (Bool.and_eq_true_iff.1 h).1
    omega
  have HIN := Lib.hid hin; clear hin
  have HCT := Lib.hid hct; clear hct
  obtain ⟨ng, hng⟩ : ∃ n, n = r.sigs.length := ⟨_, rfl⟩
  obtain ⟨nc, hnc⟩ : ∃ n, n = r.codes.length := ⟨_, rfl⟩
  obtain ⟨na, hna⟩ : ∃ n, n = r.arcs.length := ⟨_, rfl⟩
  rw [← hng, ← hnc, ← hna] at HV
  rw [← hng, ← hnc, ← hna]
  rw [← hnc] at KC
  have HNG := Lib.hid hng
  have HNC := Lib.hid hnc
  have HNA := Lib.hid hna
  clear hng hnc hna hg h8
  have hal : Below w.heap.size w (w.alloc (.cells #[.slice a0 ng c0, .slice a1 nc c1, .slice a2 na c2] 34)) := (Below.refl _ _).alloc (Nat.le_refl _) _
  have x0 : (w.alloc (.cells #[.slice a0 ng c0, .slice a1 nc c1, .slice a2 na c2] 34)).cell? ⟨w.heap.size, 0, none⟩ = some (.slice a0 ng c0) := by simp
  have x1 : (w.alloc (.cells #[.slice a0 ng c0, .slice a1 nc c1, .slice a2 na c2] 34)).cell? ⟨w.heap.size, 1, none⟩ = some (.slice a1 nc c1) := by simp
  have x2 : (w.alloc (.cells #[.slice a0 ng c0, .slice a1 nc c1, .slice a2 na c2] 34)).cell? ⟨w.heap.size, 2, none⟩ = some (.slice a2 na c2) := by simp
  go_enter Try.func72, Try.ntmps72
  go_wp2_with fail
  generalize w.alloc (.cells #[.slice a0 ng c0, .slice a1 nc c1, .slice a2 na c2] 34) = W at x0 x1 x2 hal ⊢
  have zW := hal.size
  have HVW := Lib.hid (HV.out.keep (Carries.of lo hal))
  refine (excitations_any _ r (niB r) 60 (.agg #[.slice a0 ng c0, .slice a1 nc c1, .slice a2 na c2]) W lo HVW.out HS.out HIN.out HCT.out (enters_of Try.func60 (by kernel_rfl) rfl) (fun x W2 hb => isNonInput_any _ r x W2 lo (HVW.out.keep (Carries.of lo hb)) HS.out)).mono ?_
  rintro e W2 ⟨b, rfl, hbW, hrow, hb⟩
  rw [← HNC.out] at hrow ⊢
  have x0 := cell_carry x0 (Carries.of 0 hb)
  have x1 := cell_carry x1 (Carries.of 0 hb)
  have x2 := cell_carry x2 (Carries.of 0 hb)
  have hw2 : Below w.heap.size w W2 := hal.trans (hb.mono zW)
  have z2 := hw2.size
  have HRW := Lib.hid hrow
  clear hb hrow hal
  have hal3 : Below W2.heap.size W2 (W2.alloc (.cells #[.slice (some ⟨b, 0, none⟩) nc nc] 165)) := (Below.refl _ _).alloc (Nat.le_refl _) _
  have y0 := cell_carry x0 (Carries.of 0 hal3)
  have y1 := cell_carry x1 (Carries.of 0 hal3)
  have y2 := cell_carry x2 (Carries.of 0 hal3)
  have ye := (Boxed.new W2 165 (.slice (some ⟨b, 0, none⟩) nc nc)).cell
  go_wp2_with fail
  generalize W2.alloc (.cells #[.slice (some ⟨b, 0, none⟩) nc nc] 165) = W3 at hal3 y0 y1 y2 ye ⊢
  have hw3 : Below w.heap.size w W3 := hw2.trans (hal3.mono z2)
  have HRW3 := Lib.hid (HRW.out.of_block (hal3.block _ HRW.out.lt))
  clear x0 x1 x2 hal3 HRW
  refine (pairs_any nc 129 #[] #[.pointer (some ⟨w.heap.size, 0, none⟩), .pointer (some ⟨W2.heap.size, 0, none⟩)] W3).mono ?_
  rintro e W4 ⟨rfl, hw4⟩
  have hb4 : Below W3.heap.size W3 W4 := by rw [hw4]; exact ((Below.refl _ _).alloc (Nat.le_refl _) _).alloc (by simp) _
  have xc : W4.cell? ⟨W3.heap.size, 0, none⟩ = some (.int .i64 (nc : Int)) := by rw [hw4]; simp
  have xf : W4.cell? ⟨W3.heap.size + 1, 0, none⟩ = some (.func (.func 129) #[] #[.pointer (some ⟨w.heap.size, 0, none⟩), .pointer (some ⟨W2.heap.size, 0, none⟩)]) := by
    have h := (Boxed.new (W3.alloc (.cells #[.int .i64 (nc : Int)] 3)) 100 (.func (.func 129) #[] #[.pointer (some ⟨w.heap.size, 0, none⟩), .pointer (some ⟨W2.heap.size, 0, none⟩)])).cell
    rw [World.size_alloc] at h
    rw [hw4]; exact h
  have hw : Below w.heap.size w W4 := hw3.trans (hb4.mono hw3.size)
  have D0 := Lib.hid (cell_carry y0 (Carries.of 0 hb4))
  have D1 := Lib.hid (cell_carry y1 (Carries.of 0 hb4))
  have D2 := Lib.hid (cell_carry y2 (Carries.of 0 hb4))
  have DE := Lib.hid (cell_carry ye (Carries.of 0 hb4))
  have HRW4 := Lib.hid (HRW3.out.of_block (hb4.block _ HRW3.out.lt))
  have HV4 := Lib.hid (HV.out.keep (Carries.of lo hw))
  have hT := pairs1_tells 129 #[] #[.pointer (some ⟨w.heap.size, 0, none⟩), .pointer (some ⟨W2.heap.size, 0, none⟩)] (csC r) nc 8 (by decide) W3.heap.size (W3.heap.size + 1) W4 (by omega) (enters_of Try.func129 (by kernel_rfl) rfl) xc xf
    (fun i k hik hk W5 hb5 => conflictsClo_any r i k w.heap.size W2.heap.size b a0 a1 a2 c0 c1 c2 W5 lo HS.out (by rw [← HNG.out, ← HNC.out, ← HNA.out]; exact HV4.out.keep (Carries.of lo hb5)) (by rw [← HNC.out]; omega) (by rw [← HNC.out]; exact hk)
      (by rw [← HNG.out]; exact cell_carry D0.out (Carries.of 0 hb5)) (by rw [← HNC.out]; exact cell_carry D1.out (Carries.of 0 hb5)) (by rw [← HNA.out]; exact cell_carry D2.out (Carries.of 0 hb5)) (by rw [← HNC.out]; exact cell_carry DE.out (Carries.of 0 hb5)) (by rw [← HNC.out]; exact HRW4.out.of_block (hb5.block _ HRW4.out.lt)))
  have HT := Lib.hid hT
  clear xc xf hT hw4 hb4 y0 y1 y2 ye
  go_wp2_with fail
  go_ret
  exact ⟨_, _, rfl, hw, HT.out⟩

set_option maxRecDepth 100000 in
set_option maxHeartbeats 2000000 in
theorem CSCConflicts_any (v : Value) (r : SgD) (w : World) (lo : Nat) (hv : SgAt lo w v r) (hs : SmallSg r) :
    Calls Try.prog 27 #[v] w (RetOr w (csL r) (goodG r)) := by
  have HV := Lib.hid hv
  obtain ⟨a0, c0, a1, c1, a2, c2, rfl, h_0, h_1, h_2⟩ := hv.form
  clear hv h_0 h_1 h_2
  have KG := hs.1.1
  have KC := hs.2.1.1
  have KA := hs.2.2
  have HS := Lib.hid hs; clear hs
  obtain ⟨ng, hng⟩ : ∃ n, n = r.sigs.length := ⟨_, rfl⟩
  obtain ⟨nc, hnc⟩ : ∃ n, n = r.codes.length := ⟨_, rfl⟩
  obtain ⟨na, hna⟩ : ∃ n, n = r.arcs.length := ⟨_, rfl⟩
  have e4 : goodG r = false → csL r = [] := csL_no
  have e5 : goodG r = true → csL r = prZ (csC r) nc := fun h => by rw [hnc]; exact csL_yes h
  obtain ⟨LL, hL⟩ : ∃ L, L = csL r := ⟨_, rfl⟩
  rw [← hL] at e4 e5 ⊢
  obtain ⟨G, hG⟩ : ∃ G, G = goodG r := ⟨_, rfl⟩
  rw [← hG] at e4 e5 ⊢
  have HGG := Lib.hid hG
  have E4 := Lib.hid e4
  have E5 := Lib.hid e5
  rw [← hng, ← hnc, ← hna] at HV ⊢
  rw [← hng] at KG
  rw [← hnc] at KC
  rw [← hna] at KA
  have HNC := Lib.hid hnc
  have HNA := Lib.hid hna
  have HNG := Lib.hid hng
  clear hG e4 e5 hL hng hnc hna
  have x0 : (w.alloc (.cells #[.slice a0 ng c0, .slice a1 nc c1, .slice a2 na c2] 34)).cell? ⟨w.heap.size, 0, none⟩ = some (.slice a0 ng c0) := by simp
  have x1 : (w.alloc (.cells #[.slice a0 ng c0, .slice a1 nc c1, .slice a2 na c2] 34)).cell? ⟨w.heap.size, 1, none⟩ = some (.slice a1 nc c1) := by simp
  have x2 : (w.alloc (.cells #[.slice a0 ng c0, .slice a1 nc c1, .slice a2 na c2] 34)).cell? ⟨w.heap.size, 2, none⟩ = some (.slice a2 na c2) := by simp
  have hal : Below w.heap.size w (w.alloc (.cells #[.slice a0 ng c0, .slice a1 nc c1, .slice a2 na c2] 34)) := (Below.refl _ _).alloc (Nat.le_refl _) _
  go_enter Try.func27, Try.ntmps27
  go_wp2_with fail
  generalize w.alloc (.cells #[.slice a0 ng c0, .slice a1 nc c1, .slice a2 na c2] 34) = W0 at x0 x1 x2 hal ⊢
  refine (IsValidSg_any _ r _ lo (HV.out.keep (Carries.of lo hal)) HS.out).mono ?_
  rintro e W ⟨rfl, hb⟩
  have hW : Below w.heap.size w W := hal.trans (hb.mono hal.size)
  have x0 := cell_carry x0 (Carries.of 0 hb)
  have x1 := cell_carry x1 (Carries.of 0 hb)
  have x2 := cell_carry x2 (Carries.of 0 hb)
  have zW := hW.size
  clear hb hal
  rw [← HGG.out]
  cases hg : G with
  | false =>
    have el := E4.out hg
    subst el
    subst hg
    go_wp2_with fail
    go_ret2
    exact ⟨_, rfl, RowsOw.nil _ _, hW⟩
  | true =>
  have HE := Lib.hid (E5.out hg)
  have HGT := Lib.hid (HGG.out.symm.trans hg)
  subst hg
  go_wp2_with fail
  have hn4 : r.codes.length ≤ 4000 := by have := (goodG_get HGT.out).2.1.1.2; omega
  refine (conflicts_any _ r W lo (HV.out.keep (Carries.of lo hW)) HS.out HGT.out (of_decide_eq_true (Bool.and_eq_true_iff.1 (goodG_get HGT.out).1).2).2).mono ?_
  rintro e W2 ⟨Bc, Bf, rfl, hb2, hT⟩
  have hw : Below w.heap.size w W2 := hW.trans (hb2.mono zW)
  have zW2 := hb2.size
  have hC := Collect_any 126 #[.pointer (some ⟨Bc, 0, none⟩), .pointer (some ⟨Bf, 0, none⟩)] W2 W2 _ _ _ (Nat.le_trans (Nat.mul_le_mul hn4 hn4) (by decide)) (enters_of Try.func126 (by kernel_rfl) rfl) (Below.refl _ _) (fun D => PrS.own (csC r) r.codes.length W2.heap.size D) hT
  clear hT hb2
  go_wp2_with fail
  refine hC.mono ?_
  clear hC
  rintro e W3 ⟨vr, xs, rfl, hs3, hrow, hb3⟩
  have hR := Lib.hid (show RowsOw w.heap.size W3 vr LL by rw [HE.out, HNC.out]; exact (PrS.rows hs3 hrow (Nat.le_refl _)).low (Nat.le_trans zW zW2))
  have hw3 : Below w.heap.size w W3 := hw.trans (hb3.mono hw.size)
  obtain ⟨av, cv, rfl, _⟩ := hR.out.cap
  clear hs3 hrow hb3
  go_wp2_with fail
  go_ret2
  exact ⟨_, rfl, hR.out, hw3⟩

end Go.Proofs.Ytgmnknlnlmcmfaa

namespace Go.Proofs.Ytgmnknlnlmcmfaa
open Go.RowKit

theorem prRow_filter (f g : Nat → Nat → Bool) (i : Nat) : ∀ k, (prRow f i k).filter (fun p => g p.1 p.2) = prRow (fun i k => f i k && g i k) i k
  | 0 => rfl
  | k + 1 => by
    have ih := prRow_filter f g i k
    show (if i < k ∧ f i k = true then prRow f i k ++ [(i, k)] else prRow f i k).filter (fun p => g p.1 p.2) = (if i < k ∧ (f i k && g i k) = true then prRow (fun i k => f i k && g i k) i k ++ [(i, k)] else prRow (fun i k => f i k && g i k) i k)
    by_cases h : i < k ∧ f i k = true
    · rw [if_pos h, List.filter_append, ih]
      by_cases hg : g i k = true
      · rw [if_pos ⟨h.1, by rw [h.2, hg]; rfl⟩]
        simp [hg]
      · rw [if_neg (fun q => hg (by have := q.2; rw [h.2, Bool.true_and] at this; exact this))]
        simp [hg]
    · rw [if_neg h, ih, if_neg (fun q => h ⟨q.1, (Bool.and_eq_true_iff.1 q.2).1⟩)]
theorem prTo_filter (f g : Nat → Nat → Bool) (n : Nat) : ∀ i, (prTo f n i).filter (fun p => g p.1 p.2) = prTo (fun i k => f i k && g i k) n i
  | 0 => rfl
  | i + 1 => by rw [prTo_succ, List.filter_append, prTo_filter f g n i, prRow_filter]; rfl
theorem prL_filter (f g : Nat → Nat → Bool) (n : Nat) : (prL f n).filter (fun p => g p.1 p.2) = prL (fun i k => f i k && g i k) n := prTo_filter f g n n
theorem prL_lt {f : Nat → Nat → Bool} {n : Nat} : ∀ p, p ∈ prL f n → p.1 < n ∧ p.2 < n := by
  have hrow : ∀ i k, i < n → k ≤ n → ∀ p, p ∈ prRow f i k → p.1 < n ∧ p.2 < n := by
    intro i k hi
    induction k with
    | zero => intro _ p hp; cases hp
    | succ k ih =>
      intro hk p hp
      have hp' : p ∈ (if i < k ∧ f i k = true then prRow f i k ++ [(i, k)] else prRow f i k) := hp
      split at hp'
      · rcases List.mem_append.1 hp' with h | h
        · exact ih (by omega) p h
        · rw [List.mem_singleton] at h; subst h; exact ⟨hi, by dsimp only; omega⟩
      · exact ih (by omega) p hp'
  have hto : ∀ i, i ≤ n → ∀ p, p ∈ prTo f n i → p.1 < n ∧ p.2 < n := by
    intro i
    induction i with
    | zero => intro _ p hp; cases hp
    | succ i ih =>
      intro hi p hp
      rw [prTo_succ] at hp
      rcases List.mem_append.1 hp with h | h
      · exact ih (by omega) p h
      · exact hrow i n (by omega) (Nat.le_refl _) p h
  exact hto n (Nat.le_refl _)

/-- some signal that is no input is excited in one of two states alone -/
def unl (r : SgD) (i k : Int) : Bool := (enTo (niF r) r.sigs.length).any (fun s => excB r i s != excB r k s)
theorem mem_enTo {f : Nat → Bool} {n : Nat} {x : Int} : x ∈ enTo f n ↔ ∃ k : Nat, k < n ∧ f k = true ∧ x = (k : Int) := by
  unfold enTo
  rw [List.mem_map]
  constructor
  · rintro ⟨k, hk, rfl⟩
    rw [List.mem_filter, List.mem_range] at hk
    exact ⟨k, hk.1, hk.2, rfl⟩
  · rintro ⟨k, h1, h2, rfl⟩
    exact ⟨k, by rw [List.mem_filter, List.mem_range]; exact ⟨h1, h2⟩, rfl⟩
theorem cs_same {r : SgD} (h8 : r.sigs.length ≤ 8) (i k : Nat) : csC r i k = (eqC r i k && unl r (i : Int) (k : Int)) := by
  unfold csC
  congr 1
  have key : all8 (exB r (niB r) i) (exB r (niB r) k) = !unl r (i : Int) (k : Int) := by
    rw [Bool.eq_iff_iff]
    unfold all8 unl
    simp only [List.all_eq_true, List.mem_range, Bool.not_eq_true', beq_iff_eq]
    constructor
    · intro h
      rw [← Bool.not_eq_true, List.any_eq_true]
      rintro ⟨x, hx, hne⟩
      obtain ⟨s, hs, hf, rfl⟩ := mem_enTo.1 hx
      have h1 := h s (by omega)
      unfold exB at h1
      rw [exTo_all, exTo_all] at h1
      have hn : niB r (s : Int) = true := by unfold niB; rw [decide_eq_true (by omega)]; exact hf
      rw [hn, Bool.and_true, Bool.and_true] at h1
      rw [h1] at hne
      simp at hne
    · intro h s hs
      unfold exB
      rw [exTo_all, exTo_all]
      cases hn : niB r (s : Int) with
      | false => rw [Bool.and_false, Bool.and_false]
      | true =>
        rw [Bool.and_true, Bool.and_true]
        unfold niB at hn
        have hn2 := Bool.and_eq_true_iff.1 hn
        have hr := of_decide_eq_true hn2.1
        rw [← Bool.not_eq_true, List.any_eq_true] at h
        by_cases e : excB r (i : Int) (s : Int) = excB r (k : Int) (s : Int)
        · exact e
        · exact absurd ⟨(s : Int), mem_enTo.2 ⟨s, by omega, hn2.2, rfl⟩, by simpa using e⟩ h
  rw [key, Bool.not_not]
/-- a row of two ints, asked -/
def unZ (r : SgD) (z : List Int) : Bool := unl r (z.getD 0 0) (z.getD 1 0)
theorem cs_rows {r : SgD} (h8 : r.sigs.length ≤ 8) (n : Nat) : (prZ (eqC r) n).filter (unZ r) = prZ (csC r) n := by
  unfold prZ
  rw [List.filter_map]
  have h : (unZ r ∘ prI) = (fun p : Nat × Nat => unl r (p.1 : Int) (p.2 : Int)) := by funext p; rfl
  rw [h]
  have h2 := prL_filter (eqC r) (fun i k => unl r (i : Int) (k : Int)) n
  rw [h2]
  congr 1
  exact prL_congr (fun i k _ _ => (cs_same h8 i k).symm)

end Go.Proofs.Ytgmnknlnlmcmfaa
