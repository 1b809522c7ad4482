/- WALKS: forks, NondeterministicArcs of the program.
   WALKS: forks, NondeterministicArcs of the program. -/
import Derived.BigRegion
import Derived.Test.YtgmnknlnlmcmfaaVEcp
namespace Go.Proofs.Ytgmnknlnlmcmfaa
open Go.RowKit

/-- two arcs leave one state by one edge, for two states -/
def fkC (r : SgD) (i k : Nat) : Bool := (arF r.arcs i == arF r.arcs k) && ((arS r.arcs i == arS r.arcs k) && ((arS r.arcs i != -1) && (arT r.arcs i != arT r.arcs k)))

set_option maxRecDepth 100000 in
set_option maxHeartbeats 4000000 in
theorem forksClo_any (r : SgD) (i k : Nat) (B : Nat) (a2 : Option Addr) (c2 : Nat) (w : World) (lo : Nat) (hl : ArcsAt lo w (.slice a2 r.arcs.length c2) r.arcs) (hn : r.arcs.length ≤ 1048576) (hi : i < r.arcs.length) (hk : k < r.arcs.length)
    (x2 : w.cell? ⟨B, 2, none⟩ = some (.slice a2 r.arcs.length c2)) :
    Calls Try.prog 130 #[.int .i64 (i : Int), .int .i64 (k : Int), .pointer (some ⟨B, 0, none⟩)] w (RetB w (fkC r i k)) := by
  have zB := cell_old x2
  simp only at zB
  obtain ⟨q, hq⟩ : ∃ q, q = fkC r i k := ⟨_, rfl⟩
  have hq2 := hq
  rw [← hq]
  unfold fkC at hq2
  clear hq
  obtain ⟨ao, cap, hvv, hc, hz⟩ := hl
  injection hvv with e1 e2 e3
  subst e1; subst e3; clear e2
  rcases hz with h0 | ⟨b, off, rfl, hlo, hcell⟩
  · omega
  obtain ⟨p0, p1, p2, p3⟩ := hcell i hi
  obtain ⟨q0, q1, q2, q3⟩ := hcell k hk
  clear hcell hc
  dsimp only at p0 p1 p2 p3 q0 q1 q2 q3
  generalize arF r.arcs i = f1 at p0 hq2
  generalize arS r.arcs i = s1 at p1 hq2
  generalize arU r.arcs i = u1 at p2
  generalize arT r.arcs i = t1 at p3 hq2
  generalize arF r.arcs k = f2 at q0 hq2
  generalize arS r.arcs k = s2 at q1 hq2
  generalize arU r.arcs k = u2 at q2
  generalize arT r.arcs k = t2 at q3 hq2
  obtain ⟨na, hna⟩ : ∃ n, n = r.arcs.length := ⟨_, rfl⟩
  rw [← hna] at hi hk x2 hn
  clear hna
  have HQ := Lib.hid hq2; clear hq2
  have al1 : ∀ o, Below w.heap.size w (w.alloc o) := fun o => (Below.refl _ _).alloc (Nat.le_refl _) _
  have al2 : ∀ o o', Below w.heap.size w ((w.alloc o).alloc o') := fun o o' => (al1 o).alloc (by simp) _
  have p0_1 : ∀ o, (w.alloc o).cell? ⟨b, off + i * 4, none⟩ = some (.int .i64 f1) := fun o => cell_carry p0 (Carries.of 0 (al1 o))
  have p0_2 : ∀ o o', ((w.alloc o).alloc o').cell? ⟨b, off + i * 4, none⟩ = some (.int .i64 f1) := fun o o' => cell_carry p0 (Carries.of 0 (al2 o o'))
  have p1_1 : ∀ o, (w.alloc o).cell? ⟨b, off + i * 4 + 1, none⟩ = some (.int .i64 s1) := fun o => cell_carry p1 (Carries.of 0 (al1 o))
  have p1_2 : ∀ o o', ((w.alloc o).alloc o').cell? ⟨b, off + i * 4 + 1, none⟩ = some (.int .i64 s1) := fun o o' => cell_carry p1 (Carries.of 0 (al2 o o'))
  have p2_1 : ∀ o, (w.alloc o).cell? ⟨b, off + i * 4 + 2, none⟩ = some (.bool u1) := fun o => cell_carry p2 (Carries.of 0 (al1 o))
  have p2_2 : ∀ o o', ((w.alloc o).alloc o').cell? ⟨b, off + i * 4 + 2, none⟩ = some (.bool u1) := fun o o' => cell_carry p2 (Carries.of 0 (al2 o o'))
  have p3_1 : ∀ o, (w.alloc o).cell? ⟨b, off + i * 4 + 3, none⟩ = some (.int .i64 t1) := fun o => cell_carry p3 (Carries.of 0 (al1 o))
  have p3_2 : ∀ o o', ((w.alloc o).alloc o').cell? ⟨b, off + i * 4 + 3, none⟩ = some (.int .i64 t1) := fun o o' => cell_carry p3 (Carries.of 0 (al2 o o'))
  have q0_1 : ∀ o, (w.alloc o).cell? ⟨b, off + k * 4, none⟩ = some (.int .i64 f2) := fun o => cell_carry q0 (Carries.of 0 (al1 o))
  have q0_2 : ∀ o o', ((w.alloc o).alloc o').cell? ⟨b, off + k * 4, none⟩ = some (.int .i64 f2) := fun o o' => cell_carry q0 (Carries.of 0 (al2 o o'))
  have q1_1 : ∀ o, (w.alloc o).cell? ⟨b, off + k * 4 + 1, none⟩ = some (.int .i64 s2) := fun o => cell_carry q1 (Carries.of 0 (al1 o))
  have q1_2 : ∀ o o', ((w.alloc o).alloc o').cell? ⟨b, off + k * 4 + 1, none⟩ = some (.int .i64 s2) := fun o o' => cell_carry q1 (Carries.of 0 (al2 o o'))
  have q2_1 : ∀ o, (w.alloc o).cell? ⟨b, off + k * 4 + 2, none⟩ = some (.bool u2) := fun o => cell_carry q2 (Carries.of 0 (al1 o))
  have q2_2 : ∀ o o', ((w.alloc o).alloc o').cell? ⟨b, off + k * 4 + 2, none⟩ = some (.bool u2) := fun o o' => cell_carry q2 (Carries.of 0 (al2 o o'))
  have q3_1 : ∀ o, (w.alloc o).cell? ⟨b, off + k * 4 + 3, none⟩ = some (.int .i64 t2) := fun o => cell_carry q3 (Carries.of 0 (al1 o))
  have q3_2 : ∀ o o', ((w.alloc o).alloc o').cell? ⟨b, off + k * 4 + 3, none⟩ = some (.int .i64 t2) := fun o o' => cell_carry q3 (Carries.of 0 (al2 o o'))
  have x2_1 : ∀ o, (w.alloc o).cell? ⟨B, 2, none⟩ = some (.slice (some ⟨b, off, none⟩) na c2) := fun o => cell_carry x2 (Carries.of 0 (al1 o))
  have x2_2 : ∀ o o', ((w.alloc o).alloc o').cell? ⟨B, 2, none⟩ = some (.slice (some ⟨b, off, none⟩) na c2) := fun o o' => cell_carry x2 (Carries.of 0 (al2 o o'))
  have AL := Lib.hid (fun o o' => al2 o o'); clear al1 al2
  go_enter Try.func130, Try.ntmps130
  have e := HQ.out
  obtain ⟨y0, t0⟩ : ∃ y, (f1 == f2) = y := ⟨_, rfl⟩
  obtain ⟨y1, t1'⟩ : ∃ y, (s1 == s2) = y := ⟨_, rfl⟩
  obtain ⟨y2, t2'⟩ : ∃ y, (s1 != -1) = y := ⟨_, rfl⟩
  obtain ⟨y3, t3⟩ : ∃ y, (t1 != t2) = y := ⟨_, rfl⟩
  rw [t0, t1', t2', t3] at e
  subst e
  go_wp2_with fail
  go_region
  all_goals
    clear p0 p1 p2 p3 q0 q1 q2 q3 x2 p0_1 p1_1 p2_1 p3_1 q0_1 q1_1 q2_1 q3_1 x2_1 p0_2 p1_2 p2_2 p3_2 q0_2 q1_2 q2_2 q3_2 x2_2 hi hk
    cases y0 with
    | false =>
      go_wp2_with fail
      go_ret
      exact ⟨rfl, by (repeat' (first | (with_reducible exact Below.refl _ _) | (with_reducible assumption) | (with_reducible refine Below.alloc ?_ ?_ _) | (with_reducible refine Below.drew ?_) | (with_reducible refine below_drewN ?_ _) | (with_reducible refine Below.setCell ?_ ?_ _) | go_size))⟩
    | true =>
      cases y1 with
      | false =>
        go_wp2_with fail
        go_ret
        exact ⟨rfl, by (repeat' (first | (with_reducible exact Below.refl _ _) | (with_reducible assumption) | (with_reducible refine Below.alloc ?_ ?_ _) | (with_reducible refine Below.drew ?_) | (with_reducible refine below_drewN ?_ _) | (with_reducible refine Below.setCell ?_ ?_ _) | go_size))⟩
      | true =>
        cases y2 with
        | false =>
          go_wp2_with fail
          go_ret
          exact ⟨rfl, by (repeat' (first | (with_reducible exact Below.refl _ _) | (with_reducible assumption) | (with_reducible refine Below.alloc ?_ ?_ _) | (with_reducible refine Below.drew ?_) | (with_reducible refine below_drewN ?_ _) | (with_reducible refine Below.setCell ?_ ?_ _) | go_size))⟩
        | true =>
          cases y3 with
          | false =>
            go_wp2_with fail
            go_ret
            exact ⟨rfl, by (repeat' (first | (with_reducible exact Below.refl _ _) | (with_reducible assumption) | (with_reducible refine Below.alloc ?_ ?_ _) | (with_reducible refine Below.drew ?_) | (with_reducible refine below_drewN ?_ _) | (with_reducible refine Below.setCell ?_ ?_ _) | go_size))⟩
          | true =>
            go_wp2_with fail
            go_ret
            exact ⟨rfl, by (repeat' (first | (with_reducible exact Below.refl _ _) | (with_reducible assumption) | (with_reducible refine Below.alloc ?_ ?_ _) | (with_reducible refine Below.drew ?_) | (with_reducible refine below_drewN ?_ _) | (with_reducible refine Below.setCell ?_ ?_ _) | go_size))⟩

end Go.Proofs.Ytgmnknlnlmcmfaa

namespace Go.Proofs.Ytgmnknlnlmcmfaa
open Go.RowKit

def fkL (r : SgD) : List (List Int) := if goodG r = true then prZ (fkC r) r.arcs.length else []
theorem fkL_no {r : SgD} (h : goodG r = false) : fkL r = [] := by unfold fkL; rw [h]; rfl
theorem fkL_yes {r : SgD} (h : goodG r = true) : fkL r = prZ (fkC r) r.arcs.length := by unfold fkL; rw [h]; rfl
theorem fkL_small (r : SgD) : SmallRows (fkL r) := by
  cases h : goodG r with
  | false => rw [fkL_no h]; exact ⟨Nat.zero_le _, fun i => by simp [rwN]⟩
  | true =>
    rw [fkL_yes h]
    have hl := (goodG_get h).2.1
    have hm : r.arcs.length ≤ 4000 := by have h1 := hl.1.2; have h2 := hl.2; omega
    refine ⟨Nat.le_trans (prZ_length _ _) (Nat.le_trans (Nat.mul_le_mul hm hm) (by decide)), fun i => Nat.le_trans prZ_two (by decide)⟩

/-- what a call hands back that makes an iterator of pairs: its captures, and what it tells -/
def RetIt (w : World) (f : Nat → Nat → Bool) (m : Nat) (e : Ending) (w' : World) : Prop :=
  ∃ Bc Bf : Nat, e = .returned (.func (.func 126) #[] #[.pointer (some ⟨Bc, 0, none⟩), .pointer (some ⟨Bf, 0, none⟩)]) ∧ Below w.heap.size w w' ∧
    Tells 8 Try.prog 126 #[.pointer (some ⟨Bc, 0, none⟩), .pointer (some ⟨Bf, 0, none⟩)] (fun x : Pr => #[prV x]) (PrKp w'.heap.size) (PrS f m w'.heap.size) (fun p => p ≠ [] ∧ prL f m ≠ []) (m * m) w'

set_option maxRecDepth 100000 in
set_option maxHeartbeats 2000000 in
theorem forks_any (v : Value) (r : SgD) (w : World) (lo : Nat) (hv : SgAt lo w v r) (hn : r.arcs.length ≤ 4000) :
    Calls Try.prog 74 #[v] w (RetIt w (fkC r) r.arcs.length) := by
  obtain ⟨a0, c0, a1, c1, a2, c2, rfl, h_0, h_1, h_2⟩ := hv.form
  have HL := Lib.hid h_2
  clear hv h_0 h_1 h_2
  obtain ⟨ng, hng⟩ : ∃ n, n = r.sigs.length := ⟨_, rfl⟩
  obtain ⟨nc, hnc⟩ : ∃ n, n = r.codes.length := ⟨_, rfl⟩
  obtain ⟨na, hna⟩ : ∃ n, n = r.arcs.length := ⟨_, rfl⟩
  rw [← hng, ← hnc, ← hna]
  rw [← hna] at hn HL
  have HNA := Lib.hid hna
  clear hng hnc hna
  have hal : Below w.heap.size w (w.alloc (.cells #[.slice a0 ng c0, .slice a1 nc c1, .slice a2 na c2] 34)) := (Below.refl _ _).alloc (Nat.le_refl _) _
  have x2 : (w.alloc (.cells #[.slice a0 ng c0, .slice a1 nc c1, .slice a2 na c2] 34)).cell? ⟨w.heap.size, 2, none⟩ = some (.slice a2 na c2) := by simp
  go_enter Try.func74, Try.ntmps74
  go_wp2_with fail
  generalize w.alloc (.cells #[.slice a0 ng c0, .slice a1 nc c1, .slice a2 na c2] 34) = W at x2 hal ⊢
  have zW := hal.size
  refine (pairs_any na 130 #[] #[.pointer (some ⟨w.heap.size, 0, none⟩)] W).mono ?_
  rintro e W2 ⟨rfl, hw2⟩
  have hb2 : Below W.heap.size W W2 := by rw [hw2]; exact ((Below.refl _ _).alloc (Nat.le_refl _) _).alloc (by simp) _
  have xc : W2.cell? ⟨W.heap.size, 0, none⟩ = some (.int .i64 (na : Int)) := by rw [hw2]; simp
  have xf : W2.cell? ⟨W.heap.size + 1, 0, none⟩ = some (.func (.func 130) #[] #[.pointer (some ⟨w.heap.size, 0, none⟩)]) := by
    have h := (Boxed.new (W.alloc (.cells #[.int .i64 (na : Int)] 3)) 100 (.func (.func 130) #[] #[.pointer (some ⟨w.heap.size, 0, none⟩)])).cell
    rw [World.size_alloc] at h
    rw [hw2]; exact h
  have x2' := Lib.hid (cell_carry x2 (Carries.of 0 hb2))
  have hw : Below w.heap.size w W2 := hal.trans (hb2.mono zW)
  have hT := pairs1_tells 130 #[] #[.pointer (some ⟨w.heap.size, 0, none⟩)] (fkC r) na 8 (by decide) W.heap.size (W.heap.size + 1) W2 (by omega) (enters_of Try.func130 (by kernel_rfl) rfl) xc xf
    (fun i k hik hk W3 hb3 => forksClo_any r i k w.heap.size a2 c2 W3 lo (by rw [← HNA.out]; exact HL.out.keep (Carries.of lo (hw.trans (hb3.mono hw.size)))) (by rw [← HNA.out]; omega) (by rw [← HNA.out]; omega) (by rw [← HNA.out]; exact hk) (by rw [← HNA.out]; exact cell_carry x2'.out (Carries.of 0 hb3)))
  have HT := Lib.hid hT
  clear xc xf hT hw2 hb2 x2
  go_wp2_with fail
  go_ret
  exact ⟨_, _, rfl, hw, HT.out⟩

set_option maxRecDepth 100000 in
set_option maxHeartbeats 2000000 in
theorem NondeterministicArcs_any (v : Value) (r : SgD) (w : World) (lo : Nat) (hv : SgAt lo w v r) (hs : SmallSg r) :
    Calls Try.prog 29 #[v] w (RetOr w (fkL r) (goodG r)) := by
  have HV := Lib.hid hv
  obtain ⟨a0, c0, a1, c1, a2, c2, rfl, h_0, h_1, h_2⟩ := hv.form
  clear hv h_0 h_1 h_2
  have KC := hs.2.1.1
  have KA := hs.2.2
  have HS := Lib.hid hs; clear hs
  obtain ⟨ng, hng⟩ : ∃ n, n = r.sigs.length := ⟨_, rfl⟩
  obtain ⟨nc, hnc⟩ : ∃ n, n = r.codes.length := ⟨_, rfl⟩
  obtain ⟨na, hna⟩ : ∃ n, n = r.arcs.length := ⟨_, rfl⟩
  have e4 : goodG r = false → fkL r = [] := fkL_no
  have e5 : goodG r = true → fkL r = prZ (fkC r) na := fun h => by rw [hna]; exact fkL_yes h
  obtain ⟨LL, hL⟩ : ∃ L, L = fkL r := ⟨_, rfl⟩
  rw [← hL] at e4 e5 ⊢
  obtain ⟨G, hG⟩ : ∃ G, G = goodG r := ⟨_, rfl⟩
  rw [← hG] at e4 e5 ⊢
  have HGG := Lib.hid hG
  have E4 := Lib.hid e4
  have E5 := Lib.hid e5
  rw [← hng, ← hnc, ← hna] at HV ⊢
  rw [← hnc] at KC
  rw [← hna] at KA
  have HNC := Lib.hid hnc
  have HNA := Lib.hid hna
  have HNG := Lib.hid hng
  clear hG e4 e5 hL hng hnc hna
  have x0 : (w.alloc (.cells #[.slice a0 ng c0, .slice a1 nc c1, .slice a2 na c2] 34)).cell? ⟨w.heap.size, 0, none⟩ = some (.slice a0 ng c0) := by simp
  have x1 : (w.alloc (.cells #[.slice a0 ng c0, .slice a1 nc c1, .slice a2 na c2] 34)).cell? ⟨w.heap.size, 1, none⟩ = some (.slice a1 nc c1) := by simp
  have x2 : (w.alloc (.cells #[.slice a0 ng c0, .slice a1 nc c1, .slice a2 na c2] 34)).cell? ⟨w.heap.size, 2, none⟩ = some (.slice a2 na c2) := by simp
  have hal : Below w.heap.size w (w.alloc (.cells #[.slice a0 ng c0, .slice a1 nc c1, .slice a2 na c2] 34)) := (Below.refl _ _).alloc (Nat.le_refl _) _
  go_enter Try.func29, Try.ntmps29
  go_wp2_with fail
  generalize w.alloc (.cells #[.slice a0 ng c0, .slice a1 nc c1, .slice a2 na c2] 34) = W0 at x0 x1 x2 hal ⊢
  refine (IsValidSg_any _ r _ lo (HV.out.keep (Carries.of lo hal)) HS.out).mono ?_
  rintro e W ⟨rfl, hb⟩
  have hW : Below w.heap.size w W := hal.trans (hb.mono hal.size)
  have x0 := cell_carry x0 (Carries.of 0 hb)
  have x1 := cell_carry x1 (Carries.of 0 hb)
  have x2 := cell_carry x2 (Carries.of 0 hb)
  have zW := hW.size
  clear hb hal
  rw [← HGG.out]
  cases hg : G with
  | false =>
    have el := E4.out hg
    subst el
    subst hg
    go_wp2_with fail
    go_ret2
    exact ⟨_, rfl, RowsOw.nil _ _, hW⟩
  | true =>
  have HE := Lib.hid (E5.out hg)
  have HGT := Lib.hid (HGG.out.symm.trans hg)
  subst hg
  go_wp2_with fail
  have hn4 : r.arcs.length ≤ 4000 := (goodG_get HGT.out).2.1.2
  refine (forks_any _ r W lo (HV.out.keep (Carries.of lo hW)) hn4).mono ?_
  rintro e W2 ⟨Bc, Bf, rfl, hb2, hT⟩
  have hw : Below w.heap.size w W2 := hW.trans (hb2.mono zW)
  have zW2 := hb2.size
  have hC := Collect_any 126 #[.pointer (some ⟨Bc, 0, none⟩), .pointer (some ⟨Bf, 0, none⟩)] W2 W2 _ _ _ (Nat.le_trans (Nat.mul_le_mul hn4 hn4) (by decide)) (enters_of Try.func126 (by kernel_rfl) rfl) (Below.refl _ _) (fun D => PrS.own (fkC r) r.arcs.length W2.heap.size D) hT
  clear hT hb2
  go_wp2_with fail
  refine hC.mono ?_
  clear hC
  rintro e W3 ⟨vr, xs, rfl, hs3, hrow, hb3⟩
  have hR := Lib.hid (show RowsOw w.heap.size W3 vr LL by rw [HE.out, HNA.out]; exact (PrS.rows hs3 hrow (Nat.le_refl _)).low (Nat.le_trans zW zW2))
  have hw3 : Below w.heap.size w W3 := hw.trans (hb3.mono hw.size)
  obtain ⟨av, cv, rfl, _⟩ := hR.out.cap
  clear hs3 hrow hb3
  go_wp2_with fail
  go_ret2
  exact ⟨_, rfl, hR.out, hw3⟩

end Go.Proofs.Ytgmnknlnlmcmfaa
