/- UNION OF GRAPHS: labels moved up; WALK: movedLabels of the program. -/
import Derived.Test.YtgmnknlnlmcmfaaVOwnc
import Derived.Test.YtgmnknlnlmcmfaaVStgj
namespace Go.Proofs.Ytgmnknlnlmcmfaa
open Go.RowKit

/-- a label's signal, d further up (a dummy stays) -/
def movA (d : Nat) (a : Int) (u : Bool) : Int := if a = -1 ∧ u = false then a else a + d
/-- the first k labels moved -/
def movL (d k : Nat) (ls : List Lab) : List Lab := (List.range ls.length).map fun i => (if i < k then movA d (lbS ls i) (lbU ls i) else lbS ls i, lbU ls i)
theorem movL_length (d k : Nat) (ls : List Lab) : (movL d k ls).length = ls.length := by simp [movL]
theorem movL_S {d k : Nat} {ls : List Lab} {i : Nat} (h : i < ls.length) : lbS (movL d k ls) i = if i < k then movA d (lbS ls i) (lbU ls i) else lbS ls i := by simp [movL, lbS, List.getD, h]
theorem movL_U {d k : Nat} {ls : List Lab} {i : Nat} (h : i < ls.length) : lbU (movL d k ls) i = lbU ls i := by simp [movL, lbU, List.getD, h]
theorem movL_zero (d : Nat) (ls : List Lab) : pairCells (lbX (movL d 0 ls)) (lbY (movL d 0 ls)) ls.length = pairCells (lbX ls) (lbY ls) ls.length :=
  pairCells_congr _ fun i hi => by simp [lbX, lbY, movL_S hi, movL_U hi]
theorem movL_step {d : Nat} {ls : List Lab} {k : Nat} (hk : k < ls.length) : (pairCells (lbX (movL d k ls)) (lbY (movL d k ls)) ls.length).set (k * 2) (.int .i64 (movA d (lbS ls k) (lbU ls k))) = pairCells (lbX (movL d (k + 1) ls)) (lbY (movL d (k + 1) ls)) ls.length := by
  rw [pairCells_set0 _ _ _ _ _ hk]
  refine pairCells_congr _ fun i hi => ⟨?_, ?_⟩
  · simp only [lbX, movL_S hi]
    by_cases e : i = k
    · subst e; rw [if_pos rfl, if_pos (Nat.lt_succ_self _)]
    · rw [if_neg e]
      by_cases h : i < k
      · rw [if_pos h, if_pos (by omega)]
      · rw [if_neg h, if_neg (by omega)]
  · simp only [lbY, movL_U hi]
theorem movL_same {d : Nat} {ls : List Lab} {k : Nat} (hk : k < ls.length) (h : movA d (lbS ls k) (lbU ls k) = lbS ls k) : pairCells (lbX (movL d k ls)) (lbY (movL d k ls)) ls.length = pairCells (lbX (movL d (k + 1) ls)) (lbY (movL d (k + 1) ls)) ls.length := by
  refine pairCells_congr _ fun i hi => ⟨?_, ?_⟩
  · simp only [lbX, movL_S hi]
    by_cases e : i = k
    · subst e; rw [if_neg (Nat.lt_irrefl _), if_pos (Nat.lt_succ_self _), h]
    · by_cases h : i < k
      · rw [if_pos h, if_pos (by omega)]
      · rw [if_neg h, if_neg (by omega)]
  · simp only [lbY, movL_U hi]

set_option maxRecDepth 100000 in
set_option maxHeartbeats 2000000 in
theorem movedLabels_any (v : Value) (ls : List Lab) (d : Nat) (w : World) (lo : Nat) (hv : LabsAt lo w v ls) (hn : ls.length ≤ 1048576) (hd : d ≤ 1000) (hlow : ∀ i, i < ls.length → -1 ≤ lbS ls i ∧ lbS ls i ≤ 1048576) :
    Calls Try.prog 88 #[v, .int .i64 (d : Int)] w (RetPairs w 113 ls.length (lbX (movL d ls.length ls)) (lbY (movL d ls.length ls))) := by
  have hv' := hv
  obtain ⟨ao, cap, rfl, _, hz⟩ := hv'
  have HV := Lib.hid hv; clear hv
  have HZ := Lib.hid hz; clear hz
  have HLO := Lib.hid hlow; clear hlow
  go_enter Try.func88, Try.ntmps88
  go_wp2_with fail
  refine (clonelabs_any _ ls w lo HV.out (by omega)).mono ?_
  rintro e w1 ⟨v1, rfl, hown, hb⟩
  obtain ⟨a1, c1, rfl⟩ := owns_form hown
  have z1 := hb.size
  have HO1 := Lib.hid hown; clear hown
  have HO0 := Lib.hid (show w1.ownsRow w.heap.size 113 2 (.slice a1 ls.length c1) ls.length (pairCells (lbX (movL d 0 ls)) (lbY (movL d 0 ls)) ls.length) by rw [movL_zero]; exact HO1.out)
  obtain ⟨n, hnn⟩ : ∃ n, n = ls.length := ⟨_, rfl⟩
  rw [← hnn] at HO0 HO1 HZ HLO hn ⊢
  have HN := Lib.hid hnn; clear hnn
  go_wp2_with fail
  go_loopw [12] (fun i wr => ∃ k : Nat, k ≤ n ∧ i = .int .i64 k ∧ Hid (wr.ownsRow w.heap.size 113 2 (.slice a1 n c1) n (pairCells (lbX (movL d k ls)) (lbY (movL d k ls)) n)) ∧ Hid (w1.grownBy wr (Value.slice a1 n c1).ownBlock)) (fun i _ => n - (intOf i).toNat)
  case atStart => exact ⟨0, Nat.zero_le _, rfl, HO0, ⟨rfl, rfl, rfl, Nat.le_refl _, fun _ _ _ => rfl⟩⟩
  case round =>
    obtain ⟨k, hk, rfl, hown, hgrow⟩ := hrel
    have zz := hgrow.out.size
    have hwr : Below w.heap.size w wr := hb.grown hgrow.out hb.size (fun g hg => by have := (HO1.out.lt g hg).1; omega)
    by_cases hlt : k < n
    · rcases HZ.out with h0 | ⟨b, off, rfl, hlo, hcell⟩
      · omega
      obtain ⟨d0, d1⟩ := hcell k hlt
      have hb0 : b < w.heap.size := cell_old d0
      have d0 := Carries.of lo hwr _ _ hlo d0
      have d1 := Carries.of lo hwr _ _ hlo d1
      try dsimp only at d0 d1
      clear hcell
      obtain ⟨q0, q1⟩ := HLO.out k hlt
      have hst0 := movL_step (d := d) (ls := ls) (k := k) (by rw [← HN.out]; exact hlt)
      have hst1 := movL_same (d := d) (ls := ls) (k := k) (by rw [← HN.out]; exact hlt)
      have hSk := movL_S (d := d) (k := k) (ls := ls) (i := k) (by rw [← HN.out]; exact hlt)
      rw [if_neg (Nat.lt_irrefl _)] at hSk
      rw [← HN.out] at hst0 hst1
      obtain ⟨x, hx⟩ : ∃ x, x = lbS ls k := ⟨_, rfl⟩
      obtain ⟨y, hy⟩ : ∃ y, y = lbU ls k := ⟨_, rfl⟩
      rw [← hx] at d0 q0 q1 hst0 hst1 hSk
      rw [← hy] at d1 hst0 hst1
      clear hx hy
      have HT0 := Lib.hid hst0; clear hst0
      have HT1 := Lib.hid hst1; clear hst1
      have HA := hown.out
      rcases HA.2 with ⟨e, hn0⟩ | ⟨g, cap', cur, e, hgb, hgg, _⟩
      · omega
      simp only [Value.slice.injEq, true_and] at e
      obtain ⟨rfl, rfl⟩ := e
      clear HA hgg
      have hbA : Below wr.heap.size wr (wr.alloc (.cells #[.int .i64 x, .bool y] 113)) := (Below.refl _ _).alloc (Nat.le_refl _) _
      have HAL := Lib.hid (owns_after hown.out hbA); clear hown
      have HBA := Lib.hid hbA; clear hbA
      go_wp2_with fail
      refine (isDummy_any x y _).mono ?_
      rintro e w3 ⟨rfl, hb3⟩
      have hb3' : Below wr.heap.size wr w3 := HBA.out.trans (hb3.mono HBA.out.size)
      have HA := owns_after HAL.out hb3
      have hgw : w1.grownBy w3 (Value.slice (some ⟨g, 0, none⟩) n c1).ownBlock := Lib.grownBy_trans hgrow.out ⟨hb3'.os, hb3'.tape, hb3'.output, hb3'.size, fun q hq _ => hb3'.block q hq⟩
      have HGW := Lib.hid hgw; clear hgw
      clear hb3 HAL HBA
      by_cases hdm : x = -1 ∧ y = false
      · obtain ⟨rfl, rfl⟩ := hdm
        have hm : movA d (-1) false = -1 := by unfold movA; rw [if_pos ⟨rfl, rfl⟩]
        have HA2 := HA
        rw [HT1.out hm] at HA2
        have HA3 := Lib.hid HA2; clear HA2 HA
        go_wp2_with fail
        go_roundw
        case rel => exact ⟨k + 1, by omega, by go_num, HA3.out, HGW.out⟩
        case measure => simp [intOf]; omega
      · have hm : movA d x y = x + d := by unfold movA; rw [if_neg hdm]
        have hbool : (decide (x = -1) && !y) = false := by
          cases y
          · have : x ≠ -1 := fun e => hdm ⟨e, rfl⟩
            simp [this]
          · simp
        rw [hbool]
        clear hbool hdm
        have hcl := (pairCells_get (lbX (movL d k ls)) (lbY (movL d k ls)) n k hlt).1
        have hcl : (pairCells (lbX (movL d k ls)) (lbY (movL d k ls)) n)[k * 2]? = some (.int .i64 x) := by rw [hcl]; show some (Value.int .i64 (lbS (movL d k ls) k)) = _; rw [hSk]
        have f0 := HA.frozenAt (k * 2)
        have k0 := (HA.cellAt (k * 2) (by omega)).trans hcl
        have hst := HA.stored (k * 2) (.int .i64 (x + d))
        rw [← hm, HT0.out, hm] at hst
        have HST := Lib.hid hst
        clear hst hcl HA hm
        go_wp2_with fail
        go_roundw
        case rel => exact ⟨k + 1, by omega, by go_num, HST.out.1, Lib.grownBy_trans HGW.out HST.out.2⟩
        case measure => simp [intOf]; omega
    · have hkk : k = n := by omega
      subst hkk
      go_wp2_with fail
      go_ret
      have := hown.out
      exact ⟨_, rfl, by rw [HN.out] at this ⊢; exact this, hwr⟩

end Go.Proofs.Ytgmnknlnlmcmfaa
