/- WALK: l7Places of the model. -/
import Derived.Test.YtdiblkgjmkbpmaaGreatVLpt
import Derived.Test.YtdiblkgjmkbpmaaGreatVInts
namespace Go.Proofs.YtdiblkgjmkbpmaaGreat
open Go.RowKit

theorem puts_snoc (acc l : List Int) (x : Int) : puts acc (l ++ [x]) = putL (puts acc l) x := by simp [puts, List.foldl_append]
theorem plM_step {cs : List Cnd} {L : List Int} {k : Nat} (hk : k < L.length) : puts [] ((plL cs L).take (k + 1)) = putL (puts [] ((plL cs L).take k)) (cnP cs (L.getD k 0).toNat) := by
  have hk2 : k < (plL cs L).length := by rw [plL_length]; exact hk
  rw [List.take_succ_eq_append_getElem hk2, puts_snoc]
  congr 1
  rw [← plL_get hk]
  simp only [List.getD, List.getElem?_eq_getElem hk2, Option.getD_some]
theorem plM_len {cs : List Cnd} {L : List Int} {k : Nat} : (puts [] ((plL cs L).take k)).length ≤ k := by
  have h := puts_len ((plL cs L).take k) []
  have h2 := List.length_take_le k (plL cs L)
  simp at h
  omega

set_option maxRecDepth 100000 in
set_option maxHeartbeats 1000000 in
theorem l7Places_any (v vl : Value) (cs : List Cnd) (es : List Ev) (L : List Int) (w : World) (lo lo' : Nat) (hv : UnfAt lo w v ⟨cs, es⟩) (hvl : IntsAt lo' w vl L) (hl : L.length ≤ 1048576) (hin : ∀ k, k < L.length → 0 ≤ L.getD k 0 ∧ L.getD k 0 < (cs.length : Int)) :
    Calls Tryz.prog 103 #[v, vl] w (fun e w' => ∃ v', e = .returned v' ∧ IRow w.heap.size w' v' (plM cs L) ∧ Below w.heap.size w w') := by
  obtain ⟨G, hG⟩ : ∃ x, x = plM cs L := ⟨_, rfl⟩
  rw [← hG]
  have HG := Lib.hid hG; clear hG
  obtain ⟨a0, c0, a1, c1, rfl, hcn, hev⟩ := hv.form
  clear hv hev
  obtain ⟨ac, kc, e0, hkc, hcz⟩ := hcn
  injection e0 with e1 e2 e3
  subst e1; subst e3; clear e2
  simp only at hkc hcz ⊢
  have HC := Lib.hid hcz; clear hcz hkc
  have HIN := Lib.hid hin; clear hin
  obtain ⟨ao, cap, rfl, hxa, hxb⟩ := hvl
  have HF := Lib.hid hxb; clear hxb hxa
  obtain ⟨nc, hnc⟩ : ∃ x, x = cs.length := ⟨_, rfl⟩
  rw [← hnc] at HC HIN ⊢
  obtain ⟨ne, hne⟩ : ∃ x, x = es.length := ⟨_, rfl⟩
  rw [← hne]
  clear hnc hne
  go_enter Tryz.func103, Tryz.ntmps103
  have hW : Below w.heap.size w (w.alloc (.cells #[.slice a0 nc c0, .slice a1 ne c1] 39)) := (Below.refl _ _).alloc (Nat.le_refl _) _
  have x0 : (w.alloc (.cells #[.slice a0 nc c0, .slice a1 ne c1] 39)).cell? ⟨w.heap.size, 0, none⟩ = some (.slice a0 nc c0) := by simp
  have zW : w.heap.size < (w.alloc (.cells #[.slice a0 nc c0, .slice a1 ne c1] 39)).heap.size := by simp
  go_wp2_with fail
  generalize w.alloc (.cells #[.slice a0 nc c0, .slice a1 ne c1] 39) = W at hW x0 zW ⊢
  go_loopw [5, 10] (fun o i wr => ∃ k : Nat, k ≤ L.length ∧ i = .int .i64 k ∧ Hid (IRow w.heap.size wr o (puts [] ((plL cs L).take k))) ∧ Below W.heap.size W wr) (fun _ i _ => L.length - (intOf i).toNat)
  case atStart => exact ⟨0, Nat.zero_le _, rfl, World.ownsRow_nil _ _ _ _, Below.refl _ _⟩
  case round =>
    obtain ⟨k, hk, rfl, hrow, hb1⟩ := hrel
    have hw1 : Below w.heap.size w wr := hW.trans (hb1.mono hW.size)
    have x0 := cell_keep x0 hb1 (Nat.le_refl _)
    by_cases hlt : k < L.length
    · rcases HF.out with h0 | ⟨b, off, rfl, hlo, hcell⟩
      · exact absurd hlt (by rw [h0]; exact Nat.not_lt_zero _)
      have q0 := hcell k hlt
      have d0 := Carries.of lo' hw1 _ _ hlo q0
      clear hcell q0
      have hin := HIN.out k hlt
      have HST := Lib.hid (plM_step (cs := cs) hlt)
      have hlen := plM_len (cs := cs) (L := L) (k := k)
      generalize L.getD k 0 = c at d0 hin HST
      obtain ⟨cn, rfl⟩ := Int.eq_ofNat_of_zero_le hin.1
      rw [Int.toNat_natCast] at HST
      have i1 := hin.1
      have i2 := hin.2
      have hcn : cn < nc := by omega
      clear hin
      rcases HC.out with h0 | ⟨b2, off2, rfl, hlo2, hcell2⟩
      · exact absurd hcn (by rw [h0]; exact Nat.not_lt_zero _)
      obtain ⟨q0, q1⟩ := hcell2 cn hcn
      have g0 := Carries.of lo hw1 _ _ hlo2 q0
      clear hcell2 q0 q1
      try dsimp only at g0
      generalize cnP cs cn = p at g0 HST
      go_wp2_with fail
      refine (l1Put_any _ (puts [] ((plL cs L).take k)) p wr w.heap.size hrow.out hw1.size (by omega)).mono ?_
      rintro e w2 ⟨v2, rfl, hr2, hb2⟩
      have HR2 : Hid (IRow w.heap.size w2 v2 (puts [] ((plL cs L).take (k + 1)))) := by unfold Hid; rw [HST.out]; exact hr2
      have hb3 : Below W.heap.size W w2 := hb1.trans (hb2.mono hb1.size)
      clear hr2 hb2
      go_wp2_with fail
      go_roundw
      case rel => exact ⟨k + 1, by omega, by go_num, HR2, hb3⟩
      case measure => simp [intOf]; omega
    · have hkk : k = L.length := by omega
      subst hkk
      have hr := hrow.out
      rw [List.take_of_length_le (by rw [plL_length]; exact Nat.le_refl _)] at hr
      have HR : Hid (IRow w.heap.size wr u5 G) := by unfold Hid; rw [HG.out]; exact hr
      clear hr hrow
      go_wp2_with fail
      go_ret
      exact ⟨_, rfl, HR.out, hw1⟩

end Go.Proofs.YtdiblkgjmkbpmaaGreat
