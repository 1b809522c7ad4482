/- WALKS: l7Asked, l7Made (no event), InitialUnfolding of the model. -/
import Derived.Test.YtigkgfdnnfmmmaaGreatVUfi
namespace Go.Proofs.YtigkgfdnnfmmmaaGreat
open Go.RowKit

set_option maxRecDepth 100000 in
set_option maxHeartbeats 400000 in
theorem l7Asked_any (v : Value) (n : NetD) (s : ByteArray) (w : World) (lo : Nat) (hv : NetAt lo w v n) (hsm : SmallTrs n.ts) (hs : s.size ≤ 1048576) :
    Calls Tryz.prog 53 #[v, .string s] w (RetB w (iuB n s)) := by
  unfold iuB
  generalize hG : goodN n = g
  have HG := Lib.hid hG; clear hG
  generalize hM : markB n s = m
  have HM := Lib.hid hM; clear hM
  have hv' := hv
  obtain ⟨hp0, hp1, u, rfl, ht⟩ := hv'
  obtain ⟨ao, cap, rfl, hc, hz⟩ := ht
  have HV := Lib.hid hv; clear hv hz
  have HS := Lib.hid hsm; clear hsm
  go_enter Tryz.func53, Tryz.ntmps53
  go_wp2_with fail
  refine (l1Good_any _ n _ lo (HV.out.keep ?_) HS.out).mono ?_
  · (repeat' (first | (with_reducible exact Carries.refl _ _) | (with_reducible assumption) | (with_reducible refine Carries.alloc ?_ _) | (with_reducible refine Carries.drew ?_) | (with_reducible refine Carries.drewN ?_ _) | (with_reducible refine Carries.set ?_ ?_ _) | go_size))
  rintro e w1 ⟨rfl, hb⟩
  have hw1 : Below w.heap.size w w1 := by
    refine Below.trans ?_ (hb.mono ?_)
    · (repeat' (first | (with_reducible exact Below.refl _ _) | (with_reducible assumption) | (with_reducible refine Below.alloc ?_ ?_ _) | (with_reducible refine Below.drew ?_) | (with_reducible refine below_drewN ?_ _) | (with_reducible refine Below.setCell ?_ ?_ _) | go_size))
    · simp
  have a0 : w1.cell? ⟨w.heap.size, 0, none⟩ = some (.int .i64 n.places) := cell_carry (by simp) (Carries.of 0 hb)
  have a1 : w1.cell? ⟨w.heap.size, 1, none⟩ = some (.slice ao n.ts.length cap) := cell_carry (by simp) (Carries.of 0 hb)
  clear hb
  rw [HG.out]
  cases g with
  | false =>
    go_wp2_with fail
    go_ret
    exact ⟨rfl, hw1⟩
  | true =>
    go_wp2_with fail
    refine (l1Mark_any _ n s _ lo (HV.out.keep (Carries.of lo hw1)) hs).mono ?_
    rintro e w2 ⟨rfl, hb2⟩
    have hw2 : Below w.heap.size w w2 := hw1.trans (hb2.mono hw1.size)
    rw [HM.out]
    cases m with
    | false =>
      go_wp2_with fail
      go_ret
      exact ⟨rfl, hw2⟩
    | true =>
      go_wp2_with fail
      go_ret
      exact ⟨rfl, hw2⟩

/-- a call returns conditions in a row of its own -/
def RetCnds (w : World) (cs : List Cnd) (e : Ending) (w' : World) : Prop := ∃ v, e = .returned v ∧ CRow w.heap.size w' v cs ∧ Below w.heap.size w w'

set_option maxRecDepth 100000 in
set_option maxHeartbeats 1000000 in
theorem l7Made_nil (vt : Value) (o1 : vt.oneCell' = true) (s : ByteArray) (w : World) (hs : s.size ≤ 1048576) :
    Calls Tryz.prog 54 #[.agg #[.int .i64 (s.size : Int), vt], .string s, .slice none 0 0] w (RetCnds w (bornTo s s.size)) := by
  go_enter Tryz.func54, Tryz.ntmps54
  go_wp2_with fail
  go_loopw [7, 8] (fun o i wr => ∃ (k : Nat) (a : Option Addr) (c : Nat), k ≤ s.size ∧ i = .int .i64 k ∧ o = .slice a (bornTo s k).length c ∧ Hid (CRow w.heap.size wr (.slice a (bornTo s k).length c) (bornTo s k)) ∧ Below w.heap.size w wr ∧ wr.cell? ⟨w.heap.size, 0, none⟩ = some (.int .i64 (s.size : Int)) ∧ TyAt wr w.heap.size 43) (fun _ i _ => s.size - (intOf i).toNat)
  case atStart => exact ⟨0, none, 0, Nat.zero_le _, rfl, rfl, CRow.nil _ _, (Below.refl _ _).alloc (Nat.le_refl _) _, by simp, TyAt.new _ _ _⟩
  case round =>
    obtain ⟨k, a, c, hk, rfl, rfl, hrow, hb1, hbox, hT⟩ := hrel
    have hl30 := bornTo_length s k
    by_cases hlt : k < s.size
    · by_cases h8 : s[k].toNat = 49
      · have t8 : ((s[k].toNat : Int) == 49) = true := by rw [h8]; rfl
        have HB := Lib.hid (bornTo_yes hlt h8)
        clear h8
        have HA : Below wr.heap.size wr (wr.alloc (.cells #[.int .i64 (k : Int), .int .i64 (-1)] 96)) := (Below.refl _ _).alloc (Nat.le_refl _) _
        have hrow1 := Lib.hid (owns_after hrow.out HA)
        have hbox1 := cell_carry hbox (Carries.of 0 HA)
        have hT1 := Lib.hid (hT.keep HA)
        have hw1 := Lib.hid (hb1.trans (HA.mono hb1.size))
        have hzz := hb1.size
        clear HA hrow hT hb1
        go_wp2_with (refine wpList_append_cnd rfl (.tmp 23) (.tmp 26) rfl w.heap.size _ (bornTo s k) rfl hrow1.out wr.heap.size (k : Int) (-1) rfl (cell_new2 rfl).1 (cell_new2 rfl).2 (by omega) (by simp; omega) ?_; intro g kv w' hown hg)
        have hne := owns_ne hrow1.out hT1.out (by decide)
        have hbx := hg.cell hbox1 hne
        have hTx := hT1.out.grown hg hne
        have hwx := below_grown hw1.out (by simp; omega) hrow1.out (Nat.le_refl _) hg
        have H2 : Hid (CRow w.heap.size w' (.slice (some ⟨g, 0, none⟩) (bornTo s (k + 1)).length kv) (bornTo s (k + 1))) := by
          rw [HB.out, List.length_append]; exact hown
        have e2 : (bornTo s k).length + 1 = (bornTo s (k + 1)).length := by rw [HB.out, List.length_append]; rfl
        clear hown hg hrow1 hT1 hw1 hbox hbox1
        go_roundw
        case rel => exact ⟨k + 1, some ⟨g, 0, none⟩, kv, by omega, by go_num, by first | rw [e2] | rfl, H2, hwx, hbx, hTx⟩
        case measure => simp [intOf]; omega
      · have t8 : ((s[k].toNat : Int) == 49) = false := by simp; omega
        have HB := Lib.hid (bornTo_no hlt h8)
        clear h8
        go_wp2_with fail
        go_roundw
        case rel => exact ⟨k + 1, a, c, by omega, by go_num, by rw [HB.out], by rw [HB.out]; exact hrow, hb1, hbox, hT⟩
        case measure => simp [intOf]; omega
    · have hkk : k = s.size := by omega
      subst hkk
      have HRR := Lib.hid hrow.out; clear hrow
      go_wp2_with fail
      go_rounds 1
      go_wp2_with fail
      go_ret
      exact ⟨_, rfl, HRR.out, hb1⟩

end Go.Proofs.YtigkgfdnnfmmmaaGreat
