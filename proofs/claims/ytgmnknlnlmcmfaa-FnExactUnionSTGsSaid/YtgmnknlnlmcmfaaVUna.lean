/- WALKS: movedPlaces of the program, l1Shift of the model: a list of places, each moved by so many. -/
import Derived.Test.YtgmnknlnlmcmfaaVRev
import Derived.Test.YtgmnknlnlmcmfaaVApb
namespace Go.Proofs.Ytgmnknlnlmcmfaa
open Go.RowKit

/-- a list moved -/
def movI (zs : List Int) (d : Int) : List Int := zs.map (· + d)
theorem movI_length (zs : List Int) (d : Int) : (movI zs d).length = zs.length := by simp [movI]
theorem movI_get {zs : List Int} {d : Int} {i : Nat} (h : i < zs.length) : (movI zs d).getD i 0 = zs.getD i 0 + d := by simp [movI, List.getD, h]
/-- small numbers throughout -/
def LowI (zs : List Int) : Prop := ∀ i, i < zs.length → 0 ≤ zs.getD i 0 ∧ zs.getD i 0 ≤ 1000

set_option maxRecDepth 100000 in
set_option maxHeartbeats 1000000 in
theorem movedPlaces_any (v : Value) (zs : List Int) (d : Int) (w : World) (lo : Nat) (hv : IntsAt lo w v zs) (hn : zs.length ≤ 1048576) (hlow : LowI zs) (hd0 : 0 ≤ d) (hd1 : d ≤ 1000) :
    Calls Try.prog 194 #[v, .int .i64 d] w (RetIntsO w (movI zs d)) := by
  have hv' := hv
  obtain ⟨ao, cap, rfl, _, _⟩ := hv'
  have HV := Lib.hid hv; clear hv
  have HL := Lib.hid hlow; clear hlow
  go_enter Try.func194, Try.ntmps194
  go_wp2_with fail
  refine (copyInts_any _ zs w lo HV.out hn).mono ?_
  rintro e w1 ⟨r, rfl, hi, hb⟩
  obtain ⟨a1, k1, rfl, hc1, hz1⟩ := hi
  rcases hz1 with rfl | ⟨b, off, rfl, hlo, hcell⟩
  · simp only [List.length_nil]
    go_wp2_with fail
    go_rounds 1
    go_ret
    exact ⟨_, rfl, ⟨a1, k1, rfl, Nat.zero_le _, Or.inl rfl⟩, hb⟩
  have HC := Lib.hid hcell; clear hcell
  go_wp2_with fail
  go_loopw [11] (fun i wr => ∃ k : Nat, k ≤ zs.length ∧ i = .int .i64 k ∧ Hid (∀ j, j < zs.length → wr.cell? ⟨b, off + j, none⟩ = some (.int .i64 (if j < k then zs.getD j 0 + d else zs.getD j 0)) ∧ wr.frozen? ⟨b, off + j, none⟩ = false) ∧ Below w.heap.size w wr) (fun i _ => zs.length - (intOf i).toNat)
  case atStart => exact ⟨0, Nat.zero_le _, rfl, fun j hj => by rw [if_neg (Nat.not_lt_zero _)]; exact HC.out j hj, hb⟩
  case round =>
    obtain ⟨k, hk, rfl, hall, hb1⟩ := hrel
    by_cases hlt : k < zs.length
    · obtain ⟨c0, f0⟩ := hall.out k hlt
      rw [if_neg (Nat.lt_irrefl _)] at c0
      obtain ⟨hx0, hx1⟩ := HL.out k hlt
      have HN : Hid (∀ x, x = zs.getD k 0 → ∀ j, j < zs.length → (wr.setCell ⟨b, off + k, none⟩ (.int .i64 (x + d))).cell? ⟨b, off + j, none⟩ = some (.int .i64 (if j < k + 1 then zs.getD j 0 + d else zs.getD j 0)) ∧ (wr.setCell ⟨b, off + k, none⟩ (.int .i64 (x + d))).frozen? ⟨b, off + j, none⟩ = false) := by
        intro x hx j hj
        obtain ⟨q0, q1⟩ := hall.out j hj
        refine ⟨?_, (World.frozen?_setCell _ _ _ _).trans q1⟩
        by_cases e : j = k
        · subst e
          rw [if_pos (Nat.lt_succ_self _), ← hx]
          exact World.cell?_setCell_same _ _ _ q0
        · rw [World.cell?_setCell_other _ _ _ _ (by intro h; injection h with h1 h2 h3; omega), q0]
          by_cases e2 : j < k
          · rw [if_pos e2, if_pos (by omega)]
          · rw [if_neg e2, if_neg (by omega)]
      have HN2 := Lib.hid (HN.out _ rfl)
      have hB : Below w.heap.size w (wr.setCell ⟨b, off + k, none⟩ (.int .i64 (zs.getD k 0 + d))) := hb1.setCell hlo _
      have HBB := Lib.hid hB; clear hB HN
      generalize zs.getD k 0 = x at c0 hx0 hx1 HN2 HBB
      clear hall
      go_wp2_with fail
      go_roundw
      case rel => exact ⟨k + 1, by omega, by go_num, HN2.out, HBB.out⟩
      case measure => simp [intOf]; omega
    · have hkk : k = zs.length := by omega
      subst hkk
      have HA := Lib.hid hall.out; clear hall
      go_wp2_with fail
      go_ret
      refine ⟨_, rfl, ⟨_, k1, by rw [movI_length]; rfl, by rw [movI_length]; exact hc1, Or.inr ⟨b, off, rfl, hlo, fun i hi => ?_⟩⟩, hb1⟩
      rw [movI_length] at hi
      obtain ⟨q0, q1⟩ := HA.out i hi
      rw [if_pos hi] at q0
      rw [movI_get hi]
      exact ⟨q0, q1⟩

theorem movI_take_succ {zs : List Int} {d : Int} {k : Nat} (hk : k < zs.length) : movI (zs.take (k + 1)) d = movI (zs.take k) d ++ [zs.getD k 0 + d] := by
  have e : zs.getD k 0 = zs[k] := by simp [List.getD, hk]
  rw [List.take_succ_eq_append_getElem hk, e]
  simp only [movI, List.map_append, List.map_cons, List.map_nil]

set_option maxRecDepth 100000 in
set_option maxHeartbeats 1000000 in
theorem l1Shift_any (v : Value) (zs : List Int) (d : Int) (w : World) (lo : Nat) (hv : IntsAt lo w v zs) (hn : zs.length ≤ 1048576) (hlow : LowI zs) (hd0 : 0 ≤ d) (hd1 : d ≤ 1000) :
    Calls Try.prog 137 #[v, .int .i64 d] w (RetOwn w (movI zs d)) := by
  obtain ⟨ao, cap, rfl, _, hz⟩ := hv
  have HF := Lib.hid hz; clear hz
  have HL := Lib.hid hlow; clear hlow
  go_enter Try.func137, Try.ntmps137
  go_wp2_with fail
  go_loopw [5, 10] (fun l i wr => ∃ k : Nat, k ≤ zs.length ∧ i = .int .i64 k ∧ Hid (wr.ownsRow w.heap.size 3 1 l (movI (zs.take k) d).length (intCells (movI (zs.take k) d))) ∧ Below w.heap.size w wr) (fun _ i _ => zs.length - (intOf i).toNat)
  case atStart => exact ⟨0, Nat.zero_le _, rfl, World.ownsRow_nil _ _ _ _, Below.refl _ _⟩
  case round =>
    obtain ⟨k, hk, rfl, hown, hb1⟩ := hrel
    have zz1 := hb1.size
    by_cases hlt : k < zs.length
    · rcases HF.out with rfl | ⟨b, off, rfl, hlo, hcell⟩
      · simp at hlt
      have c1 := Carries.of lo hb1 _ _ hlo (hcell k hlt)
      obtain ⟨hx0, hx1⟩ := HL.out k hlt
      have he := movI_take_succ (d := d) hlt
      have hle : (movI (zs.take k) d).length ≤ k := by rw [movI_length, List.length_take]; omega
      clear hcell
      generalize zs.getD k 0 = x at c1 hx0 hx1 he
      have HE := Lib.hid he; clear he
      go_wp2_with (refine wpList_append_ints rfl (.tmp 14) (.tmp 18) rfl w.heap.size 0 _ _ _ rfl (World.ownsRow.alloc hown.out _) _ [x + d] rfl (ints_one _ _ _) (by simp; omega) (by simp; omega) ?_; intro v' w' hown' hgrow)
      have hw4 : Below w.heap.size w w' := (hb1.alloc zz1 _).grown hgrow (by simp; omega) (fun g hg => (hown.out.lt g hg).1)
      have HO4 := Lib.hid (show w'.ownsRow w.heap.size 3 1 v' (movI (zs.take (k + 1)) d).length (intCells (movI (zs.take (k + 1)) d)) by rw [HE.out, List.length_append, intCells_append]; exact hown')
      clear hown' hgrow hown
      go_wp2_with fail
      go_roundw
      case rel => exact ⟨k + 1, by omega, by go_num, HO4.out, hw4⟩
      case measure => simp [intOf]; omega
    · have hkk : k = zs.length := by omega
      have HO2 := Lib.hid hown.out; clear hown
      subst hkk
      rw [List.take_length] at HO2
      go_wp2_with fail
      go_ret
      exact ⟨_, rfl, HO2.out, hb1⟩

end Go.Proofs.Ytgmnknlnlmcmfaa
