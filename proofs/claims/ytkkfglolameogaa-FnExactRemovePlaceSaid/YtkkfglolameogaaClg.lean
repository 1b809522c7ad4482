/-
  WALKS: closeGap of the program, l3Less of the model: each number above a place goes down by one.
-/
import Derived.Test.YtkkfglolameogaaUna
import Derived.Test.YtkkfglolameogaaSep
namespace Go.Proofs.Ytkkfglolameogaa
open Go.RowKit

def clX (g x : Int) : Int := if g < x then x - 1 else x
def clI (zs : List Int) (g : Int) : List Int := zs.map (clX g)
theorem clI_length (zs : List Int) (g : Int) : (clI zs g).length = zs.length := by simp [clI]
theorem clI_get {zs : List Int} {g : Int} {i : Nat} (h : i < zs.length) : (clI zs g).getD i 0 = clX g (zs.getD i 0) := by simp [clI, List.getD, h]

theorem IntsOw.of_cells {lo : Nat} {w : World} {b off cap : Nat} {zs : List Int} (hc : zs.length ≤ cap) (hlo : lo ≤ b) (h : ∀ i, i < zs.length → w.cell? ⟨b, off + i, none⟩ = some (.int .i64 (zs.getD i 0)) ∧ w.frozen? ⟨b, off + i, none⟩ = false) :
    IntsOw lo w (.slice (some ⟨b, off, none⟩) zs.length cap) zs := ⟨_, cap, rfl, hc, Or.inr ⟨b, off, rfl, hlo, h⟩⟩

set_option maxRecDepth 100000 in
set_option maxHeartbeats 1000000 in
theorem closeGap_any (v : Value) (zs : List Int) (g : Int) (w : World) (lo hi : Nat) (hv : IntsOw lo w v zs) (hB : Bound hi v) (hn : zs.length ≤ 1048576) (hlow : LowI zs) (hg0 : 0 ≤ g) :
    Calls Try.prog 84 #[v, .int .i64 g] w (fun e w' => e = .returned (.tuple #[]) ∧ Marks lo hi w w' ∧ IntsOw lo w' v (clI zs g)) := by
  have HV := Lib.hid hv
  obtain ⟨ao, cap, rfl, hc, hz⟩ := hv
  have HL := Lib.hid hlow; clear hlow
  rcases hz with rfl | ⟨b, off, rfl, hlo, hcell⟩
  · simp only [List.length_nil] at HV ⊢
    go_enter Try.func84, Try.ntmps84
    go_wp2_with fail
    go_rounds 1
    go_end0
    exact ⟨rfl, Marks.refl _ _ _, HV.out⟩
  have HC := Lib.hid hcell; clear hcell
  have HBD := Lib.hid (fun h => hB b off _ _ rfl h); clear hB
  go_enter Try.func84, Try.ntmps84
  go_wp2_with fail
  go_loopw [7] (fun i wr => ∃ k : Nat, k ≤ zs.length ∧ i = .int .i64 k ∧ Hid (∀ j, j < zs.length → wr.cell? ⟨b, off + j, none⟩ = some (.int .i64 (if j < k then clX g (zs.getD j 0) else zs.getD j 0)) ∧ wr.frozen? ⟨b, off + j, none⟩ = false) ∧ Hid (Marks lo hi w wr)) (fun i _ => zs.length - (intOf i).toNat)
  case atStart => exact ⟨0, Nat.zero_le _, rfl, fun j hj => by rw [if_neg (Nat.not_lt_zero _)]; exact HC.out j hj, Marks.refl _ _ _⟩
  case round =>
    obtain ⟨k, hk, rfl, hall, hm⟩ := hrel
    by_cases hlt : k < zs.length
    · obtain ⟨c0, f0⟩ := hall.out k hlt
      rw [if_neg (Nat.lt_irrefl _)] at c0
      obtain ⟨hx0, hx1⟩ := HL.out k hlt
      have hbh := HBD.out (by omega)
      by_cases hgt : g < zs.getD k 0
      · have HN : Hid (∀ x, x = zs.getD k 0 → ∀ j, j < zs.length → (wr.setCell ⟨b, off + k, none⟩ (.int .i64 (x - 1))).cell? ⟨b, off + j, none⟩ = some (.int .i64 (if j < k + 1 then clX g (zs.getD j 0) else zs.getD j 0)) ∧ (wr.setCell ⟨b, off + k, none⟩ (.int .i64 (x - 1))).frozen? ⟨b, off + j, none⟩ = false) := by
          intro x hx j hj
          obtain ⟨q0, q1⟩ := hall.out j hj
          refine ⟨?_, (World.frozen?_setCell _ _ _ _).trans q1⟩
          by_cases e : j = k
          · subst e
            rw [if_pos (Nat.lt_succ_self _), ← hx]
            have e2 : clX g x = x - 1 := by unfold clX; rw [if_pos (by rw [hx]; exact hgt)]
            rw [e2]
            exact World.cell?_setCell_same _ _ _ q0
          · rw [World.cell?_setCell_other _ _ _ _ (by intro h; injection h with h1 h2 h3; omega), q0]
            by_cases e2 : j < k
            · rw [if_pos e2, if_pos (by omega)]
            · rw [if_neg e2, if_neg (by omega)]
        have HN2 := Lib.hid (HN.out _ rfl)
        have HMM := Lib.hid (hm.out.set c0 hlo hbh (zs.getD k 0 - 1))
        clear HN hall
        generalize zs.getD k 0 = x at c0 hx0 hx1 HN2 HMM hgt
        go_wp2_with fail
        go_roundw
        case rel => exact ⟨k + 1, by omega, by go_num, HN2.out, HMM.out⟩
        case measure => simp [intOf]; omega
      · have HN2 : Hid (∀ j, j < zs.length → wr.cell? ⟨b, off + j, none⟩ = some (.int .i64 (if j < k + 1 then clX g (zs.getD j 0) else zs.getD j 0)) ∧ wr.frozen? ⟨b, off + j, none⟩ = false) := by
          intro j hj
          obtain ⟨q0, q1⟩ := hall.out j hj
          refine ⟨?_, q1⟩
          rw [q0]
          by_cases e : j = k
          · subst e
            rw [if_neg (Nat.lt_irrefl _), if_pos (Nat.lt_succ_self _)]
            unfold clX; rw [if_neg hgt]
          · by_cases e2 : j < k
            · rw [if_pos e2, if_pos (by omega)]
            · rw [if_neg e2, if_neg (by omega)]
        clear hall
        generalize zs.getD k 0 = x at c0 hx0 hx1 hgt
        go_wp2_with fail
        go_roundw
        case rel => exact ⟨k + 1, by omega, by go_num, HN2.out, hm.out⟩
        case measure => simp [intOf]; omega
    · have hkk : k = zs.length := by omega
      subst hkk
      have HA := Lib.hid hall.out; clear hall
      go_wp2_with fail
      go_end0
      refine ⟨rfl, hm.out, ?_⟩
      have hr := IntsOw.of_cells (lo := lo) (w := wr) (b := b) (off := off) (cap := cap) (zs := clI zs g) (by rw [clI_length]; exact hc) hlo (fun i hi' => by
        rw [clI_length] at hi'
        obtain ⟨q0, q1⟩ := HA.out i hi'
        rw [if_pos hi'] at q0
        rw [clI_get hi']
        exact ⟨q0, q1⟩)
      rw [clI_length] at hr
      exact hr

theorem clI_take_succ {zs : List Int} {g : Int} {k : Nat} (hk : k < zs.length) : clI (zs.take (k + 1)) g = clI (zs.take k) g ++ [clX g (zs.getD k 0)] := by
  have e : zs.getD k 0 = zs[k] := by simp [List.getD, hk]
  rw [List.take_succ_eq_append_getElem hk, e]
  simp only [clI, List.map_append, List.map_cons, List.map_nil]

set_option maxRecDepth 100000 in
set_option maxHeartbeats 1000000 in
theorem l3Less_any (v : Value) (zs : List Int) (g : Int) (w : World) (lo : Nat) (hv : IntsAt lo w v zs) (hn : zs.length ≤ 1048576) (hlow : LowI zs) (hg0 : 0 ≤ g) :
    Calls Try.prog 83 #[v, .int .i64 g] w (RetOwn w (clI zs g)) := by
  obtain ⟨ao, cap, rfl, _, hz⟩ := hv
  have HF := Lib.hid hz; clear hz
  have HL := Lib.hid hlow; clear hlow
  go_enter Try.func83, Try.ntmps83
  go_wp2_with fail
  go_loopw [5, 10] (fun l i wr => ∃ k : Nat, k ≤ zs.length ∧ i = .int .i64 k ∧ Hid (wr.ownsRow w.heap.size 3 1 l (clI (zs.take k) g).length (intCells (clI (zs.take k) g))) ∧ Below w.heap.size w wr) (fun _ i _ => zs.length - (intOf i).toNat)
  case atStart => exact ⟨0, Nat.zero_le _, rfl, World.ownsRow_nil _ _ _ _, Below.refl _ _⟩
  case round =>
    obtain ⟨k, hk, rfl, hown, hb1⟩ := hrel
    have zz1 := hb1.size
    by_cases hlt : k < zs.length
    · rcases HF.out with rfl | ⟨b, off, rfl, hlo, hcell⟩
      · simp at hlt
      have c1 := Carries.of lo hb1 _ _ hlo (hcell k hlt)
      obtain ⟨hx0, hx1⟩ := HL.out k hlt
      have he := clI_take_succ (g := g) hlt
      have hle : (clI (zs.take k) g).length ≤ k := by rw [clI_length, List.length_take]; omega
      clear hcell
      generalize zs.getD k 0 = x at c1 hx0 hx1 he
      by_cases hgt : g < x
      · have e2 : clX g x = x - 1 := by unfold clX; rw [if_pos hgt]
        rw [e2] at he
        have HE := Lib.hid he; clear he e2
        go_wp2_with (refine wpList_append_ints rfl (.tmp 19) (.tmp 21) rfl w.heap.size 0 _ _ _ rfl (World.ownsRow.alloc hown.out _) _ [x - 1] rfl (ints_one _ _ _) (by simp; omega) (by simp; omega) ?_; intro v' w' hown' hgrow)
        have hw4 : Below w.heap.size w w' := (hb1.alloc zz1 _).grown hgrow (by simp; omega) (fun g hg => (hown.out.lt g hg).1)
        have HO4 := Lib.hid (show w'.ownsRow w.heap.size 3 1 v' (clI (zs.take (k + 1)) g).length (intCells (clI (zs.take (k + 1)) g)) by rw [HE.out, List.length_append, intCells_append]; exact hown')
        clear hown' hgrow hown
        go_wp2_with fail
        go_roundw
        case rel => exact ⟨k + 1, by omega, by go_num, HO4.out, hw4⟩
        case measure => simp [intOf]; omega
      · have e2 : clX g x = x := by unfold clX; rw [if_neg hgt]
        rw [e2] at he
        have HE := Lib.hid he; clear he e2
        go_wp2_with (refine wpList_append_ints rfl (.tmp 19) (.tmp 21) rfl w.heap.size 0 _ _ _ rfl (World.ownsRow.alloc hown.out _) _ [x] rfl (ints_one _ _ _) (by simp; omega) (by simp; omega) ?_; intro v' w' hown' hgrow)
        have hw4 : Below w.heap.size w w' := (hb1.alloc zz1 _).grown hgrow (by simp; omega) (fun g hg => (hown.out.lt g hg).1)
        have HO4 := Lib.hid (show w'.ownsRow w.heap.size 3 1 v' (clI (zs.take (k + 1)) g).length (intCells (clI (zs.take (k + 1)) g)) by rw [HE.out, List.length_append, intCells_append]; exact hown')
        clear hown' hgrow hown
        go_wp2_with fail
        go_roundw
        case rel => exact ⟨k + 1, by omega, by go_num, HO4.out, hw4⟩
        case measure => simp [intOf]; omega
    · have hkk : k = zs.length := by omega
      have HO2 := Lib.hid hown.out; clear hown
      subst hkk
      rw [List.take_length] at HO2
      go_wp2_with fail
      go_ret
      exact ⟨_, rfl, HO2.out, hb1⟩

end Go.Proofs.Ytkkfglolameogaa
