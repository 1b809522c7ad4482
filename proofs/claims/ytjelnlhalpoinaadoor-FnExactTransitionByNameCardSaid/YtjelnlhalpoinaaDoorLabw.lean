/-
  WALK: labelledWith of the program.
-/
import Derived.Test.YtjelnlhalpoinaaDoorApb
import Derived.Test.YtjelnlhalpoinaaDoorStgj
namespace Go.Proofs.YtjelnlhalpoinaaDoor
open Go.RowKit

theorem ints_one2 (w : World) (o : Obj) (e : TypeId) (z : Int) : IntsAt 0 ((w.alloc o).alloc (.cells #[.int .i64 z] e)) (.slice (some ⟨w.heap.size + 1, 0, none⟩) 1 1) [z] := by
  have h := ints_one (w.alloc o) e z
  have e1 : (w.alloc o).heap.size = w.heap.size + 1 := by simp
  rw [e1] at h
  exact h

/-- label i is this one -/
def labIs (ls : List Lab) (a : Int) (u : Bool) (i : Nat) : Bool := decide (lbS ls i = a) && decide (lbU ls i = u)
/-- the transitions of this label -/
def labL (ls : List Lab) (a : Int) (u : Bool) : List Int := enTo (labIs ls a u) ls.length
theorem labL_small {ls : List Lab} {a : Int} {u : Bool} (h : ls.length ≤ 1048576) : (labL ls a u).length ≤ 1048576 := Nat.le_trans (enTo_length _ _) h

set_option maxRecDepth 100000 in
set_option maxHeartbeats 1000000 in
theorem labelledWith_any (p : Int) (a0 a1 : Option Addr) (m c0 ns c1 : Nat) (v : Value) (ls : List Lab) (a : Int) (u : Bool) (w : World) (lo : Nat) (hv : LabsAt lo w v ls) (hn : ls.length ≤ 1048576) :
    Calls Tryd.prog 53 #[.agg #[.int .i64 p, .slice a0 m c0, .slice a1 ns c1, v], .agg #[.int .i64 a, .bool u]] w (RetIntsO w (labL ls a u)) := by
  obtain ⟨f, hf⟩ : ∃ f, f = labIs ls a u := ⟨_, rfl⟩
  obtain ⟨L, hL⟩ : ∃ L, L = enTo f ls.length := ⟨_, rfl⟩
  have e : labL ls a u = L := by rw [hL, hf]; rfl
  rw [e]; clear e
  have HF0 := Lib.hid hf; clear hf
  have HL := Lib.hid hL; clear hL
  obtain ⟨ao, cap, rfl, hc, hz⟩ := hv
  have HF := Lib.hid hz; clear hz
  go_enter Tryd.func53, Tryd.ntmps53
  go_wp2_with fail
  have hW : Below w.heap.size w ((w.alloc (.cells #[.int .i64 p, .slice a0 m c0, .slice a1 ns c1, .slice ao ls.length cap] 72)).alloc (.cells #[.int .i64 a, .bool u] 51)) := by (repeat' (first | (with_reducible exact Below.refl _ _) | (with_reducible assumption) | (with_reducible refine Below.alloc ?_ ?_ _) | (with_reducible refine Below.drew ?_) | (with_reducible refine below_drewN ?_ _) | (with_reducible refine Below.setCell ?_ ?_ _) | go_size))
  have x0 : ((w.alloc (.cells #[.int .i64 p, .slice a0 m c0, .slice a1 ns c1, .slice ao ls.length cap] 72)).alloc (.cells #[.int .i64 a, .bool u] 51)).cell? ⟨w.heap.size + 1, 0, none⟩ = some (.int .i64 a) := by simp
  have x1 : ((w.alloc (.cells #[.int .i64 p, .slice a0 m c0, .slice a1 ns c1, .slice ao ls.length cap] 72)).alloc (.cells #[.int .i64 a, .bool u] 51)).cell? ⟨w.heap.size + 1, 1, none⟩ = some (.bool u) := by simp
  generalize (w.alloc (.cells #[.int .i64 p, .slice a0 m c0, .slice a1 ns c1, .slice ao ls.length cap] 72)).alloc (.cells #[.int .i64 a, .bool u] 51) = W at hW x0 x1 ⊢
  have zW := hW.size
  have X0 := Lib.hid x0; clear x0
  have X1 := Lib.hid x1; clear x1
  go_loopw [5, 11] (fun l i wr => ∃ k : Nat, k ≤ ls.length ∧ i = .int .i64 k ∧ Hid (wr.ownsRow W.heap.size 3 1 l (enTo f k).length (intCells (enTo f k))) ∧ Below W.heap.size W wr) (fun _ i _ => ls.length - (intOf i).toNat)
  case atStart => exact ⟨0, Nat.zero_le _, rfl, World.ownsRow_nil _ _ _ _, Below.refl _ _⟩
  case round =>
    obtain ⟨k, hk, rfl, hown, hb1⟩ := hrel
    have zz1 := hb1.size
    by_cases hlt : k < ls.length
    · rcases HF.out with h0 | ⟨b, off, rfl, hlo, hcell⟩
      · omega
      obtain ⟨c0', c1'⟩ := hcell k hlt
      have d0 := Carries.of lo (hW.trans (hb1.mono zW)) _ _ hlo c0'
      have d1 := Carries.of lo (hW.trans (hb1.mono zW)) _ _ hlo c1'
      clear hcell c0' c1'
      have x0 := cell_keep X0.out hb1 (Nat.le_refl _)
      have x1 := cell_keep X1.out hb1 (Nat.le_refl _)
      have hfk : f k = (decide (lbS ls k = a) && decide (lbU ls k = u)) := by rw [HF0.out]; rfl
      have hle := enTo_length f k
      try dsimp only at d0 d1
      generalize lbS ls k = q0 at d0 hfk
      generalize lbU ls k = q1 at d1 hfk
      have y0 := cell_carry x0 (Carries.alloc (Carries.refl 0 wr) (.cells #[.int .i64 q0, .bool q1] 51))
      have y1 := cell_carry x1 (Carries.alloc (Carries.refl 0 wr) (.cells #[.int .i64 q0, .bool q1] 51))
      have hwA : Below W.heap.size W (wr.alloc (.cells #[.int .i64 q0, .bool q1] 51)) := hb1.alloc zz1 _
      have HA := Lib.hid (World.ownsRow.alloc hown.out (.cells #[.int .i64 q0, .bool q1] 51))
      clear hown
      cases hd : f k with
      | false =>
        have he := enTo_false hd
        rw [hd] at hfk
        have HO4 := Lib.hid (show (wr.alloc (.cells #[.int .i64 q0, .bool q1] 51)).ownsRow W.heap.size 3 1 u5 (enTo f (k + 1)).length (intCells (enTo f (k + 1))) by rw [he]; exact HA.out)
        clear he hd
        by_cases e0 : q0 = a
        · subst e0
          have e1 : ¬ q1 = u := fun h => by simp [h] at hfk
          have t1 : (q1 == u) = false := by simpa using e1
          clear hfk e1
          go_wp2_with fail
          go_roundw
          case rel => exact ⟨k + 1, by omega, by go_num, HO4, hwA⟩
          case measure => simp [intOf]; omega
        · have t0 : (q0 == a) = false := by simpa using e0
          clear hfk e0
          go_wp2_with fail
          go_roundw
          case rel => exact ⟨k + 1, by omega, by go_num, HO4, hwA⟩
          case measure => simp [intOf]; omega
      | true =>
        have he := Lib.hid (enTo_true hd)
        rw [hd] at hfk
        clear hd
        obtain ⟨e0, e1⟩ : q0 = a ∧ q1 = u := by simpa using hfk.symm
        subst e0; subst e1
        clear hfk
        go_wp2_with (refine wpList_append_ints rfl (.tmp 19) (.tmp 21) rfl W.heap.size 0 _ _ _ rfl (World.ownsRow.alloc HA.out _) _ [(k : Int)] rfl (ints_one2 _ _ _ _) (by simp; omega) (by simp; omega) ?_; intro v' w' hown' hgrow)
        have hw4 : Below W.heap.size W w' := (hwA.alloc (by simp; omega) _).grown hgrow (by simp; omega) (fun g hg => (HA.out.lt g hg).1)
        have HO4 := Lib.hid (show w'.ownsRow W.heap.size 3 1 v' (enTo f (k + 1)).length (intCells (enTo f (k + 1))) by rw [he.out, List.length_append, intCells_append]; exact hown')
        go_wp2_with fail
        go_roundw
        case rel => exact ⟨k + 1, by omega, by go_num, HO4, hw4⟩
        case measure => simp [intOf]; omega
    · have hkk : k = ls.length := by omega
      have HO2 : Hid (IntsOw w.heap.size wr u5 L) := by
        have h := ow_of_owns (Go.Joins.ownsRow_le hown.out zW)
        rw [hkk, ← HL.out] at h
        exact h
      subst hkk
      go_wp2_with fail
      go_ret
      exact ⟨_, rfl, HO2.out, hW.trans (hb1.mono zW)⟩

end Go.Proofs.YtjelnlhalpoinaaDoor
