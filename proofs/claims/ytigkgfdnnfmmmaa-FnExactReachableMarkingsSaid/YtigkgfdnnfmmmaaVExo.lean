/- WALK: newExplorer. -/
import Derived.Test.YtigkgfdnnfmmmaaVExn
import Derived.Carry
namespace Go.Proofs.Ytigkgfdnnfmmmaa
open Go.RowKit Go.Maps

def RetNew (w : World) (P : Int) (vt : Value) (m : ByteArray) (e : Ending) (w' : World) : Prop :=
  ∃ E M vm, e = .returned (.pointer (some ⟨E, 0, none⟩)) ∧ XpAt w.heap.size E M w' P vt vm (.slice none 0 0) 0 0 false ⟨[m], []⟩ ∧ Below w.heap.size w w'

set_option maxRecDepth 100000 in
set_option maxHeartbeats 1000000 in
theorem newExplorer_any (p : Int) (ao : Option Addr) (c cap : Nat) (m : ByteArray) (w : World) (hm : m.size ≤ 30) :
    Calls Try.prog 48 #[.agg #[.int .i64 p, .slice ao c cap], .string m] w (RetNew w p (.slice ao c cap) m) := by
  obtain ⟨W, hW⟩ : ∃ q, q = ((w.alloc (.cells #[.int .i64 p, .slice ao c cap] 38)).alloc (.map #[] 0)).alloc (.cells #[.int .i64 p, .slice ao c cap, .map (some (w.heap.size + 1)), .slice none 0 0, .slice none 0 0, .int .i64 0, .int .i64 0, .bool false] 85) := ⟨_, rfl⟩
  have hz : W.heap.size = w.heap.size + 1 + 1 + 1 := by rw [hW]; simp
  have hX : XpAt w.heap.size (w.heap.size + 1 + 1) (w.heap.size + 1) W p (.slice ao c cap) (.slice none 0 0) (.slice none 0 0) 0 0 false ⟨[], []⟩ := by
    refine ⟨?_, ?_, ?_, ?_, ?_, ?_, ?_, ?_, fun i => ?_, ?_, by omega, by omega, ?_, World.ownsRow_nil _ _ _ _, World.ownsRow_nil _ _ _ _⟩
    all_goals (try (rw [hW]; simp [go_sem]; done))
    · rw [hW]
      exact ⟨_, _, by rw [← show ((w.alloc (.cells #[.int .i64 p, .slice ao c cap] 38)).alloc (.map #[] 0)).heap.size = w.heap.size + 1 + 1 by simp]; exact heap_alloc_new _ _⟩
    · rw [hW]
      have := (World.ownsMap_made (H := Unit) (w.alloc (.cells #[.int .i64 p, .slice ao c cap] 38)) Try.prog 111 (plainElem Try.prog 3)).alloc (.cells #[.int .i64 p, .slice ao c cap, .map (some (w.heap.size + 1)), .slice none 0 0, .slice none 0 0, .int .i64 0, .int .i64 0, .bool false] 85)
      rw [World.size_alloc] at this
      exact this
  have hB : Below w.heap.size w W := by rw [hW]; (repeat' (first | (with_reducible exact Below.refl _ _) | (with_reducible assumption) | (with_reducible refine Below.alloc ?_ ?_ _) | (with_reducible refine Below.drew ?_) | (with_reducible refine below_drewN ?_ _) | (with_reducible refine Below.setCell ?_ ?_ _) | go_size))
  have HX := Lib.hid hX; have HB := Lib.hid hB; have HZ := Lib.hid hz
  clear hX hB hz
  have hmk := run_makeMap (P := Try.prog) 82 (w.alloc (.cells #[.int .i64 p, .slice ao c cap] 38))
  go_enter Try.func48, Try.ntmps48
  go_wp2_with (go_at_call 78; clear hmk; rw [← hW]; clear hW; refine (readMarking_any m W hm).mono ?_)
  rintro e w1 ⟨rfl, hb1⟩
  have HX1 := Lib.hid (HX.out.after hb1)
  have hw1 : Below w.heap.size w w1 := HB.out.trans (hb1.mono HB.out.size)
  have z1 : w.heap.size ≤ w1.heap.size := hw1.size
  clear hb1
  go_wp2_with fail
  refine (number_any w.heap.size _ _ w1 p _ _ _ 0 0 false ⟨[], []⟩ m HX1.out hm (fun j hj => absurd hj (Nat.not_lt_zero _)) (fun a b _ hb => absurd hb (Nat.not_lt_zero _)) (by simp) z1).mono ?_
  rintro e w2 ⟨rfl, ⟨vm', hx2⟩, hb2⟩
  have HX2 := Lib.hid hx2
  have hw2 : Below w.heap.size w w2 := hw1.trans hb2
  clear hx2 hb2
  go_wp2_with fail
  go_ret
  exact ⟨_, _, vm', rfl, HX2.out, hw2⟩

end Go.Proofs.Ytigkgfdnnfmmmaa
