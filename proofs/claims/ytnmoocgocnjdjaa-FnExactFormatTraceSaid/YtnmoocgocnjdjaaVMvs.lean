/- WALK: moves of the program (the arcs of a state graph as moves by their places). -/
import Derived.Test.YtnmoocgocnjdjaaVSgd
import Derived.Test.YtnmoocgocnjdjaaVRgat
namespace Go.Proofs.Ytnmoocgocnjdjaa
open Go.RowKit

def mvsOf (ls : List Ar) : List Mv := (List.range ls.length).map (fun i => (arF ls i, (i : Int), arT ls i))
theorem mvsOf_length (ls : List Ar) : (mvsOf ls).length = ls.length := by simp [mvsOf]
theorem mvsOf_get {ls : List Ar} {i : Nat} (h : i < ls.length) : mvF (mvsOf ls) i = arF ls i ∧ mvB (mvsOf ls) i = i ∧ mvT (mvsOf ls) i = arT ls i := by
  simp [mvF, mvB, mvT, mvsOf, List.getD, h]

set_option maxRecDepth 100000 in
set_option maxHeartbeats 1000000 in
theorem moves_any (v : Value) (r : SgD) (w : World) (lo : Nat) (hv : SgAt lo w v r) (hs : r.arcs.length ≤ 1048576) :
    Calls Try.prog 133 #[v] w (RetMoves w (mvsOf r.arcs)) := by
  obtain ⟨a0, c0, a1, c1, a2, c2, rfl, h_0, h_1, hl⟩ := hv.form
  clear hv h_0 h_1
  obtain ⟨gs, ss, ls⟩ := r
  simp only at hl hs ⊢
  obtain ⟨ao, cap, hvv, hc, hz⟩ := hl
  injection hvv with e1 e2 e3
  subst e1; subst e3; clear e2
  have HF := Lib.hid hz; clear hz
  have hmk := run_make_moves ls.length hs
  have hmf : ∀ i, i < ls.length → mvF (mvsOf ls) i = arF ls i ∧ mvB (mvsOf ls) i = i ∧ mvT (mvsOf ls) i = arT ls i := fun i h => mvsOf_get h
  have HM := Lib.hid hmf; clear hmf
  go_enter Try.func133, Try.ntmps133
  go_wp2_with fail
  go_loopw [13] (fun i wr => ∃ k : Nat, k ≤ ls.length ∧ i = .int .i64 k ∧ TripRow (w.heap.size + 1) 201 wr ls.length k (fun i => .int .i64 (mvF (mvsOf ls) i)) (fun i => .int .i64 (mvB (mvsOf ls) i)) (fun i => .int .i64 (mvT (mvsOf ls) i)) ∧ Below w.heap.size w wr ∧ w.heap.size + 1 < wr.heap.size) (fun i _ => ls.length - (intOf i).toNat)
  case atStart =>
    obtain ⟨f, hf⟩ := rowIs_size (w := w.alloc (.cells #[.slice a0 gs.length c0, .slice a1 ss.length c1, .slice a2 ls.length c2] 64)) (t := 201) (size_madeCells #[.int .i64 0, .int .i64 0, .int .i64 0] (ls.length * 3))
    exact ⟨0, Nat.zero_le _, rfl, ⟨f, by simpa using hf, fun i hi => absurd hi (Nat.not_lt_zero _)⟩, by (repeat' (first | (with_reducible exact Below.refl _ _) | (with_reducible assumption) | (with_reducible refine Below.alloc ?_ ?_ _) | (with_reducible refine Below.drew ?_) | (with_reducible refine below_drewN ?_ _) | (with_reducible refine Below.setCell ?_ ?_ _) | go_size)), by simp⟩
  case round =>
    obtain ⟨k, hk, rfl, hrow, hb1, hz1⟩ := hrel
    by_cases hlt : k < ls.length
    · rcases HF.out with h0 | ⟨b, off, rfl, hlo, hcell⟩
      · omega
      obtain ⟨q0, q1, q2, q3⟩ := hcell k hlt
      have d0 := Carries.of lo hb1 _ _ hlo q0
      have d1 := Carries.of lo hb1 _ _ hlo q1
      have d2 := Carries.of lo hb1 _ _ hlo q2
      have d3 := Carries.of lo hb1 _ _ hlo q3
      clear hcell q0 q1 q2 q3
      obtain ⟨y0, y1, y2, e0, e1, e2, f0, f1, f2⟩ := hrow.cells hlt
      have KK := HM.out k hlt
      have HP : Hid (TripRow (w.heap.size + 1) 201 (((wr.setCell ⟨w.heap.size + 1, k * 3, none⟩ (.int .i64 (arF ls k))).setCell ⟨w.heap.size + 1, k * 3 + 1, none⟩ (.int .i64 (k : Int))).setCell ⟨w.heap.size + 1, k * 3 + 2, none⟩ (.int .i64 (arT ls k))) ls.length (k + 1) (fun i => .int .i64 (mvF (mvsOf ls) i)) (fun i => .int .i64 (mvB (mvsOf ls) i)) (fun i => .int .i64 (mvT (mvsOf ls) i))) :=
        hrow.put hlt (by rw [KK.1]) (by rw [KK.2.1]) (by rw [KK.2.2])
      clear hrow KK
      try dsimp only at d0 d1 d2 d3
      generalize arF ls k = xf at d0 HP
      generalize arS ls k = xs at d1
      generalize arU ls k = xu at d2
      generalize arT ls k = xt at d3 HP
      have HD : Hid (Below w.heap.size w wr) := hb1
      clear hb1
      go_wp2_with fail
      have hb1 := HD.out
      go_roundw
      case rel =>
        refine ⟨k + 1, by omega, by go_num, HP.out.keep (((Below.refl _ _).alloc (Nat.le_refl _) _).block _ (by simpa using hz1)), ?_, by simp; omega⟩
        (repeat' (first | (with_reducible exact Below.refl _ _) | (with_reducible assumption) | (with_reducible refine Below.alloc ?_ ?_ _) | (with_reducible refine Below.drew ?_) | (with_reducible refine below_drewN ?_ _) | (with_reducible refine Below.setCell ?_ ?_ _) | go_size))
      case measure => simp [intOf]; omega
    · have hkk : k = ls.length := by omega
      subst hkk
      have HR := Lib.hid hrow; clear hrow
      go_wp2_with fail
      go_ret
      refine ⟨_, rfl, ?_, hb1⟩
      have h := HR.out.read
      unfold MovesAt
      rw [mvsOf_length]
      exact TripsAt.low h (by omega)

end Go.Proofs.Ytnmoocgocnjdjaa
