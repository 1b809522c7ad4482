/- DRAWS: DrawIsValidNet, DrawIsFreeChoice, DrawEnabled, DrawUnionNets. -/
import Derived.Test.YtkkfglolameogaaVDmark
namespace Go.Proofs.Ytkkfglolameogaa
open Go.RowKit

/-- a call returns a drawn net -/
def RetDN (w : World) (e : Ending) (w' : World) : Prop := ∃ (P : Int) (u : Value), e = .returned (.agg #[.int .i64 P, u]) ∧ 0 ≤ P ∧ P ≤ 31 ∧ NetRow w.heap.size 4 w' u ∧ Below w.heap.size w w'
/-- a call returns two drawn nets -/
def RetDU (w : World) (e : Ending) (w' : World) : Prop := ∃ (P : Int) (u : Value) (Q : Int) (v : Value), e = .returned (.tuple #[.agg #[.int .i64 P, u], .agg #[.int .i64 Q, v]]) ∧ 0 ≤ P ∧ P ≤ 31 ∧ 0 ≤ Q ∧ Q ≤ 31 ∧ NetRow w.heap.size 4 w' u ∧ NetRow w.heap.size 4 w' v ∧ Below w.heap.size w w'

set_option maxRecDepth 100000 in
set_option maxHeartbeats 1000000 in
theorem DrawNet_any (v : Value) (n : Nat) (w : World) (hv : CodeIn w.heap.size w v n) (hn : n ≤ 1048576) :
    Calls Try.prog 109 #[v] w (RetDN w) := by
  have hal0 : Below w.heap.size w (w.alloc (.cells #[.int .i64 0, .slice none 0 0] 32)) := (Below.refl _ _).alloc (Nat.le_refl _) _
  have z0 : (w.alloc (.cells #[.int .i64 0, .slice none 0 0] 32)).heap.size = w.heap.size + 1 := by simp
  have hcode : CodeIn (w.alloc (.cells #[.int .i64 0, .slice none 0 0] 32)).heap.size (w.alloc (.cells #[.int .i64 0, .slice none 0 0] 32)) v n := (hv.keep (fun x hx _ => hal0.block x hx)).up (by omega)
  have HC0 := Lib.hid (CurAt.new hcode hn)
  rw [z0] at HC0
  have hal1 : Below (w.heap.size + 1) (w.alloc (.cells #[.int .i64 0, .slice none 0 0] 32)) ((w.alloc (.cells #[.int .i64 0, .slice none 0 0] 32)).alloc (.cells #[v, .int .i64 0, .int .u64 0] 115)) := (Below.refl _ _).alloc (by omega) _
  have BR0 := Lib.hid ((NBox.new w (.int .i64 0) (.slice none 0 0) 32).keep (hal1.block w.heap.size (by omega)))
  have z1 : ((w.alloc (.cells #[.int .i64 0, .slice none 0 0] 32)).alloc (.cells #[v, .int .i64 0, .int .u64 0] 115)).heap.size = w.heap.size + 2 := by simp
  have bel1 : Below w.heap.size w ((w.alloc (.cells #[.int .i64 0, .slice none 0 0] 32)).alloc (.cells #[v, .int .i64 0, .int .u64 0] 115)) := hal0.trans (hal1.mono (by omega))
  obtain ⟨ao, cap, rfl, _⟩ := hv
  clear hal0 hal1 hcode
  go_enter Try.func109, Try.ntmps109
  go_wp2_with fail
  generalize ((w.alloc (.cells #[.int .i64 0, .slice none 0 0] 32)).alloc (.cells #[.slice ao n cap, .int .i64 0, .int .u64 0] 115)) = W1 at HC0 BR0 z1 bel1 ⊢
  refine (anyNet_any (w.heap.size + 1) 0 W1 HC0.out (by omega)).mono ?_
  rintro e w2 ⟨P, u, a2, rfl, p0, p1, hnr, ha2, hc2, hg2⟩
  obtain ⟨ua, un, uc, rfl⟩ := hnr.form
  rw [z1] at hnr
  have BR2 := Lib.hid (BR0.out.cur hg2 (by omega)); clear BR0
  have zw2 := hg2.size
  obtain ⟨r0_, r1_, rf0, rf1⟩ := BR2.out
  have BRF := Lib.hid ((BR2.out.set0 (.int .i64 P)).set1 (.slice ua un uc))
  have NRF := Lib.hid ((hnr.setLow (q := ⟨w.heap.size, 0, none⟩) (by show w.heap.size < _; omega) (.int .i64 P)).setLow (q := ⟨w.heap.size, 1, none⟩) (by show w.heap.size < _; omega) (.slice ua un uc))
  have BEF := Lib.hid (((grown_under bel1 hg2 (Nat.le_succ _)).setCell (p := ⟨w.heap.size, 0, none⟩) (Nat.le_refl _) (.int .i64 P)).setCell (p := ⟨w.heap.size, 1, none⟩) (Nat.le_refl _) (.slice ua un uc))
  clear hnr hc2 hg2 HC0
  go_wp2_with fail
  generalize ((w2.setCell ⟨w.heap.size, 0, none⟩ (.int .i64 P)).setCell ⟨w.heap.size, 1, none⟩ (.slice ua un uc)) = WX at BRF NRF BEF ⊢
  obtain ⟨q0, q1, _, _⟩ := BRF.out
  refine bodyPost_ret (v := .agg #[.int .i64 P, .slice ua un uc]) (by simp [results, Try.results109, go_sem, q0, q1]) rfl ?_
  exact ⟨_, _, rfl, p0, p1, NRF.out.low (by omega) (Nat.le_refl _), BEF.out⟩

set_option maxRecDepth 100000 in
set_option maxHeartbeats 1000000 in
theorem DrawFree_any (v : Value) (n : Nat) (w : World) (hv : CodeIn w.heap.size w v n) (hn : n ≤ 1048576) :
    Calls Try.prog 48 #[v] w (RetDN w) := by
  have hal0 : Below w.heap.size w (w.alloc (.cells #[.int .i64 0, .slice none 0 0] 32)) := (Below.refl _ _).alloc (Nat.le_refl _) _
  have z1 : (w.alloc (.cells #[.int .i64 0, .slice none 0 0] 32)).heap.size = w.heap.size + 1 := by simp
  have HCD := Lib.hid ((hv.keep (fun x hx _ => hal0.block x hx)).up (by omega) : CodeIn (w.alloc (.cells #[.int .i64 0, .slice none 0 0] 32)).heap.size (w.alloc (.cells #[.int .i64 0, .slice none 0 0] 32)) v n)
  have BR0 := Lib.hid (NBox.new w (.int .i64 0) (.slice none 0 0) 32)
  obtain ⟨ao, cap, rfl, _⟩ := hv
  go_enter Try.func48, Try.ntmps48
  go_wp2_with fail
  generalize (w.alloc (.cells #[.int .i64 0, .slice none 0 0] 32)) = W1 at HCD BR0 z1 hal0 ⊢
  refine (DrawNet_any _ n W1 HCD.out hn).mono ?_
  rintro e w2 ⟨P, u, rfl, p0, p1, hnr, hb2⟩
  obtain ⟨ua, un, uc, rfl⟩ := hnr.form
  rw [z1] at hnr
  have zw2 := hb2.size
  have BR2 := Lib.hid (BR0.out.after hb2); clear BR0
  obtain ⟨r0_, r1_, rf0, rf1⟩ := BR2.out
  have BRF := Lib.hid ((BR2.out.set0 (.int .i64 P)).set1 (.slice ua un uc))
  have NRF := Lib.hid ((hnr.setLow (q := ⟨w.heap.size, 0, none⟩) (by show w.heap.size < _; omega) (.int .i64 P)).setLow (q := ⟨w.heap.size, 1, none⟩) (by show w.heap.size < _; omega) (.slice ua un uc))
  have BEF := Lib.hid (((hal0.trans (hb2.mono hal0.size)).setCell (p := ⟨w.heap.size, 0, none⟩) (Nat.le_refl _) (.int .i64 P)).setCell (p := ⟨w.heap.size, 1, none⟩) (Nat.le_refl _) (.slice ua un uc))
  clear hnr hb2
  go_wp2_with fail
  generalize ((w2.setCell ⟨w.heap.size, 0, none⟩ (.int .i64 P)).setCell ⟨w.heap.size, 1, none⟩ (.slice ua un uc)) = WX at BRF NRF BEF ⊢
  obtain ⟨q0, q1, _, _⟩ := BRF.out
  refine bodyPost_ret (v := .agg #[.int .i64 P, .slice ua un uc]) (by simp [results, Try.results48, go_sem, q0, q1]) rfl ?_
  exact ⟨_, _, rfl, p0, p1, NRF.out.low (by omega) (Nat.le_refl _), BEF.out⟩

set_option maxRecDepth 100000 in
set_option maxHeartbeats 1000000 in
theorem DrawEnabled_any (v : Value) (n : Nat) (w : World) (hv : CodeIn w.heap.size w v n) (hn : n ≤ 1048576) :
    Calls Try.prog 51 #[v] w (RetDM w) := by
  have hal0 : Below w.heap.size w (w.alloc (.cells #[.int .i64 0, .slice none 0 0] 32)) := (Below.refl _ _).alloc (Nat.le_refl _) _
  have z1 : (w.alloc (.cells #[.int .i64 0, .slice none 0 0] 32)).heap.size = w.heap.size + 1 := by simp
  have HCD := Lib.hid ((hv.keep (fun x hx _ => hal0.block x hx)).up (by omega) : CodeIn (w.alloc (.cells #[.int .i64 0, .slice none 0 0] 32)).heap.size (w.alloc (.cells #[.int .i64 0, .slice none 0 0] 32)) v n)
  have BR0 := Lib.hid (NBox.new w (.int .i64 0) (.slice none 0 0) 32)
  obtain ⟨ao, cap, rfl, _⟩ := hv
  go_enter Try.func51, Try.ntmps51
  go_wp2_with fail
  generalize (w.alloc (.cells #[.int .i64 0, .slice none 0 0] 32)) = W1 at HCD BR0 z1 hal0 ⊢
  refine (DrawMark_any _ n W1 HCD.out hn).mono ?_
  rintro e w2 ⟨P, u, s, rfl, p0, p1, hnr, hs, hb2⟩
  obtain ⟨ua, un, uc, rfl⟩ := hnr.form
  rw [z1] at hnr
  have zw2 := hb2.size
  have BR2 := Lib.hid (BR0.out.after hb2); clear BR0
  obtain ⟨r0_, r1_, rf0, rf1⟩ := BR2.out
  have BRF := Lib.hid ((BR2.out.set0 (.int .i64 P)).set1 (.slice ua un uc))
  have NRF := Lib.hid ((hnr.setLow (q := ⟨w.heap.size, 0, none⟩) (by show w.heap.size < _; omega) (.int .i64 P)).setLow (q := ⟨w.heap.size, 1, none⟩) (by show w.heap.size < _; omega) (.slice ua un uc))
  have BEF := Lib.hid (((hal0.trans (hb2.mono hal0.size)).setCell (p := ⟨w.heap.size, 0, none⟩) (Nat.le_refl _) (.int .i64 P)).setCell (p := ⟨w.heap.size, 1, none⟩) (Nat.le_refl _) (.slice ua un uc))
  clear hnr hb2
  go_wp2_with fail
  generalize ((w2.setCell ⟨w.heap.size, 0, none⟩ (.int .i64 P)).setCell ⟨w.heap.size, 1, none⟩ (.slice ua un uc)) = WX at BRF NRF BEF ⊢
  obtain ⟨q0, q1, _, _⟩ := BRF.out
  refine bodyPost_ret (v := .tuple #[.agg #[.int .i64 P, .slice ua un uc], .string s]) (by simp [results, Try.results51, go_sem, q0, q1]) rfl ?_
  exact ⟨_, _, _, rfl, p0, p1, NRF.out.low (by omega) (Nat.le_refl _), hs, BEF.out⟩

set_option maxRecDepth 100000 in
set_option maxHeartbeats 2000000 in
theorem DrawUnion_any (v : Value) (n : Nat) (w : World) (hv : CodeIn w.heap.size w v n) (hn : n ≤ 1048576) :
    Calls Try.prog 44 #[v] w (RetDU w) := by
  have hala : Below w.heap.size w (w.alloc (.cells #[.int .i64 0, .slice none 0 0] 32)) := (Below.refl _ _).alloc (Nat.le_refl _) _
  have za : (w.alloc (.cells #[.int .i64 0, .slice none 0 0] 32)).heap.size = w.heap.size + 1 := by simp
  have halb : Below (w.heap.size + 1) (w.alloc (.cells #[.int .i64 0, .slice none 0 0] 32)) ((w.alloc (.cells #[.int .i64 0, .slice none 0 0] 32)).alloc (.cells #[.int .i64 0, .slice none 0 0] 32)) := (Below.refl _ _).alloc (by omega) _
  have hal0 : Below w.heap.size w ((w.alloc (.cells #[.int .i64 0, .slice none 0 0] 32)).alloc (.cells #[.int .i64 0, .slice none 0 0] 32)) := hala.trans (halb.mono (by omega))
  have z0 : ((w.alloc (.cells #[.int .i64 0, .slice none 0 0] 32)).alloc (.cells #[.int .i64 0, .slice none 0 0] 32)).heap.size = w.heap.size + 2 := by simp
  have hcode : CodeIn ((w.alloc (.cells #[.int .i64 0, .slice none 0 0] 32)).alloc (.cells #[.int .i64 0, .slice none 0 0] 32)).heap.size ((w.alloc (.cells #[.int .i64 0, .slice none 0 0] 32)).alloc (.cells #[.int .i64 0, .slice none 0 0] 32)) v n := (hv.keep (fun x hx _ => hal0.block x hx)).up (by omega)
  have HC0 := Lib.hid (CurAt.new hcode hn)
  rw [z0] at HC0
  have hal1 : Below (w.heap.size + 2) ((w.alloc (.cells #[.int .i64 0, .slice none 0 0] 32)).alloc (.cells #[.int .i64 0, .slice none 0 0] 32)) (((w.alloc (.cells #[.int .i64 0, .slice none 0 0] 32)).alloc (.cells #[.int .i64 0, .slice none 0 0] 32)).alloc (.cells #[v, .int .i64 0, .int .u64 0] 115)) := (Below.refl _ _).alloc (by omega) _
  have BA0 := Lib.hid (((NBox.new w (.int .i64 0) (.slice none 0 0) 32).keep (halb.block w.heap.size (by omega))).keep (hal1.block w.heap.size (by omega)))
  have bb := NBox.new (w.alloc (.cells #[.int .i64 0, .slice none 0 0] 32)) (.int .i64 0) (.slice none 0 0) 32
  rw [za] at bb
  have BB0 := Lib.hid (bb.keep (hal1.block (w.heap.size + 1) (by omega)))
  have z1 : (((w.alloc (.cells #[.int .i64 0, .slice none 0 0] 32)).alloc (.cells #[.int .i64 0, .slice none 0 0] 32)).alloc (.cells #[v, .int .i64 0, .int .u64 0] 115)).heap.size = w.heap.size + 3 := by simp
  have bel1 : Below w.heap.size w (((w.alloc (.cells #[.int .i64 0, .slice none 0 0] 32)).alloc (.cells #[.int .i64 0, .slice none 0 0] 32)).alloc (.cells #[v, .int .i64 0, .int .u64 0] 115)) := hal0.trans (hal1.mono (by omega))
  obtain ⟨ao, cap, rfl, _⟩ := hv
  clear hala halb hal0 hal1 hcode bb
  go_enter Try.func44, Try.ntmps44
  go_wp2_with fail
  generalize (((w.alloc (.cells #[.int .i64 0, .slice none 0 0] 32)).alloc (.cells #[.int .i64 0, .slice none 0 0] 32)).alloc (.cells #[.slice ao n cap, .int .i64 0, .int .u64 0] 115)) = W1 at HC0 BA0 BB0 z1 bel1 ⊢
  refine (anyNet_any (w.heap.size + 2) 0 W1 HC0.out (by omega)).mono ?_
  rintro e w2 ⟨P, u, a2, rfl, p0, p1, hnr, ha2, hc2, hg2⟩
  obtain ⟨ua, un, uc, rfl⟩ := hnr.form
  rw [z1] at hnr
  have BA2 := Lib.hid (BA0.out.cur hg2 (by omega)); clear BA0
  have BB2 := Lib.hid (BB0.out.cur hg2 (by omega)); clear BB0
  have zw2 := hg2.size
  have NR2 := Lib.hid hnr
  have HC2 := Lib.hid hc2
  have HG2 := Lib.hid hg2
  clear hnr hc2 hg2 HC0
  go_wp2_with fail
  refine (anyNet_any (w.heap.size + 2) a2 w2 HC2.out (by omega)).mono ?_
  rintro e w3 ⟨Q, v, a3, rfl, q0, q1, hnr, ha3, hc3, hg3⟩
  obtain ⟨va, vn, vc, rfl⟩ := hnr.form
  have zw3 := hg3.size
  have BA3 := Lib.hid (BA2.out.cur hg3 (by omega)); clear BA2
  have BB3 := Lib.hid (BB2.out.cur hg3 (by omega)); clear BB2
  have NRB := Lib.hid ((((hnr.setLow (q := ⟨w.heap.size, 0, none⟩) (by show w.heap.size < _; omega) (.int .i64 P)).setLow (q := ⟨w.heap.size, 1, none⟩) (by show w.heap.size < _; omega) (.slice ua un uc)).setLow (q := ⟨w.heap.size + 1, 0, none⟩) (by show w.heap.size + 1 < _; omega) (.int .i64 Q)).setLow (q := ⟨w.heap.size + 1, 1, none⟩) (by show w.heap.size + 1 < _; omega) (.slice va vn vc))
  have NRA := Lib.hid (((((NR2.out.cur hg3 (by omega)).setLow (q := ⟨w.heap.size, 0, none⟩) (by show w.heap.size < _; omega) (.int .i64 P)).setLow (q := ⟨w.heap.size, 1, none⟩) (by show w.heap.size < _; omega) (.slice ua un uc)).setLow (q := ⟨w.heap.size + 1, 0, none⟩) (by show w.heap.size + 1 < _; omega) (.int .i64 Q)).setLow (q := ⟨w.heap.size + 1, 1, none⟩) (by show w.heap.size + 1 < _; omega) (.slice va vn vc))
  have BEF := Lib.hid (((((grown_under bel1 (Lib.grownBy_trans HG2.out hg3) (by omega)).setCell (p := ⟨w.heap.size, 0, none⟩) (by show w.heap.size ≤ w.heap.size; omega) (.int .i64 P)).setCell (p := ⟨w.heap.size, 1, none⟩) (by show w.heap.size ≤ w.heap.size; omega) (.slice ua un uc)).setCell (p := ⟨w.heap.size + 1, 0, none⟩) (by show w.heap.size ≤ w.heap.size + 1; omega) (.int .i64 Q)).setCell (p := ⟨w.heap.size + 1, 1, none⟩) (by show w.heap.size ≤ w.heap.size + 1; omega) (.slice va vn vc))
  have BRA := Lib.hid (((BA3.out.set0 (.int .i64 P)).set1 (.slice ua un uc)).far (q := ⟨w.heap.size + 1, 0, none⟩) (by show w.heap.size + 1 ≠ w.heap.size; omega) (.int .i64 Q) |>.far (q := ⟨w.heap.size + 1, 1, none⟩) (by show w.heap.size + 1 ≠ w.heap.size; omega) (.slice va vn vc))
  have BRB := Lib.hid ((((BB3.out.far (q := ⟨w.heap.size, 0, none⟩) (by show w.heap.size ≠ w.heap.size + 1; omega) (.int .i64 P)).far (q := ⟨w.heap.size, 1, none⟩) (by show w.heap.size ≠ w.heap.size + 1; omega) (.slice ua un uc)).set0 (.int .i64 Q)).set1 (.slice va vn vc))
  obtain ⟨r0_, r1_, rf0, rf1⟩ := BA3.out
  obtain ⟨s0_, s1_, sf0, sf1⟩ := BB3.out
  clear hnr hc3 hg3 NR2 HC2 HG2
  go_wp2_with fail
  generalize (((w3.setCell ⟨w.heap.size, 0, none⟩ (.int .i64 P)).setCell ⟨w.heap.size, 1, none⟩ (.slice ua un uc)).setCell ⟨w.heap.size + 1, 0, none⟩ (.int .i64 Q)).setCell ⟨w.heap.size + 1, 1, none⟩ (.slice va vn vc) = WX at BRA BRB NRA NRB BEF ⊢
  obtain ⟨t0, t1, _, _⟩ := BRA.out
  obtain ⟨t2, t3, _, _⟩ := BRB.out
  refine bodyPost_ret (v := .tuple #[.agg #[.int .i64 P, .slice ua un uc], .agg #[.int .i64 Q, .slice va vn vc]]) (by simp [results, Try.results44, go_sem, t0, t1, t2, t3]) rfl ?_
  exact ⟨_, _, _, _, rfl, p0, p1, q0, q1, NRA.out.low (by omega) (Nat.le_refl _), NRB.out.low (by omega) (Nat.le_refl _), BEF.out⟩

end Go.Proofs.Ytkkfglolameogaa
