/- WALK: markText answers some string. What may be stirred: blocks from lo on, before hi.
   DRAWS: markOf, spoilt: texts. -/
import Derived.Test.YtkkfglolameogaaVSep
import Derived.Test.YtkkfglolameogaaVStga
import Derived.Laws.BytesString
import Derived.Test.YtkkfglolameogaaVDnet
import Derived.Laws.DeepStrings4
namespace Go.Proofs.Ytkkfglolameogaa
open Go.RowKit

theorem conv_one (w : World) (e : TypeId) (z : Int) : (convert 54 9 (.slice (some ⟨w.heap.size, 0, none⟩) 1 1)).run Try.prog (w.alloc (.cells #[.int .u8 z] e)) = .ok (.string (ByteArray.empty.push (UInt8.ofNat z.toNat))) (w.alloc (.cells #[.int .u8 z] e)) := by
  rw [run_convert_bytes_string _ 54 9 5 _ _ _ Try.underlying54 Try.underlying5 Try.underlying9]
  have hl := run_loadCells_list (P := Try.prog) (w.alloc (.cells #[.int .u8 z] e)) ⟨w.heap.size, 0, none⟩ [.int .u8 z] (fun j v hv => by
    match j, hv with
    | 0, hv => simp only [List.getElem?_cons_zero, Option.some.injEq] at hv; subst hv; simp [Addr.add]
    | (j + 1), hv => simp at hv)
  exact run_bytesToString _ ⟨w.heap.size, 0, none⟩ 1 1 [z] hl

set_option maxHeartbeats 1000000 in
theorem markText_any (k : Int) (w : World) (h0 : 0 ≤ k) (h1 : k ≤ 1099511627776000) :
    Calls Try.prog 129 #[.int .i64 k] w (fun e w' => ∃ s, e = .returned (.string s) ∧ Below w.heap.size w w') := by
  have kc := conv_one
  go_enter Try.func129, Try.ntmps129
  by_cases hk : k ≤ 0
  · go_wp2_with fail
    go_ret
    exact ⟨_, rfl, Below.refl _ _⟩
  go_wp2_with fail
  go_loopw [0, 3] (fun nv sv wr => ∃ (x : Int) (s : ByteArray), 0 ≤ x ∧ (s.size : Int) + x ≤ k ∧ nv = .int .i64 x ∧ sv = .string s ∧ Below w.heap.size w wr) (fun nv _ _ => (intOf nv).toNat)
  case atStart => exact ⟨k, ByteArray.empty, h0, by show ((0 : Nat) : Int) + k ≤ k; omega, rfl, rfl, Below.refl _ _⟩
  case round =>
    obtain ⟨x, s, hx0, hx1, rfl, rfl, hb1⟩ := hrel
    have zz1 := hb1.size
    by_cases hlt : 0 < x
    · have e1 : x.tdiv 10 = x / 10 := Int.tdiv_eq_ediv_of_nonneg hx0
      have e2 : x.tmod 10 = x % 10 := Int.tmod_eq_emod_of_nonneg hx0
      have q0 : 0 ≤ x / 10 := by omega
      have q1 : x / 10 ≤ x := by omega
      have q2 : x / 10 < x := by omega
      have r0 : 0 ≤ x % 10 := by omega
      have r1 : x % 10 ≤ 9 := by omega
      have hsz : (ByteArray.empty.push (UInt8.ofNat (48 + x % 10).toNat) ++ s).size = 1 + s.size := by rw [ByteArray.size_append]; rfl
      have hsz2 : (ByteArray.empty.push (UInt8.ofNat (48 + x % 10).toNat)).size = 1 := rfl
      go_wp2_with fail
      go_roundw
      case rel => exact ⟨x / 10, _, q0, by rw [hsz]; omega, by go_num, rfl, by (repeat' (first | (with_reducible exact Below.refl _ _) | (with_reducible assumption) | (with_reducible refine Below.alloc ?_ ?_ _) | (with_reducible refine Below.drew ?_) | (with_reducible refine below_drewN ?_ _) | (with_reducible refine Below.setCell ?_ ?_ _) | go_size))⟩
      case measure => simp [intOf]; omega
    · have hsz3 : (s.size : Int) ≤ k := by omega
      go_wp2_with fail
      go_ret
      first
        | exact ⟨_, rfl, hb1⟩
        | exact ⟨⟨_, rfl⟩, hb1⟩

/-- the blocks from lo on, before hi, may have changed; of the others that were there none -/
structure Stir (lo hi : Nat) (w w' : World) : Prop where
  os : w'.os = w.os
  tape : w'.tape = w.tape
  output : w'.output = w.output
  size : w.heap.size ≤ w'.heap.size
  block : ∀ b, b < w.heap.size → (b < lo ∨ hi ≤ b) → w'.heap[b]? = w.heap[b]?
theorem Stir.of {w w' : World} (lo hi : Nat) (h : Below w.heap.size w w') : Stir lo hi w w' := ⟨h.os, h.tape, h.output, h.size, fun b hb _ => h.block b hb⟩
theorem Stir.refl (lo hi : Nat) (w : World) : Stir lo hi w w := Stir.of lo hi (Below.refl _ _)
theorem Stir.trans {lo hi : Nat} {a b c : World} (h : Stir lo hi a b) (k : Stir lo hi b c) : Stir lo hi a c :=
  ⟨k.os.trans h.os, k.tape.trans h.tape, k.output.trans h.output, Nat.le_trans h.size k.size, fun x hx hc => (k.block x (Nat.lt_of_lt_of_le hx h.size) hc).trans (h.block x hx hc)⟩
theorem Stir.wide {lo hi lo' hi' : Nat} {w w' : World} (h : Stir lo hi w w') (h1 : lo' ≤ lo) (h2 : hi ≤ hi') : Stir lo' hi' w w' :=
  ⟨h.os, h.tape, h.output, h.size, fun b hb hc => h.block b hb (by omega)⟩
theorem Stir.set {lo hi : Nat} {a w : World} (h : Stir lo hi a w) {p : Addr} (h1 : lo ≤ p.block) (h2 : p.block < hi) (u : Value) : Stir lo hi a (w.setCell p u) :=
  h.trans ⟨rfl, rfl, rfl, by simp, fun b _ hc => Below.heap_setCell _ _ _ _ (by omega)⟩
theorem Marks.stir {lo hi : Nat} {w w' : World} (h : Marks lo hi w w') : Stir lo hi w w' := ⟨h.os, h.tape, h.output, by rw [h.size]; exact Nat.le_refl _, fun b _ hc => h.block b hc⟩
theorem Stir.cell {lo hi : Nat} {w w' : World} {a : Addr} {v : Value} (h : Stir lo hi w w') (ha : a.block < lo ∨ hi ≤ a.block) (hc : w.cell? a = some v) : w'.cell? a = some v :=
  (World.cell?_of_block (h.block a.block (cell_old hc) ha)).trans hc
theorem Stir.frozen {lo hi : Nat} {w w' : World} {a : Addr} (h : Stir lo hi w w') (ha : a.block < lo ∨ hi ≤ a.block) (hb : a.block < w.heap.size) : w'.frozen? a = w.frozen? a :=
  World.frozen?_of_block (h.block a.block hb ha)
theorem Stir.below {lo hi B : Nat} {a w w' : World} (h : Stir lo hi w w') (hb : Below B a w) (hB : B ≤ lo) (hB2 : B ≤ w.heap.size) : Below B a w' :=
  hb.trans ⟨h.os, h.tape, h.output, h.size, fun k hk => h.block k (Nat.lt_of_lt_of_le hk hB2) (Or.inl (by omega))⟩

/-- n pairs of cells that may be written, in a block from lo on, before hi -/
def PairBox (lo hi : Nat) (w : World) (v : Value) (n : Nat) : Prop :=
  ∃ (ao : Option Addr) (cap : Nat), v = .slice ao n cap ∧
    (n = 0 ∨ ∃ b off, ao = some ⟨b, off, none⟩ ∧ lo ≤ b ∧ b < hi ∧ ∀ i, i < n * 2 → (∃ u, w.cell? ⟨b, off + i, none⟩ = some u) ∧ w.frozen? ⟨b, off + i, none⟩ = false)
theorem PairBox.form {lo hi : Nat} {w : World} {v : Value} {n : Nat} (h : PairBox lo hi w v n) : ∃ a c, v = .slice a n c := by
  obtain ⟨a, c, rfl, _⟩ := h
  exact ⟨a, c, rfl⟩
theorem PairBox.stir {lo hi l k : Nat} {w w' : World} {v : Value} {n : Nat} (h : PairBox lo hi w v n) (hs : Stir l k w w') (hc : hi ≤ l ∨ k ≤ lo) : PairBox lo hi w' v n := by
  obtain ⟨ao, cap, hv, hz⟩ := h
  refine ⟨ao, cap, hv, ?_⟩
  rcases hz with hz | ⟨b, off, ha, h1, h2, hcell⟩
  · exact Or.inl hz
  · refine Or.inr ⟨b, off, ha, h1, h2, fun i hi => ?_⟩
    obtain ⟨⟨u, hu⟩, hf⟩ := hcell i hi
    have hb := cell_old hu
    exact ⟨⟨u, hs.cell (by simp; omega) hu⟩, (hs.frozen (by simp; omega) hb).trans hf⟩

end Go.Proofs.Ytkkfglolameogaa

namespace Go.Proofs.Ytkkfglolameogaa
open Go.RowKit

theorem strs_three (w : World) (b : Nat) (hb : b < w.heap.size) : StrsAt b (w.alloc (.cells #[.string ⟨#[48]⟩, .string ⟨#[49]⟩, .string ⟨#[49]⟩] 9)) (.slice (some ⟨w.heap.size, 0, none⟩) 3 3) 3 (fun s => s.size ≤ 1) := by
  refine ⟨w.heap.size, 0, 3, rfl, hb, fun i hi => ?_⟩
  rcases (by omega : i = 0 ∨ i = 1 ∨ i = 2) with rfl | rfl | rfl
  · exact ⟨⟨#[48]⟩, by simp, by decide⟩
  · exact ⟨⟨#[49]⟩, by simp, by decide⟩
  · exact ⟨⟨#[49]⟩, by simp, by decide⟩

set_option maxRecDepth 100000 in
set_option maxHeartbeats 2000000 in
theorem markOf_any (b a : Nat) (n : Int) (w : World) (hc : CurAt b w a) (ha : a ≤ 1099511600000) (hn : n ≤ 40) :
    Calls Try.prog 136 #[.pointer (some ⟨b, 0, none⟩), .int .i64 n] w (fun e w' => ∃ (s : ByteArray) (a' : Nat), e = .returned (.string s) ∧ s.size ≤ 40 ∧ a' ≤ a + 100 ∧ CurAt b w' a' ∧ w.grownBy w' (some b)) := by
  have hbo := hc.old
  have HC := Lib.hid hc; clear hc
  go_enter Try.func136, Try.ntmps136
  go_wp2_with fail
  go_loopw [5, 6] (fun sv k wr => ∃ (j a' : Nat) (s : ByteArray), sv = .string s ∧ k = .int .i64 j ∧ j ≤ 40 ∧ s.size ≤ j ∧ a' ≤ a + 2 * j ∧ Hid (CurAt b wr a') ∧ Hid (w.grownBy wr (some b))) (fun _ k _ => 40 - (intOf k).toNat)
  case atStart => exact ⟨0, a, _, rfl, rfl, by omega, Nat.le_refl _, by omega, HC.out, ⟨rfl, rfl, rfl, Nat.le_refl _, fun _ _ _ => rfl⟩⟩
  case round =>
    obtain ⟨j, a', s, rfl, rfl, hj, hs, haj, hcur, hgr⟩ := hrel
    have zz := hgr.out.size
    by_cases hlt : (j : Int) < n
    · have t1 : decide ((j : Int) < n) = true := decide_eq_true hlt
      have hal : Below wr.heap.size wr (wr.alloc (.cells #[.string ⟨#[48]⟩, .string ⟨#[49]⟩, .string ⟨#[49]⟩] 9)) := (Below.refl _ _).alloc (Nat.le_refl _) _
      have HC1 := Lib.hid (hcur.out.below hal)
      have HS1 := Lib.hid (strs_three wr b (by omega))
      have HG1 := Lib.hid (Lib.grownBy_trans hgr.out (grown_below hal))
      clear hal hcur hgr
      go_wp2_with fail
      generalize (wr.alloc (.cells #[.string ⟨#[48]⟩, .string ⟨#[49]⟩, .string ⟨#[49]⟩] 9)) = w1 at HC1 HS1 HG1 ⊢
      refine (of_any b a' _ 3 _ w1 HC1.out (by omega) HS1.out (by omega) (by omega)).mono ?_
      rintro e w2 ⟨s2, a2, rfl, hs2, ha2, hc2, hg2⟩
      have HC2 := Lib.hid hc2
      have HG2 := Lib.hid (Lib.grownBy_trans HG1.out hg2)
      have hcat : ¬ 9223372036854775807 < s.size + s2.size := by have : s2.size ≤ 1 := hs2; omega
      have hsz : (s ++ s2).size ≤ j + 1 := by rw [ByteArray.size_append]; have : s2.size ≤ 1 := hs2; omega
      clear hc2 hg2 hs2
      go_wp2_with fail
      go_roundw
      case rel => exact ⟨j + 1, a2, _, rfl, by go_num, by omega, hsz, by omega, HC2.out, HG2.out⟩
      case measure => simp [intOf]; omega
    · have t1 : decide ((j : Int) < n) = false := decide_eq_false hlt
      go_wp2_with fail
      go_ret
      first | exact ⟨s, a', rfl, by omega, by omega, hcur.out, hgr.out⟩ | exact ⟨s, rfl, by omega, a', by omega, hcur.out, hgr.out⟩

set_option maxRecDepth 100000 in
set_option maxHeartbeats 4000000 in
theorem spoilt_any (b a : Nat) (s0 wi : ByteArray) (w : World) (hc : CurAt b w a) (ha : a ≤ 1099511600000) (hs0 : s0.size ≤ 1000) (hw0 : 0 < wi.size) (hw1 : wi.size ≤ 1000) :
    Calls Try.prog 137 #[.pointer (some ⟨b, 0, none⟩), .string s0, .string wi] w (fun e w' => ∃ (s : ByteArray) (a' : Nat), e = .returned (.string s) ∧ s.size ≤ 1010 ∧ a' ≤ a + 100 ∧ CurAt b w' a' ∧ w.grownBy w' (some b)) := by
  have hbo := hc.old
  have HC := Lib.hid hc; clear hc
  have kc := conv_one
  go_enter Try.func137, Try.ntmps137
  go_wp2_with fail
  refine (pick_any b a 2 w HC.out (by omega) (by omega) (by omega)).mono ?_
  rintro e w1 ⟨r, a1, rfl, r0, r1, ha1, hc1, hg1⟩
  obtain ⟨M, rfl⟩ : ∃ M : Nat, r = M := ⟨r.toNat, by omega⟩
  have hM : M ≤ 1 := by omega
  have HC1 := Lib.hid (And.intro hc1 hg1); clear hc1 hg1 r0 r1
  go_wp2_with fail
  go_loopw [1, 7] (fun sv k wr => ∃ (j a' : Nat) (s : ByteArray), sv = .string s ∧ k = .int .i64 j ∧ j ≤ 1 + M ∧ s.size + j ≤ 1000 + 1 + M ∧ a' + 6 * j ≤ a + 20 ∧ Hid (CurAt b wr a') ∧ Hid (w.grownBy wr (some b))) (fun _ k _ => (intOf k).toNat)
  case atStart => exact ⟨1 + M, a1, s0, rfl, by simp, Nat.le_refl _, by omega, by omega, HC1.out.1, HC1.out.2⟩
  case round =>
    obtain ⟨j, a', s, rfl, rfl, hj, hs, haj, hcur, hgr⟩ := hrel
    have zz := hgr.out.size
    by_cases hjp : 0 < j
    case neg =>
      have t1 : decide ((0 : Int) < (j : Int)) = false := decide_eq_false (by omega)
      have hj0 : j = 0 := by omega
      subst hj0
      go_wp2_with fail
      go_ret
      exact ⟨s, a', rfl, by omega, by omega, hcur.out, hgr.out⟩
    have t1 : decide ((0 : Int) < (j : Int)) = true := decide_eq_true (by omega)
    by_cases hsp : 0 < s.size
    case neg =>
      have t2 : decide ((0 : Int) < (s.size : Int)) = false := decide_eq_false (by omega)
      go_wp2_with fail
      go_ret
      exact ⟨s, a', rfl, by omega, by omega, hcur.out, hgr.out⟩
    have t2 : decide ((0 : Int) < (s.size : Int)) = true := decide_eq_true (by omega)
    go_wp2_with fail
    refine (pick_any b a' (s.size : Int) wr hcur.out (by omega) (by omega) (by omega)).mono ?_
    rintro e w2 ⟨i, a2, rfl, i0, i1, ha2, hc2, hg2⟩
    obtain ⟨i, rfl⟩ : ∃ k : Nat, i = k := ⟨i.toNat, by omega⟩
    have hi : i < s.size := by omega
    have HC2 := Lib.hid hc2
    have HG2 := Lib.hid (Lib.grownBy_trans hgr.out hg2)
    clear hc2 hg2 i1 hcur hgr
    go_wp2_with fail
    refine (pick_any b a2 (wi.size : Int) w2 HC2.out (by omega) (by omega) (by omega)).mono ?_
    rintro e w3 ⟨q, a3, rfl, q0, q1, ha3, hc3, hg3⟩
    obtain ⟨q, rfl⟩ : ∃ k : Nat, q = k := ⟨q.toNat, by omega⟩
    have hq : q < wi.size := by omega
    have hq1 : (q : Int) < (wi.size : Int) := by omega
    have HC3 := Lib.hid hc3
    have HG3 := Lib.hid (Lib.grownBy_trans HG2.out hg3)
    clear hc3 hg3 q1 HC2 HG2
    have hal : Below w3.heap.size w3 (w3.alloc (.cells #[.int .u8 (wi[q].toNat : Int)] 5)) := (Below.refl _ _).alloc (Nat.le_refl _) _
    have HC4 := Lib.hid (HC3.out.below hal)
    have HG4 := Lib.hid (Lib.grownBy_trans HG3.out (grown_below hal))
    clear hal HC3 HG3
    go_wp2_with fail
    generalize (w3.alloc (.cells #[.int .u8 (wi[q].toNat : Int)] 5)) = w4 at HC4 HG4 ⊢
    obtain ⟨ww, hww⟩ : ∃ ww, ww = ByteArray.empty.push wi[q] := ⟨_, rfl⟩
    have hws : ww.size = 1 := by rw [hww]; rfl
    rw [← hww]
    clear hww
    have HWS := Lib.hid hws; clear hws
    refine (pick_any b a3 3 w4 HC4.out (by omega) (by omega) (by omega)).mono ?_
    rintro e w5 ⟨r, a5, rfl, r0, r1, ha5, hc5, hg5⟩
    have HC5 := Lib.hid hc5
    have HG5 := Lib.hid (Lib.grownBy_trans HG4.out hg5)
    clear hc5 hg5 HC4 HG4
    have f1 : (i : Int) ≤ (s.size : Int) := by omega
    have f2 : (i : Int) + 1 ≤ (s.size : Int) := by omega
    have f3 : (0 : Int) ≤ (i : Int) + 1 := by omega
    have f4 : IntKind.i64.wrap ((i : Int) + 1) = (i : Int) + 1 := IntWalk.i64_in _ ⟨by omega, by omega⟩
    have f5 : ¬ 9223372036854775807 < min i s.size + ww.size := by have := HWS.out; omega
    by_cases e0 : r = 0
    · subst e0
      have f6 : ¬ 9223372036854775807 < min i s.size + ww.size + (s.size - i) := by have := HWS.out; omega
      have hfin : ((s.extract 0 i ++ ww) ++ s.extract i s.size).size + (j - 1) ≤ 1000 + 1 + M := by have := HWS.out; simp only [ByteArray.size_append, ByteArray.size_extract]; omega
      have HFIN := Lib.hid hfin; clear hfin
      go_wp2_with fail
      go_quiet (fail)
      go_wp2_with fail
      trace_state
      go_roundw
      case rel => exact ⟨j - 1, a5, _, rfl, by go_num, by omega, HFIN.out, by omega, HC5.out.drewN _, grownBy_drewN HG5.out _⟩
      case measure => simp [intOf]; omega
    have t3 : (r == 0) = false := by rw [beq_eq_false_iff_ne]; exact e0
    by_cases e1 : r = 1
    · subst e1
      clear e0 t3
      have f6 : ¬ 9223372036854775807 < min i s.size + ww.size + (s.size - (i + 1)) := by have := HWS.out; omega
      have hfin : ((s.extract 0 i ++ ww) ++ s.extract (i + 1) s.size).size + (j - 1) ≤ 1000 + 1 + M := by have := HWS.out; simp only [ByteArray.size_append, ByteArray.size_extract]; omega
      have HFIN := Lib.hid hfin; clear hfin
      go_wp2_with fail
      go_quiet (fail)
      go_wp2_with fail
      go_roundw
      case rel => exact ⟨j - 1, a5, _, rfl, by go_num, by omega, HFIN.out, by omega, HC5.out.drewN _, grownBy_drewN HG5.out _⟩
      case measure => simp [intOf]; omega
    have t4 : (r == 1) = false := by rw [beq_eq_false_iff_ne]; exact e1
    have f6 : ¬ 9223372036854775807 < min i s.size + (s.size - (i + 1)) := by omega
    have hfin : (s.extract 0 i ++ s.extract (i + 1) s.size).size + (j - 1) ≤ 1000 + 1 + M := by simp only [ByteArray.size_append, ByteArray.size_extract]; omega
    have HFIN := Lib.hid hfin; clear hfin
    go_wp2_with fail
    go_quiet (fail)
    go_wp2_with fail
    go_roundw
    case rel => exact ⟨j - 1, a5, _, rfl, by go_num, by omega, HFIN.out, by omega, HC5.out.drewN _, grownBy_drewN HG5.out _⟩
    case measure => simp [intOf]; omega

end Go.Proofs.Ytkkfglolameogaa
