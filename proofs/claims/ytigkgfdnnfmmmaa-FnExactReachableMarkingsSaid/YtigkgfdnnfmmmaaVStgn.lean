/- WALKS: toSTG once more (what may be written in its answer), markSignalS, markLabelS, markSTG.
   WALKS: toSTG (what may be written in its answer), markSTG. -/
import Derived.Test.YtigkgfdnnfmmmaaVTrp
namespace Go.Proofs.Ytigkgfdnnfmmmaa
open Go.RowKit

set_option maxHeartbeats 400000 in
theorem toSignalS_row (v : Value) (ss : List Sig) (w : World) (lo : Nat) (hv : SigsAt lo w v ss) (hn : ss.length ≤ 1048576) :
    Calls Try.prog 45 #[v] w (fun e w' => ∃ b, e = .returned (.slice (some ⟨b, 0, none⟩) ss.length ss.length) ∧ w.heap.size ≤ b ∧ b < w'.heap.size ∧ PairRow b 128 w' ss.length ss.length (fun i => .string (sgN ss i)) (fun i => .int .i64 (sgK ss i)) ∧ Below w.heap.size w w') := by
  obtain ⟨ao, cap, rfl, hc, hz⟩ := hv
  have hmk := run_make_sigs ss.length hn
  have HF := Lib.hid hz; clear hz
  go_enter Try.func45, Try.ntmps45
  go_wp2
  go_loopw [4] (fun i wr => ∃ k : Nat, k ≤ ss.length ∧ i = .int .i64 k ∧ PairRow w.heap.size 128 wr ss.length k (fun i => .string (sgN ss i)) (fun i => .int .i64 (sgK ss i)) ∧ Below w.heap.size w wr ∧ w.heap.size < wr.heap.size) (fun i _ => ss.length - (intOf i).toNat)
  case atStart =>
    obtain ⟨f, hf⟩ := rowIs_size (w := w) (t := 128) (size_madeCells #[.string ByteArray.empty, .int .i64 0] (ss.length * 2))
    exact ⟨0, Nat.zero_le _, rfl, ⟨f, hf, fun i hi => absurd hi (Nat.not_lt_zero _)⟩, (Below.refl _ _).alloc (Nat.le_refl _) _, by simp⟩
  case round =>
    obtain ⟨k, hk, rfl, hrow, hb1, hz1⟩ := hrel
    by_cases hlt : k < ss.length
    · rcases HF.out with h0 | ⟨b, off, rfl, hlo, hcell⟩
      · omega
      obtain ⟨c0, c1⟩ := hcell k hlt
      have d0 := Carries.of lo hb1 _ _ hlo c0
      have d1 := Carries.of lo hb1 _ _ hlo c1
      have HR := Lib.hid hrow
      clear hcell c0 c1 hrow
      go_wp2_with fail
      refine (toSignal_any _ _ _).mono ?_
      rintro e w1 ⟨rfl, hb2⟩
      have hrow1 := HR.out.keep (hb2.block _ hz1)
      obtain ⟨y0, y1, e0, e1, f0, f1⟩ := hrow1.cells hlt
      have HR1 := Lib.hid hrow1
      have hz2 : w.heap.size < w1.heap.size := by have := hb2.size; omega
      have hw1 : Below w.heap.size w w1 := hb1.trans (hb2.mono (by omega))
      clear hrow1
      go_wp2_with fail
      go_roundw
      case rel => exact ⟨k + 1, by omega, by go_num, HR1.out.put hlt rfl rfl, by (repeat' (first | (with_reducible exact Below.refl _ _) | (with_reducible assumption) | (with_reducible refine Below.alloc ?_ ?_ _) | (with_reducible refine Below.drew ?_) | (with_reducible refine below_drewN ?_ _) | (with_reducible refine Below.setCell ?_ ?_ _) | go_size)), by simpa using hz2⟩
      case measure => simp [intOf]; omega
    · have hkk : k = ss.length := by omega
      subst hkk
      have HR := Lib.hid hrow; clear hrow
      go_wp2
      go_ret
      exact ⟨_, rfl, Nat.le_refl _, hz1, HR.out, hb1⟩

set_option maxHeartbeats 400000 in
theorem toLabelS_row (v : Value) (ss : List Lab) (w : World) (lo : Nat) (hv : LabsAt lo w v ss) (hn : ss.length ≤ 1048576) :
    Calls Try.prog 46 #[v] w (fun e w' => ∃ b, e = .returned (.slice (some ⟨b, 0, none⟩) ss.length ss.length) ∧ w.heap.size ≤ b ∧ b < w'.heap.size ∧ PairRow b 124 w' ss.length ss.length (fun i => .int .i64 (lbS ss i)) (fun i => .bool (lbU ss i)) ∧ Below w.heap.size w w') := by
  obtain ⟨ao, cap, rfl, hc, hz⟩ := hv
  have hmk := run_make_labs ss.length hn
  have HF := Lib.hid hz; clear hz
  go_enter Try.func46, Try.ntmps46
  go_wp2
  go_loopw [4] (fun i wr => ∃ k : Nat, k ≤ ss.length ∧ i = .int .i64 k ∧ PairRow w.heap.size 124 wr ss.length k (fun i => .int .i64 (lbS ss i)) (fun i => .bool (lbU ss i)) ∧ Below w.heap.size w wr ∧ w.heap.size < wr.heap.size) (fun i _ => ss.length - (intOf i).toNat)
  case atStart =>
    obtain ⟨f, hf⟩ := rowIs_size (w := w) (t := 124) (size_madeCells #[.int .i64 0, .bool false] (ss.length * 2))
    exact ⟨0, Nat.zero_le _, rfl, ⟨f, hf, fun i hi => absurd hi (Nat.not_lt_zero _)⟩, (Below.refl _ _).alloc (Nat.le_refl _) _, by simp⟩
  case round =>
    obtain ⟨k, hk, rfl, hrow, hb1, hz1⟩ := hrel
    by_cases hlt : k < ss.length
    · rcases HF.out with h0 | ⟨b, off, rfl, hlo, hcell⟩
      · omega
      obtain ⟨c0, c1⟩ := hcell k hlt
      have d0 := Carries.of lo hb1 _ _ hlo c0
      have d1 := Carries.of lo hb1 _ _ hlo c1
      have HR := Lib.hid hrow
      clear hcell c0 c1 hrow
      go_wp2_with fail
      refine (toLabel_any _ _ _).mono ?_
      rintro e w1 ⟨rfl, hb2⟩
      have hrow1 := HR.out.keep (hb2.block _ hz1)
      obtain ⟨y0, y1, e0, e1, f0, f1⟩ := hrow1.cells hlt
      have HR1 := Lib.hid hrow1
      have hz2 : w.heap.size < w1.heap.size := by have := hb2.size; omega
      have hw1 : Below w.heap.size w w1 := hb1.trans (hb2.mono (by omega))
      clear hrow1
      go_wp2_with fail
      go_roundw
      case rel => exact ⟨k + 1, by omega, by go_num, HR1.out.put hlt rfl rfl, by (repeat' (first | (with_reducible exact Below.refl _ _) | (with_reducible assumption) | (with_reducible refine Below.alloc ?_ ?_ _) | (with_reducible refine Below.drew ?_) | (with_reducible refine below_drewN ?_ _) | (with_reducible refine Below.setCell ?_ ?_ _) | go_size)), by simpa using hz2⟩
      case measure => simp [intOf]; omega
    · have hkk : k = ss.length := by omega
      subst hkk
      have HR := Lib.hid hrow; clear hrow
      go_wp2
      go_ret
      exact ⟨_, rfl, Nat.le_refl _, hz1, HR.out, hb1⟩

set_option maxHeartbeats 1000000 in
theorem markSignalS_any (v : Value) (n : Nat) (k : Int) (w : World) (lo hi : Nat) (hv : PairBox lo hi w v n) (hn : n ≤ 1048576) (h0 : 0 ≤ k) (h1 : k ≤ 109951162777600) :
    Calls Try.prog 54 #[v, .int .i64 k] w (fun e w' => e = .returned (.int .i64 (k + 2 * (n : Int))) ∧ Stir lo hi w w') := by
  obtain ⟨ao, cap, rfl⟩ := hv.form
  have HB := Lib.hid hv; clear hv
  go_enter Try.func54, Try.ntmps54
  go_wp2_with fail
  go_loopw [1, 5] (fun kv i wr => ∃ j : Nat, j ≤ n ∧ i = .int .i64 j ∧ kv = .int .i64 (k + 2 * (j : Int)) ∧ Stir lo hi w wr ∧ Hid (PairBox lo hi wr (.slice ao n cap) n)) (fun _ i _ => n - (intOf i).toNat)
  case atStart => exact ⟨0, Nat.zero_le _, rfl, by simp, Stir.refl _ _ _, HB.out⟩
  case round =>
    obtain ⟨j, hj, rfl, rfl, hm, hbox⟩ := hrel
    by_cases hlt : j < n
    · obtain ⟨a, c, e, hz⟩ := id hbox.out
      simp only [Value.slice.injEq, true_and] at e
      obtain ⟨rfl, rfl⟩ := e
      rcases hz with h | ⟨b, off, rfl, hlo, hhi, hcell⟩
      · omega
      obtain ⟨⟨u0, c0⟩, f0⟩ := hcell (j * 2) (by omega)
      obtain ⟨⟨u1, c1⟩, f1⟩ := hcell (j * 2 + 1) (by omega)
      rw [← Nat.add_assoc] at c1 f1
      clear hcell
      have hb00 : b < wr.heap.size := cell_old c0
      go_wp2_with fail
      refine (markText_any _ _ (by omega) (by omega)).mono ?_
      rintro e w1 ⟨s, rfl, hb⟩
      have c0 := cell_carry c0 (Carries.of 0 hb)
      have c1 := cell_carry c1 (Carries.of 0 hb)
      have f0 := (hb.frozen (p := ⟨b, off + j * 2, none⟩) hb00).trans f0
      have f1 := (hb.frozen (p := ⟨b, off + j * 2 + 1, none⟩) hb00).trans f1
      have HM3 := Lib.hid (((hm.trans (Stir.of lo hi hb)).set (p := ⟨b, off + j * 2, none⟩) hlo hhi (.string s)).set (p := ⟨b, off + j * 2 + 1, none⟩) hlo hhi (.int .i64 (k + 2 * (j : Int) + 1)))
      have HB3 := Lib.hid (((hbox.out.after hb).set ⟨b, off + j * 2, none⟩ (.string s)).set ⟨b, off + j * 2 + 1, none⟩ (.int .i64 (k + 2 * (j : Int) + 1)))
      clear hm hbox hb
      go_wp2_with fail
      go_roundw
      case rel => exact ⟨j + 1, by omega, by go_num, by simp; omega, HM3.out, HB3.out⟩
      case measure => simp [intOf]; omega
    · have hjj : j = n := by omega
      subst hjj
      go_wp2_with fail
      go_ret
      exact ⟨rfl, hm⟩

set_option maxHeartbeats 1000000 in
theorem markLabelS_any (v : Value) (n : Nat) (k : Int) (w : World) (lo hi : Nat) (hv : PairBox lo hi w v n) (hn : n ≤ 1048576) (h0 : 0 ≤ k) (h1 : k ≤ 109951162777600) :
    Calls Try.prog 55 #[v, .int .i64 k] w (fun e w' => e = .returned (.int .i64 (k + 2 * (n : Int))) ∧ Stir lo hi w w') := by
  obtain ⟨ao, cap, rfl⟩ := hv.form
  have HB := Lib.hid hv; clear hv
  go_enter Try.func55, Try.ntmps55
  go_wp2_with fail
  go_loopw [1, 5] (fun kv i wr => ∃ j : Nat, j ≤ n ∧ i = .int .i64 j ∧ kv = .int .i64 (k + 2 * (j : Int)) ∧ Stir lo hi w wr ∧ Hid (PairBox lo hi wr (.slice ao n cap) n)) (fun _ i _ => n - (intOf i).toNat)
  case atStart => exact ⟨0, Nat.zero_le _, rfl, by simp, Stir.refl _ _ _, HB.out⟩
  case round =>
    obtain ⟨j, hj, rfl, rfl, hm, hbox⟩ := hrel
    by_cases hlt : j < n
    · obtain ⟨a, c, e, hz⟩ := id hbox.out
      simp only [Value.slice.injEq, true_and] at e
      obtain ⟨rfl, rfl⟩ := e
      rcases hz with h | ⟨b, off, rfl, hlo, hhi, hcell⟩
      · omega
      obtain ⟨⟨u0, c0⟩, f0⟩ := hcell (j * 2) (by omega)
      obtain ⟨⟨u1, c1⟩, f1⟩ := hcell (j * 2 + 1) (by omega)
      rw [← Nat.add_assoc] at c1 f1
      clear hcell
      have HM3 := Lib.hid (fun (u : Value) => (hm.set (p := ⟨b, off + j * 2, none⟩) hlo hhi (.int .i64 (k + 2 * (j : Int)))).set (p := ⟨b, off + j * 2 + 1, none⟩) hlo hhi u)
      have HB3 := Lib.hid (fun (u : Value) => (hbox.out.set ⟨b, off + j * 2, none⟩ (.int .i64 (k + 2 * (j : Int)))).set ⟨b, off + j * 2 + 1, none⟩ u)
      clear hm hbox
      go_wp2_with fail
      go_roundw
      case rel => exact ⟨j + 1, by omega, by go_num, by simp; omega, HM3.out _, HB3.out _⟩
      case measure => simp [intOf]; omega
    · have hjj : j = n := by omega
      subst hjj
      go_wp2_with fail
      go_ret
      exact ⟨rfl, hm⟩

/-- an answer of toSTG: what it reads as; its parts lie one behind the other, and may be written -/
def StgOw (B : Nat) (w : World) (v : Value) (s : StgD) : Prop :=
  ∃ (wN : World) (l m : Nat) (vt vs vl : Value), v = .agg #[.int .i64 s.net.places, vt, vs, vl, .string s.start] ∧ B ≤ l ∧ l ≤ wN.heap.size ∧ wN.heap.size ≤ m ∧ m ≤ w.heap.size ∧
    NetOw l wN (.agg #[.int .i64 s.net.places, vt]) s.net ∧ Same l wN w ∧ PairBox wN.heap.size m w vs s.sigs.length ∧ PairBox m w.heap.size w vl s.labs.length ∧ StgAt B w v s

end Go.Proofs.Ytigkgfdnnfmmmaa

namespace Go.Proofs.Ytigkgfdnnfmmmaa
open Go.RowKit

set_option maxHeartbeats 2000000 in
theorem toSTG_ow (v : Value) (s : StgD) (w : World) (lo : Nat) (hv : StgAt lo w v s) (hs : SmallStg s) :
    Calls Try.prog 12 #[v] w (fun e w' => ∃ u, e = .returned u ∧ StgOw w.heap.size w' u s ∧ Below w.heap.size w w') := by
  obtain ⟨a0, c0, a1, c1, a2, c2, rfl, hn, hsg, hl⟩ := hv.form
  clear hv
  obtain ⟨n, ss, ls, st⟩ := s
  obtain ⟨k1, k2, k3, k4⟩ := hs
  simp only at hn hsg hl k1 k2 k3 k4 ⊢
  have HN := Lib.hid hn; clear hn
  have HG := Lib.hid hsg; clear hsg
  have HL := Lib.hid hl; clear hl
  have K1 := Lib.hid k1; clear k1
  have K2 := Lib.hid k2; clear k2
  go_enter Try.func12, Try.ntmps12
  go_wp2_with fail
  refine (toNet_ow _ n _ lo (HN.out.keep ?_) K1.out).mono ?_
  · (repeat' (first | (with_reducible exact Carries.refl _ _) | (with_reducible assumption) | (with_reducible refine Carries.alloc ?_ _) | (with_reducible refine Carries.drew ?_) | (with_reducible refine Carries.drewN ?_ _) | (with_reducible refine Carries.set ?_ ?_ _) | go_size))
  rintro e w1 ⟨r0, rfl, hi0, hb0⟩
  obtain ⟨hc, hf⟩ := bcell hb0
  have hw1 : Below w.heap.size w w1 := by
    refine Below.trans ?_ (hb0.mono ?_)
    · go_grown
    · simp; omega
  obtain ⟨b0, m0, rfl⟩ := hi0.at.form
  have I0 := Lib.hid (hi0.low (lo' := w.heap.size + 3) (by simp)); clear hi0
  have hz1 : w.heap.size + 1 + 1 < w1.heap.size := by have := hb0.size; simp at this; omega
  have hz1a : w.heap.size + 1 < w1.heap.size := by omega
  have hz1b : w.heap.size < w1.heap.size := by omega
  go_wp2_with fail
  refine (toSignalS_row _ ss _ lo (HG.out.keep (Carries.of lo ?_)) K2.out.1).mono ?_
  · go_grown
  rintro e w2 ⟨bs, rfl, hbs0, hbs1, hrow1, hb1⟩
  obtain ⟨hc2, hf2⟩ := bcell hb1
  have hw2 : Below w.heap.size w w2 := by
    refine Below.trans ?_ (hb1.mono ?_)
    · go_grown
    · simp; omega
  have hbs2 : w1.heap.size ≤ bs := by simpa using hbs0
  have hz2 : w1.heap.size ≤ w2.heap.size := by have := hb1.size; simpa using this
  have hz2a : w.heap.size + 1 + 1 < w2.heap.size := by omega
  have hz2b : w.heap.size + 1 < w2.heap.size := by omega
  have hz2c : w.heap.size < w2.heap.size := by omega
  have S12 := Lib.hid (show Same (w.heap.size + 3) w1 w2 from Same.trans (by (repeat' (first | (with_reducible exact Same.refl _ _) | (with_reducible assumption) | (with_reducible refine Same.alloc ?_ _) | (with_reducible refine Same.drew ?_) | (with_reducible refine Same.drewN ?_ _) | (with_reducible refine Same.set ?_ ?_ _) | go_size))) (Same.of _ hb1))
  have J1 := Lib.hid hrow1; clear hrow1
  go_wp2_with fail
  refine (toLabelS_row _ ls _ lo (HL.out.keep (Carries.of lo ?_)) k3).mono ?_
  · go_grown
  rintro e w3 ⟨bl, rfl, hbl0, hbl1, hrow2, hb2⟩
  obtain ⟨hc3, hf3⟩ := bcell hb2
  have hw3 : Below w.heap.size w w3 := by
    refine Below.trans ?_ (hb2.mono ?_)
    · go_grown
    · simp; omega
  have hbl2 : w2.heap.size ≤ bl := by simpa using hbl0
  have hz3 : w2.heap.size ≤ w3.heap.size := by have := hb2.size; simpa using this
  have S23 := Lib.hid (show Same (w.heap.size + 3) w2 w3 from Same.trans (by (repeat' (first | (with_reducible exact Same.refl _ _) | (with_reducible assumption) | (with_reducible refine Same.alloc ?_ _) | (with_reducible refine Same.drew ?_) | (with_reducible refine Same.drewN ?_ _) | (with_reducible refine Same.set ?_ ?_ _) | go_size))) (Same.of _ hb2))
  have J2 := Lib.hid hrow2; clear hrow2
  go_wp2_with fail
  refine bodyPost_ret (v := .agg #[.int .i64 n.places, .slice b0 n.ts.length m0, .slice (some ⟨bs, 0, none⟩) ss.length ss.length, .slice (some ⟨bl, 0, none⟩) ls.length ls.length, .string st]) (by simp [results, Try.results12, go_sem, hc, hc2, hc3, hz1a, hz2b]) rfl ?_
  have fin : ∀ (X : World), Same (w.heap.size + 3) w3 X → Below w.heap.size w X → ∃ u, Ending.returned (.agg #[.int .i64 n.places, .slice b0 n.ts.length m0, .slice (some ⟨bs, 0, none⟩) ss.length ss.length, .slice (some ⟨bl, 0, none⟩) ls.length ls.length, .string st]) = .returned u ∧ StgOw w.heap.size X u ⟨n, ss, ls, st⟩ ∧ Below w.heap.size w X := by
    intro X hX hB
    have x1 := S12.out.trans (S23.out.trans hX)
    have x2 := S23.out.trans hX
    have row1 := J1.out.keep (w' := X) (x2.2 bs (by omega) hbs1)
    have row2 := J2.out.keep (w' := X) (hX.2 bl (by omega) hbl1)
    have zX := hX.1
    refine ⟨_, rfl, ⟨w1, w.heap.size + 3, w2.heap.size, _, _, _, rfl, by omega, by omega, hz2, by omega, I0.out, x1, row1.box.wide hbs2 (by omega), row2.box.wide hbl2 (by omega), ?_⟩, hB⟩
    exact ⟨_, _, _, rfl, ((I0.out.keep x1).at).low (by omega), (PairsAt.low row1.read (by omega) : SigsAt _ _ _ _), (PairsAt.low row2.read (by omega) : LabsAt _ _ _ _)⟩
  refine fin _ ?_ ?_
  · (repeat' (first | (with_reducible exact Same.refl _ _) | (with_reducible assumption) | (with_reducible refine Same.alloc ?_ _) | (with_reducible refine Same.drew ?_) | (with_reducible refine Same.drewN ?_ _) | (with_reducible refine Same.set ?_ ?_ _) | go_size))
  · (repeat' (first | (with_reducible exact Below.refl _ _) | (with_reducible assumption) | (with_reducible refine Below.alloc ?_ ?_ _) | (with_reducible refine Below.drew ?_) | (with_reducible refine below_drewN ?_ _) | (with_reducible refine Below.setCell ?_ ?_ _) | go_size))

set_option maxRecDepth 100000 in
set_option maxHeartbeats 1000000 in
theorem markSTG_le (v : Value) (s : StgD) (w0 w : World) (B : Nat) (hv : StgOw B w0 v s) (hsm : Same B w0 w) (hs : SmallStg s) :
    Calls Try.prog 16 #[v, .int .i64 1] w (fun e w' => ∃ r : Int, e = .returned (.int .i64 r) ∧ 0 ≤ r ∧ r ≤ 2200000000000 ∧ Stir B w0.heap.size w w') := by
  obtain ⟨wN, l, m, vt, vs, vl, rfl, hBl, hlN, hNm, hm0, hno, hsN, hbs, hbl, hat⟩ := hv
  obtain ⟨n, ss, ls, st⟩ := s
  obtain ⟨k1, k2, k3, k4⟩ := hs
  simp only at hno hbs hbl hat k1 k2 k3 k4 ⊢
  obtain ⟨a0, c0, e0⟩ := hno.at.form
  obtain rfl : vt = .slice a0 n.ts.length c0 := by
    injection e0 with e; injection e with e; injection e with e1 e2; injection e2 with e2
  obtain ⟨a1, c1, rfl⟩ := hbs.form
  obtain ⟨a2, c2, rfl⟩ := hbl.form
  have z0 := hsm.1
  have hsl : Same l wN w := ⟨Nat.le_trans hsN.1 hsm.1, fun b h1 h2 => (hsm.2 b (by omega) (Nat.lt_of_lt_of_le h2 hsN.1)).trans (hsN.2 b h1 h2)⟩
  have hst : Stir 0 B w0 w ∨ True := Or.inr trivial
  have hbs' : PairBox wN.heap.size m w (.slice a1 ss.length c1) ss.length := by
    obtain ⟨ao, cap, hv, hz⟩ := hbs
    refine ⟨ao, cap, hv, ?_⟩
    rcases hz with hz | ⟨b, off, ha, q1, q2, hcell⟩
    · exact Or.inl hz
    · refine Or.inr ⟨b, off, ha, q1, q2, fun i hi => ?_⟩
      obtain ⟨⟨u, hu⟩, hf⟩ := hcell i hi
      have he := hsm.2 b (by omega) (by have := cell_old hu; simpa using this)
      exact ⟨⟨u, (World.cell?_of_block (w := w0) (w' := w) (a := ⟨b, off + i, none⟩) he).trans hu⟩, (World.frozen?_of_block (w := w0) (w' := w) (a := ⟨b, off + i, none⟩) he).trans hf⟩
  have hbl' : PairBox m w0.heap.size w (.slice a2 ls.length c2) ls.length := by
    obtain ⟨ao, cap, hv, hz⟩ := hbl
    refine ⟨ao, cap, hv, ?_⟩
    rcases hz with hz | ⟨b, off, ha, q1, q2, hcell⟩
    · exact Or.inl hz
    · refine Or.inr ⟨b, off, ha, q1, q2, fun i hi => ?_⟩
      obtain ⟨⟨u, hu⟩, hf⟩ := hcell i hi
      have he := hsm.2 b (by omega) (by have := cell_old hu; simpa using this)
      exact ⟨⟨u, (World.cell?_of_block (w := w0) (w' := w) (a := ⟨b, off + i, none⟩) he).trans hu⟩, (World.frozen?_of_block (w := w0) (w' := w) (a := ⟨b, off + i, none⟩) he).trans hf⟩
  have HN := Lib.hid hno; clear hno e0
  have HSL := Lib.hid hsl; clear hsl hsN
  have HBS := Lib.hid hbs'; clear hbs hbs'
  have HBL := Lib.hid hbl'; clear hbl hbl' hat hst
  have K1 := Lib.hid k1; clear k1
  have K2 := k2.1; clear k2
  have hTr := totTo_le K1.out n.ts.length (Nat.le_refl _)
  have hl1 : n.ts.length ≤ 1048576 := K1.out.1
  have hT2 : totTo n.ts n.ts.length ≤ 2199023255552 := by omega
  go_enter Try.func16, Try.ntmps16
  have hal : Below w.heap.size w (w.alloc (.cells #[.int .i64 n.places, .slice a0 n.ts.length c0, .slice a1 ss.length c1, .slice a2 ls.length c2, .string st] 42)) := (Below.refl _ _).alloc (Nat.le_refl _) _
  go_wp2_with fail
  have x2 : (w.alloc (.cells #[.int .i64 n.places, .slice a0 n.ts.length c0, .slice a1 ss.length c1, .slice a2 ls.length c2, .string st] 42)).cell? ⟨w.heap.size, 2, none⟩ = some (.slice a1 ss.length c1) := by simp
  have x3 : (w.alloc (.cells #[.int .i64 n.places, .slice a0 n.ts.length c0, .slice a1 ss.length c1, .slice a2 ls.length c2, .string st] 42)).cell? ⟨w.heap.size, 3, none⟩ = some (.slice a2 ls.length c2) := by simp
  generalize w.alloc (.cells #[.int .i64 n.places, .slice a0 n.ts.length c0, .slice a1 ss.length c1, .slice a2 ls.length c2, .string st] 42) = W at hal x2 x3 ⊢
  have zW := hal.size
  refine (markNet_any _ n 1 wN W l HN.out (HSL.out.trans (Same.of _ hal)) K1.out (by omega) (by omega)).mono ?_
  rintro e w1 ⟨wa, rfl, hba, hmk⟩
  have ST1 : Stir B w0.heap.size w w1 := (Stir.of _ _ hal).trans ((Stir.of _ _ hba).trans (hmk.stir.wide (by omega) (by omega)))
  have y2 := hmk.cell (Or.inr (by simp; omega)) (cell_carry x2 (Carries.of 0 hba))
  have y3 := hmk.cell (Or.inr (by simp; omega)) (cell_carry x3 (Carries.of 0 hba))
  have B1 := Lib.hid (((HBS.out.after hal).after hba).stir hmk.stir (Or.inr (Nat.le_refl _)))
  have B2 := Lib.hid (((HBL.out.after hal).after hba).stir hmk.stir (Or.inr (by omega)))
  clear hmk hba x2 x3 hal HBS HBL
  generalize totTo n.ts n.ts.length = T at hT2
  go_wp2_with fail
  refine (markSignalS_any _ ss.length _ _ _ _ B1.out K2 (by omega) (by omega)).mono ?_
  rintro e w2 ⟨rfl, hst⟩
  have ST2 := ST1.trans (hst.wide (by omega) (by omega))
  have y3 := hst.cell (Or.inr (by simp; omega)) y3
  have B3 := Lib.hid (B2.out.stir hst (Or.inr (Nat.le_refl _)))
  clear hst y2 B1 B2
  go_wp2_with fail
  refine (markLabelS_any _ ls.length _ _ _ _ B3.out k3 (by omega) (by omega)).mono ?_
  rintro e w3 ⟨rfl, hst⟩
  have ST3 := ST2.trans (hst.wide (by omega) (by omega))
  go_wp2_with fail
  go_ret
  exact ⟨_, rfl, by omega, by omega, ST3⟩

theorem markSTG_any (v : Value) (s : StgD) (w0 w : World) (B : Nat) (hv : StgOw B w0 v s) (hsm : Same B w0 w) (hs : SmallStg s) :
    Calls Try.prog 16 #[v, .int .i64 1] w (fun e w' => ∃ r : Int, e = .returned (.int .i64 r) ∧ 0 ≤ r ∧ Stir B w0.heap.size w w') := by
  refine (markSTG_le v s w0 w B hv hsm hs).mono ?_
  rintro e w1 ⟨r, h1, h2, _, h3⟩
  exact ⟨r, h1, h2, h3⟩

end Go.Proofs.Ytigkgfdnnfmmmaa
