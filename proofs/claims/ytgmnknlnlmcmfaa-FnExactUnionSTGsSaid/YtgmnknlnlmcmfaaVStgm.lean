/- WALKS: toSTG once more (what may be written in its answer), markSignalS, markLabelS, markSTG. -/
import Derived.Test.YtgmnknlnlmcmfaaVMtext
namespace Go.Proofs.Ytgmnknlnlmcmfaa
open Go.RowKit

set_option maxHeartbeats 400000 in
theorem toSignalS_row (v : Value) (ss : List Sig) (w : World) (lo : Nat) (hv : SigsAt lo w v ss) (hn : ss.length ≤ 1048576) :
    Calls Try.prog 56 #[v] w (fun e w' => ∃ b, e = .returned (.slice (some ⟨b, 0, none⟩) ss.length ss.length) ∧ w.heap.size ≤ b ∧ b < w'.heap.size ∧ PairRow b 118 w' ss.length ss.length (fun i => .string (sgN ss i)) (fun i => .int .i64 (sgK ss i)) ∧ Below w.heap.size w w') := by
  obtain ⟨ao, cap, rfl, hc, hz⟩ := hv
  have hmk := run_make_sigs ss.length hn
  have HF := Lib.hid hz; clear hz
  go_enter Try.func56, Try.ntmps56
  go_wp2
  go_loopw [4] (fun i wr => ∃ k : Nat, k ≤ ss.length ∧ i = .int .i64 k ∧ PairRow w.heap.size 118 wr ss.length k (fun i => .string (sgN ss i)) (fun i => .int .i64 (sgK ss i)) ∧ Below w.heap.size w wr ∧ w.heap.size < wr.heap.size) (fun i _ => ss.length - (intOf i).toNat)
  case atStart =>
    obtain ⟨f, hf⟩ := rowIs_size (w := w) (t := 118) (size_madeCells #[.string ByteArray.empty, .int .i64 0] (ss.length * 2))
    exact ⟨0, Nat.zero_le _, rfl, ⟨f, hf, fun i hi => absurd hi (Nat.not_lt_zero _)⟩, (Below.refl _ _).alloc (Nat.le_refl _) _, by simp⟩
  case round =>
    obtain ⟨k, hk, rfl, hrow, hb1, hz1⟩ := hrel
    by_cases hlt : k < ss.length
    · rcases HF.out with h0 | ⟨b, off, rfl, hlo, hcell⟩
      · omega
      obtain ⟨c0, c1⟩ := hcell k hlt
      have d0 := Carries.of lo hb1 _ _ hlo c0
      have d1 := Carries.of lo hb1 _ _ hlo c1
      have HR := Lib.hid hrow
      clear hcell c0 c1 hrow
      go_wp2_with fail
      refine (toSignal_any _ _ _).mono ?_
      rintro e w1 ⟨rfl, hb2⟩
      have hrow1 := HR.out.keep (hb2.block _ hz1)
      obtain ⟨y0, y1, e0, e1, f0, f1⟩ := hrow1.cells hlt
      have HR1 := Lib.hid hrow1
      have hz2 : w.heap.size < w1.heap.size := by have := hb2.size; omega
      have hw1 : Below w.heap.size w w1 := hb1.trans (hb2.mono (by omega))
      clear hrow1
      go_wp2_with fail
      go_roundw
      case rel => exact ⟨k + 1, by omega, by go_num, HR1.out.put hlt rfl rfl, by (repeat' (first | (with_reducible exact Below.refl _ _) | (with_reducible assumption) | (with_reducible refine Below.alloc ?_ ?_ _) | (with_reducible refine Below.drew ?_) | (with_reducible refine below_drewN ?_ _) | (with_reducible refine Below.setCell ?_ ?_ _) | go_size)), by simpa using hz2⟩
      case measure => simp [intOf]; omega
    · have hkk : k = ss.length := by omega
      subst hkk
      have HR := Lib.hid hrow; clear hrow
      go_wp2
      go_ret
      exact ⟨_, rfl, Nat.le_refl _, hz1, HR.out, hb1⟩

set_option maxHeartbeats 400000 in
theorem toLabelS_row (v : Value) (ss : List Lab) (w : World) (lo : Nat) (hv : LabsAt lo w v ss) (hn : ss.length ≤ 1048576) :
    Calls Try.prog 83 #[v] w (fun e w' => ∃ b, e = .returned (.slice (some ⟨b, 0, none⟩) ss.length ss.length) ∧ w.heap.size ≤ b ∧ b < w'.heap.size ∧ PairRow b 113 w' ss.length ss.length (fun i => .int .i64 (lbS ss i)) (fun i => .bool (lbU ss i)) ∧ Below w.heap.size w w') := by
  obtain ⟨ao, cap, rfl, hc, hz⟩ := hv
  have hmk := run_make_labs ss.length hn
  have HF := Lib.hid hz; clear hz
  go_enter Try.func83, Try.ntmps83
  go_wp2
  go_loopw [4] (fun i wr => ∃ k : Nat, k ≤ ss.length ∧ i = .int .i64 k ∧ PairRow w.heap.size 113 wr ss.length k (fun i => .int .i64 (lbS ss i)) (fun i => .bool (lbU ss i)) ∧ Below w.heap.size w wr ∧ w.heap.size < wr.heap.size) (fun i _ => ss.length - (intOf i).toNat)
  case atStart =>
    obtain ⟨f, hf⟩ := rowIs_size (w := w) (t := 113) (size_madeCells #[.int .i64 0, .bool false] (ss.length * 2))
    exact ⟨0, Nat.zero_le _, rfl, ⟨f, hf, fun i hi => absurd hi (Nat.not_lt_zero _)⟩, (Below.refl _ _).alloc (Nat.le_refl _) _, by simp⟩
  case round =>
    obtain ⟨k, hk, rfl, hrow, hb1, hz1⟩ := hrel
    by_cases hlt : k < ss.length
    · rcases HF.out with h0 | ⟨b, off, rfl, hlo, hcell⟩
      · omega
      obtain ⟨c0, c1⟩ := hcell k hlt
      have d0 := Carries.of lo hb1 _ _ hlo c0
      have d1 := Carries.of lo hb1 _ _ hlo c1
      have HR := Lib.hid hrow
      clear hcell c0 c1 hrow
      go_wp2_with fail
      refine (toLabel_any _ _ _).mono ?_
      rintro e w1 ⟨rfl, hb2⟩
      have hrow1 := HR.out.keep (hb2.block _ hz1)
      obtain ⟨y0, y1, e0, e1, f0, f1⟩ := hrow1.cells hlt
      have HR1 := Lib.hid hrow1
      have hz2 : w.heap.size < w1.heap.size := by have := hb2.size; omega
      have hw1 : Below w.heap.size w w1 := hb1.trans (hb2.mono (by omega))
      clear hrow1
      go_wp2_with fail
      go_roundw
      case rel => exact ⟨k + 1, by omega, by go_num, HR1.out.put hlt rfl rfl, by (repeat' (first | (with_reducible exact Below.refl _ _) | (with_reducible assumption) | (with_reducible refine Below.alloc ?_ ?_ _) | (with_reducible refine Below.drew ?_) | (with_reducible refine below_drewN ?_ _) | (with_reducible refine Below.setCell ?_ ?_ _) | go_size)), by simpa using hz2⟩
      case measure => simp [intOf]; omega
    · have hkk : k = ss.length := by omega
      subst hkk
      have HR := Lib.hid hrow; clear hrow
      go_wp2
      go_ret
      exact ⟨_, rfl, Nat.le_refl _, hz1, HR.out, hb1⟩

theorem PairRow.box {b : Nat} {t : TypeId} {w : World} {n : Nat} {x y : Nat → Value} (h : PairRow b t w n n x y) : PairBox b (b + 1) w (.slice (some ⟨b, 0, none⟩) n n) n := by
  obtain ⟨f, hr, _⟩ := h
  refine ⟨_, _, rfl, Or.inr ⟨b, 0, rfl, Nat.le_refl _, Nat.lt_succ_self _, fun i hi => ⟨⟨f i, ?_⟩, ?_⟩⟩⟩
  · rw [Nat.zero_add]; exact hr.cell hi
  · exact hr.frozen _
theorem PairBox.wide {lo hi lo' hi' : Nat} {w : World} {v : Value} {n : Nat} (h : PairBox lo hi w v n) (h1 : lo' ≤ lo) (h2 : hi ≤ hi') : PairBox lo' hi' w v n := by
  obtain ⟨ao, cap, hv, hz⟩ := h
  refine ⟨ao, cap, hv, ?_⟩
  rcases hz with hz | ⟨b, off, ha, q1, q2, hcell⟩
  · exact Or.inl hz
  · exact Or.inr ⟨b, off, ha, by omega, by omega, hcell⟩
theorem PairBox.after {lo hi : Nat} {w w' : World} {v : Value} {n : Nat} (h : PairBox lo hi w v n) (hb : Below w.heap.size w w') : PairBox lo hi w' v n := h.stir (Stir.of 0 0 hb) (Or.inr (Nat.zero_le _))
theorem PairBox.set {lo hi : Nat} {w : World} {v : Value} {n : Nat} (h : PairBox lo hi w v n) (p : Addr) (u : Value) : PairBox lo hi (w.setCell p u) v n := by
  obtain ⟨ao, cap, hv, hz⟩ := h
  refine ⟨ao, cap, hv, ?_⟩
  rcases hz with hz | ⟨b, off, ha, q1, q2, hcell⟩
  · exact Or.inl hz
  · refine Or.inr ⟨b, off, ha, q1, q2, fun i hi => ?_⟩
    obtain ⟨⟨z, hu⟩, hf⟩ := hcell i hi
    refine ⟨?_, (World.frozen?_setCell _ _ _ _).trans hf⟩
    by_cases e : p = ⟨b, off + i, none⟩
    · subst e; exact ⟨u, World.cell?_setCell_same _ _ _ hu⟩
    · exact ⟨z, (World.cell?_setCell_other _ _ _ _ e).trans hu⟩


set_option maxHeartbeats 1000000 in
theorem markSignalS_any (v : Value) (n : Nat) (k : Int) (w : World) (lo hi : Nat) (hv : PairBox lo hi w v n) (hn : n ≤ 1048576) (h0 : 0 ≤ k) (h1 : k ≤ 109951162777600) :
    Calls Try.prog 64 #[v, .int .i64 k] w (fun e w' => e = .returned (.int .i64 (k + 2 * (n : Int))) ∧ Stir lo hi w w') := by
  obtain ⟨ao, cap, rfl⟩ := hv.form
  have HB := Lib.hid hv; clear hv
  go_enter Try.func64, Try.ntmps64
  go_wp2_with fail
  go_loopw [1, 5] (fun kv i wr => ∃ j : Nat, j ≤ n ∧ i = .int .i64 j ∧ kv = .int .i64 (k + 2 * (j : Int)) ∧ Stir lo hi w wr ∧ Hid (PairBox lo hi wr (.slice ao n cap) n)) (fun _ i _ => n - (intOf i).toNat)
  case atStart => exact ⟨0, Nat.zero_le _, rfl, by simp, Stir.refl _ _ _, HB.out⟩
  case round =>
    obtain ⟨j, hj, rfl, rfl, hm, hbox⟩ := hrel
    by_cases hlt : j < n
    · obtain ⟨a, c, e, hz⟩ := id hbox.out
      simp only [Value.slice.injEq, true_and] at e
      obtain ⟨rfl, rfl⟩ := e
      rcases hz with h | ⟨b, off, rfl, hlo, hhi, hcell⟩
      · omega
      obtain ⟨⟨u0, c0⟩, f0⟩ := hcell (j * 2) (by omega)
      obtain ⟨⟨u1, c1⟩, f1⟩ := hcell (j * 2 + 1) (by omega)
      rw [← Nat.add_assoc] at c1 f1
      clear hcell
      have hb00 : b < wr.heap.size := cell_old c0
      go_wp2_with fail
      refine (markText_any _ _ (by omega) (by omega)).mono ?_
      rintro e w1 ⟨s, rfl, hb⟩
      have c0 := cell_carry c0 (Carries.of 0 hb)
      have c1 := cell_carry c1 (Carries.of 0 hb)
      have f0 := (hb.frozen (p := ⟨b, off + j * 2, none⟩) hb00).trans f0
      have f1 := (hb.frozen (p := ⟨b, off + j * 2 + 1, none⟩) hb00).trans f1
      have HM3 := Lib.hid (((hm.trans (Stir.of lo hi hb)).set (p := ⟨b, off + j * 2, none⟩) hlo hhi (.string s)).set (p := ⟨b, off + j * 2 + 1, none⟩) hlo hhi (.int .i64 (k + 2 * (j : Int) + 1)))
      have HB3 := Lib.hid (((hbox.out.after hb).set ⟨b, off + j * 2, none⟩ (.string s)).set ⟨b, off + j * 2 + 1, none⟩ (.int .i64 (k + 2 * (j : Int) + 1)))
      clear hm hbox hb
      go_wp2_with fail
      go_roundw
      case rel => exact ⟨j + 1, by omega, by go_num, by simp; omega, HM3.out, HB3.out⟩
      case measure => simp [intOf]; omega
    · have hjj : j = n := by omega
      subst hjj
      go_wp2_with fail
      go_ret
      exact ⟨rfl, hm⟩

set_option maxHeartbeats 1000000 in
theorem markLabelS_any (v : Value) (n : Nat) (k : Int) (w : World) (lo hi : Nat) (hv : PairBox lo hi w v n) (hn : n ≤ 1048576) (h0 : 0 ≤ k) (h1 : k ≤ 109951162777600) :
    Calls Try.prog 92 #[v, .int .i64 k] w (fun e w' => e = .returned (.int .i64 (k + 2 * (n : Int))) ∧ Stir lo hi w w') := by
  obtain ⟨ao, cap, rfl⟩ := hv.form
  have HB := Lib.hid hv; clear hv
  go_enter Try.func92, Try.ntmps92
  go_wp2_with fail
  go_loopw [1, 5] (fun kv i wr => ∃ j : Nat, j ≤ n ∧ i = .int .i64 j ∧ kv = .int .i64 (k + 2 * (j : Int)) ∧ Stir lo hi w wr ∧ Hid (PairBox lo hi wr (.slice ao n cap) n)) (fun _ i _ => n - (intOf i).toNat)
  case atStart => exact ⟨0, Nat.zero_le _, rfl, by simp, Stir.refl _ _ _, HB.out⟩
  case round =>
    obtain ⟨j, hj, rfl, rfl, hm, hbox⟩ := hrel
    by_cases hlt : j < n
    · obtain ⟨a, c, e, hz⟩ := id hbox.out
      simp only [Value.slice.injEq, true_and] at e
      obtain ⟨rfl, rfl⟩ := e
      rcases hz with h | ⟨b, off, rfl, hlo, hhi, hcell⟩
      · omega
      obtain ⟨⟨u0, c0⟩, f0⟩ := hcell (j * 2) (by omega)
      obtain ⟨⟨u1, c1⟩, f1⟩ := hcell (j * 2 + 1) (by omega)
      rw [← Nat.add_assoc] at c1 f1
      clear hcell
      have HM3 := Lib.hid (fun (u : Value) => (hm.set (p := ⟨b, off + j * 2, none⟩) hlo hhi (.int .i64 (k + 2 * (j : Int)))).set (p := ⟨b, off + j * 2 + 1, none⟩) hlo hhi u)
      have HB3 := Lib.hid (fun (u : Value) => (hbox.out.set ⟨b, off + j * 2, none⟩ (.int .i64 (k + 2 * (j : Int)))).set ⟨b, off + j * 2 + 1, none⟩ u)
      clear hm hbox
      go_wp2_with fail
      go_roundw
      case rel => exact ⟨j + 1, by omega, by go_num, by simp; omega, HM3.out _, HB3.out _⟩
      case measure => simp [intOf]; omega
    · have hjj : j = n := by omega
      subst hjj
      go_wp2_with fail
      go_ret
      exact ⟨rfl, hm⟩

/-- an answer of toSTG: what it reads as; its parts lie one behind the other, and may be written -/
def StgOw (B : Nat) (w : World) (v : Value) (s : StgD) : Prop :=
  ∃ (wN : World) (l m : Nat) (vt vs vl : Value), v = .agg #[.int .i64 s.net.places, vt, vs, vl, .string s.start] ∧ B ≤ l ∧ l ≤ wN.heap.size ∧ wN.heap.size ≤ m ∧ m ≤ w.heap.size ∧
    NetOw l wN (.agg #[.int .i64 s.net.places, vt]) s.net ∧ Same l wN w ∧ PairBox wN.heap.size m w vs s.sigs.length ∧ PairBox m w.heap.size w vl s.labs.length ∧ StgAt B w v s

end Go.Proofs.Ytgmnknlnlmcmfaa
