/- THE READING OF AN ARGUMENT: a slice of ints, a slice of transitions, a net, as data.
   THE READING OF AN ARGUMENT: signals, as data.
   THE READING OF AN ARGUMENT: signals, labels, a graph, as data. -/
import Derived.Test.YtigkgfdnnfmmmaaVL1in
import Derived.Test.YtigkgfdnnfmmmaaRows
import Derived.ProofKit
import Derived.Lib.SmallJoins
import Derived.Test.YtigkgfdnnfmmmaaVPair
import Derived.Test.YtigkgfdnnfmmmaaVStga
namespace Go.Proofs.Ytigkgfdnnfmmmaa
open Go.ChangeShapes Go.WideShapes Go.ChangeAt Go.RowKit Go.Joins Go.Deep

theorem Try.own : ownKnob Try.prog.godebug = none := by kernel_rfl
theorem Try.laidOut : laidOutB Try.prog = true := by kernel_rfl
theorem Try.cellsInt : Try.prog.cellsOf 3 = 1 := by kernel_rfl
theorem Try.cellsInts : Try.prog.cellsOf 49 = 1 := by kernel_rfl
theorem Try.cellsLTr : Try.prog.cellsOf 146 = 2 := by kernel_rfl
theorem Try.cellsLTrs : Try.prog.cellsOf 22 = 1 := by kernel_rfl
theorem Try.cellsLNet : Try.prog.cellsOf 24 = 2 := by kernel_rfl

section
variable {H : Type} {enc : TypeId × Value → H} {W : World}

theorem ints_open {fuel : Nat} {v : Value} {x : DataW H × List MemPlace} {held : Bool} (h : DataW.trod enc Try.prog W 0 (fun _ => true) held fuel 49 [v] = some x) : ∃ zs, IntsAt 0 W v zs ∧ zs.length ≤ 9223372036854775807 := by
  rcases open_ints Try.underlying49 Try.underlying3 Try.cellsInt h with ⟨hcs, _⟩ | ⟨a, len, cap, zs, hcs, _, hl, hm, hz, _, hcell, _⟩
  · simp only [List.cons.injEq, and_true] at hcs
    subst hcs
    exact ⟨[], ⟨none, 0, rfl, Nat.le_refl _, Or.inl rfl⟩, Nat.zero_le _⟩
  · simp only [List.cons.injEq, and_true] at hcs
    subst hcs
    simp only [if_true] at hz
    have hlen : (zs.take len).length = len := by simp; omega
    unfold maxLen at hm
    refine ⟨zs.take len, ⟨some a, cap, by rw [hlen], by omega, ?_⟩, by omega⟩
    by_cases h0 : len = 0
    · left; subst h0; simp
    · right
      obtain ⟨b, off, spot⟩ := a
      have hspot : spot = none := by simpa [Addr.add] using World.cell?_spot (hcell 0 (by omega))
      subst hspot
      refine ⟨b, off, rfl, Nat.zero_le _, fun i hi => ?_⟩
      rw [hlen] at hi
      have := hcell i (by omega)
      rw [add_plain] at this
      rw [this]
      simp [List.getD, hi]

theorem trs_open {fuel : Nat} {v : Value} {x : DataW H × List MemPlace} {held : Bool} (h : DataW.trod enc Try.prog W 0 (fun _ => true) held fuel 22 [v] = some x) : ∃ ts, TrsAt 0 W v ts ∧ OkTrs ts := by
  rcases open_slice_pairs Try.underlying22 Try.underlying146 Try.cellsLTr rfl rfl Try.cellsInts Try.cellsInts h with ⟨hcs, _⟩ | ⟨a, len, cap, m, n, V0, V1, D0, D1, P0, P1, hcs, _, hl, hm, hmm, _, hx⟩
  · simp only [List.cons.injEq, and_true] at hcs
    subst hcs
    exact ⟨[], ⟨none, 0, rfl, Nat.le_refl _, Or.inl rfl⟩, Nat.zero_le _, fun i hi => absurd hi (Nat.not_lt_zero _)⟩
  · simp only [List.cons.injEq, and_true] at hcs
    subst hcs
    simp only [if_true] at hmm
    subst hmm
    unfold maxLen at hm
    have each : ∀ i, i < len → ∃ t : Tr, TrAt 0 W (V0 i) (V1 i) t ∧ t.1.length ≤ 9223372036854775807 ∧ t.2.length ≤ 9223372036854775807 := fun i hi => by
      obtain ⟨_, _, g0, g1⟩ := hx i (by omega)
      obtain ⟨z0, h0, k0⟩ := ints_open g0
      obtain ⟨z1, h1, k1⟩ := ints_open g1
      exact ⟨(z0, z1), ⟨h0, h1⟩, k0, k1⟩
    obtain ⟨f, hf⟩ := choose_lt each
    have hlen : ((List.range len).map f).length = len := by simp
    have hget : ∀ i, i < len → ((List.range len).map f).getD i ([], []) = f i := fun i hi => by simp [List.getD, hi]
    refine ⟨(List.range len).map f, ⟨some a, m, by rw [hlen], by omega, ?_⟩, by omega, fun i hi => ?_⟩
    · by_cases h0 : len = 0
      · left; subst h0; simp
      · right
        obtain ⟨b, off, spot⟩ := a
        have hspot : spot = none := by simpa [Addr.add] using World.cell?_spot (hx 0 (by omega)).1
        subst hspot
        refine ⟨b, off, rfl, Nat.zero_le _, fun i hi => ?_⟩
        rw [hlen] at hi
        obtain ⟨c0, c1, _, _⟩ := hx i (by omega)
        rw [add_plain] at c0 c1
        exact ⟨_, _, c0, by simpa [Nat.add_assoc] using c1, by rw [hget i hi]; exact (hf i hi).1⟩
    · rw [hlen] at hi
      rw [hget i hi]
      exact (hf i hi).2

theorem wf_bounds {a : Int} (h : (Lit.int .i64 a).wf = true) : -9223372036854775808 ≤ a ∧ a ≤ 9223372036854775807 := by
  have h1 : IntKind.i64.min = -9223372036854775808 := rfl
  have h2 : IntKind.i64.max = 9223372036854775807 := rfl
  simp only [Lit.wf, Bool.and_eq_true, decide_eq_true_eq] at h
  omega

set_option maxRecDepth 100000 in
theorem net_open {v : Value} {d : DataW H} {p : List MemPlace} {base : Nat} {held : Bool} (hv : Value.okWide Try.prog W .any base 24 v) (h : DataW.Trod enc Try.prog W 0 (fun _ => true) held 24 v d p) : ∃ n, NetAt 0 W v n ∧ OkTrs n.ts := by
  obtain ⟨c0, c1, y0, y1, m, rfl, _, _, hy0, hy1⟩ := open_agg2 Try.underlying24 (by kernel_rfl) Try.cellsLNet hv h
  obtain ⟨a, e0, _, wa⟩ := DataW.trod_int Try.underlying3 hy0
  simp only [List.cons.injEq, and_true] at e0
  subst e0
  obtain ⟨ts, ht, hok⟩ := trs_open hy1
  have hb : -9223372036854775808 ≤ a ∧ a ≤ 9223372036854775807 := wf_bounds wa
  exact ⟨⟨a, ts⟩, ⟨hb.1, hb.2, _, rfl, ht⟩, hok⟩

end
end Go.Proofs.Ytigkgfdnnfmmmaa

namespace Go.Proofs.Ytigkgfdnnfmmmaa
open Go.ChangeShapes Go.WideShapes Go.ChangeAt Go.RowKit Go.Joins Go.Deep

theorem Try.cellsStr : Try.prog.cellsOf 9 = 1 := by kernel_rfl
theorem Try.cellsBool : Try.prog.cellsOf 4 = 1 := by kernel_rfl
theorem Try.cellsLSig : Try.prog.cellsOf 122 = 2 := by kernel_rfl
theorem Try.cellsLSigs : Try.prog.cellsOf 25 = 1 := by kernel_rfl

section
variable {H : Type} {enc : TypeId × Value → H} {W : World}

theorem sigs_open {fuel : Nat} {v : Value} {x : DataW H × List MemPlace} {held : Bool} (h : DataW.trod enc Try.prog W 0 (fun _ => true) held fuel 25 [v] = some x) : ∃ ss, SigsAt 0 W v ss ∧ OkSigs ss := by
  rcases open_slice_pairs Try.underlying25 Try.underlying122 Try.cellsLSig rfl rfl Try.cellsStr Try.cellsInt h with ⟨hcs, _⟩ | ⟨a, len, cap, m, n, V0, V1, D0, D1, P0, P1, hcs, _, hl, hm, hmm, _, hx⟩
  · simp only [List.cons.injEq, and_true] at hcs
    subst hcs
    exact ⟨[], ⟨none, 0, rfl, Nat.le_refl _, Or.inl rfl⟩, Nat.zero_le _, fun i hi => absurd hi (Nat.not_lt_zero _)⟩
  · simp only [List.cons.injEq, and_true] at hcs
    subst hcs
    simp only [if_true] at hmm
    subst hmm
    unfold maxLen at hm
    have each : ∀ i, i < len → ∃ t : Sig, V0 i = .string t.1 ∧ V1 i = .int .i64 t.2 ∧ t.1.size ≤ 9223372036854775807 := fun i hi => by
      obtain ⟨_, _, g0, g1⟩ := hx i (by omega)
      obtain ⟨s, e0, _, k0⟩ := DataW.trod_string Try.underlying9 g0
      obtain ⟨z, e1, _, _⟩ := DataW.trod_int Try.underlying3 g1
      simp only [List.cons.injEq, and_true] at e0 e1
      unfold maxLen at k0
      exact ⟨(s, z), e0, e1, by omega⟩
    obtain ⟨f, hf⟩ := choose_lt each
    have hlen : ((List.range len).map f).length = len := by simp
    have hget : ∀ i, i < len → ((List.range len).map f).getD i (ByteArray.empty, 0) = f i := fun i hi => by simp [List.getD, hi]
    refine ⟨(List.range len).map f, ⟨some a, m, by rw [hlen], by omega, ?_⟩, by omega, fun i hi => ?_⟩
    · by_cases h0 : len = 0
      · left; subst h0; simp
      · right
        obtain ⟨b, off, spot⟩ := a
        have hspot : spot = none := by simpa [Addr.add] using World.cell?_spot (hx 0 (by omega)).1
        subst hspot
        refine ⟨b, off, rfl, Nat.zero_le _, fun i hi => ?_⟩
        rw [hlen] at hi
        obtain ⟨c0, c1, _, _⟩ := hx i (by omega)
        rw [add_plain] at c0 c1
        unfold sgN sgK
        dsimp only
        rw [hget i hi, ← (hf i hi).1, ← (hf i hi).2.1]
        exact ⟨c0, by simpa [Nat.add_assoc] using c1⟩
    · rw [hlen] at hi
      unfold sgN
      rw [hget i hi]
      exact (hf i hi).2.2

end
end Go.Proofs.Ytigkgfdnnfmmmaa

namespace Go.Proofs.Ytigkgfdnnfmmmaa
open Go.ChangeShapes Go.WideShapes Go.ChangeAt Go.RowKit Go.Joins Go.Deep

theorem Try.cellsLLab : Try.prog.cellsOf 131 = 2 := by kernel_rfl
theorem Try.cellsLLabs : Try.prog.cellsOf 26 = 1 := by kernel_rfl
theorem Try.cellsLStg : Try.prog.cellsOf 28 = 5 := by kernel_rfl

theorem arr5 {α : Type} {cs : Array α} (h : cs.size = 5) : ∃ c0 c1 c2 c3 c4, cs = #[c0, c1, c2, c3, c4] := by
  obtain ⟨l⟩ := cs
  match l, h with
  | [c0, c1, c2, c3, c4], _ => exact ⟨c0, c1, c2, c3, c4, rfl⟩

section
variable {H : Type} {enc : TypeId × Value → H} {W : World}

theorem labs_open {fuel : Nat} {v : Value} {x : DataW H × List MemPlace} {held : Bool} (h : DataW.trod enc Try.prog W 0 (fun _ => true) held fuel 26 [v] = some x) : ∃ ss, LabsAt 0 W v ss ∧ ss.length ≤ 9223372036854775807 := by
  rcases open_slice_pairs Try.underlying26 Try.underlying131 Try.cellsLLab rfl rfl Try.cellsInt Try.cellsBool h with ⟨hcs, _⟩ | ⟨a, len, cap, m, n, V0, V1, D0, D1, P0, P1, hcs, _, hl, hm, hmm, _, hx⟩
  · simp only [List.cons.injEq, and_true] at hcs
    subst hcs
    exact ⟨[], ⟨none, 0, rfl, Nat.le_refl _, Or.inl rfl⟩, Nat.zero_le _⟩
  · simp only [List.cons.injEq, and_true] at hcs
    subst hcs
    simp only [if_true] at hmm
    subst hmm
    unfold maxLen at hm
    have each : ∀ i, i < len → ∃ t : Lab, V0 i = .int .i64 t.1 ∧ V1 i = .bool t.2 := fun i hi => by
      obtain ⟨_, _, g0, g1⟩ := hx i (by omega)
      obtain ⟨z, e0, _, _⟩ := DataW.trod_int Try.underlying3 g0
      obtain ⟨b, e1, _⟩ := DataW.trod_bool Try.underlying4 g1
      simp only [List.cons.injEq, and_true] at e0 e1
      exact ⟨(z, b), e0, e1⟩
    obtain ⟨f, hf⟩ := choose_lt each
    have hlen : ((List.range len).map f).length = len := by simp
    have hget : ∀ i, i < len → ((List.range len).map f).getD i (0, false) = f i := fun i hi => by simp [List.getD, hi]
    refine ⟨(List.range len).map f, ⟨some a, m, by rw [hlen], by omega, ?_⟩, by omega⟩
    by_cases h0 : len = 0
    · left; subst h0; simp
    · right
      obtain ⟨b, off, spot⟩ := a
      have hspot : spot = none := by simpa [Addr.add] using World.cell?_spot (hx 0 (by omega)).1
      subst hspot
      refine ⟨b, off, rfl, Nat.zero_le _, fun i hi => ?_⟩
      rw [hlen] at hi
      obtain ⟨c0, c1, _, _⟩ := hx i (by omega)
      rw [add_plain] at c0 c1
      unfold lbS lbU
      dsimp only
      rw [hget i hi, ← (hf i hi).1, ← (hf i hi).2]
      exact ⟨c0, by simpa [Nat.add_assoc] using c1⟩

set_option maxRecDepth 100000 in
theorem stg_open {v : Value} {d : DataW H} {p : List MemPlace} {base : Nat} {held : Bool} (hv : Value.okWide Try.prog W .any base 28 v) (h : DataW.Trod enc Try.prog W 0 (fun _ => true) held 28 v d p) : ∃ s, StgAt 0 W v s ∧ OkStg s := by
  obtain ⟨cs, rfl, hsz⟩ := okWide_struct Try.underlying28 hv
  obtain ⟨c0, c1, c2, c3, c4, rfl⟩ := arr5 (hsz.trans Try.cellsLStg)
  obtain ⟨fuel, hf⟩ := h
  obtain ⟨y0, y1, y2, y3, n, _, _, h0, h1, h2, h3⟩ := trod_struct4 Try.underlying28 hf
  have g0 : DataW.trod enc Try.prog W 0 (fun _ => true) held n 24 [c0, c1] = some y0 := by simpa [Value.cells, Try.cellsLNet] using h0
  have g1 : DataW.trod enc Try.prog W 0 (fun _ => true) held n 25 [c2] = some y1 := by simpa [Value.cells, Try.cellsLSigs] using h1
  have g2 : DataW.trod enc Try.prog W 0 (fun _ => true) held n 26 [c3] = some y2 := by simpa [Value.cells, Try.cellsLLabs] using h2
  have g3 : DataW.trod enc Try.prog W 0 (fun _ => true) held n 9 [c4] = some y3 := by simpa [Value.cells, Try.cellsStr] using h3
  obtain ⟨z0, z1, n2, _, _, k0, k1⟩ := trod_struct2 Try.underlying24 g0
  have q0 : DataW.trod enc Try.prog W 0 (fun _ => true) held n2 3 [c0] = some z0 := by simpa [Try.cellsInt] using k0
  have q1 : DataW.trod enc Try.prog W 0 (fun _ => true) held n2 22 [c1] = some z1 := by simpa [Try.cellsLTrs] using k1
  obtain ⟨a, e0, _, wa⟩ := DataW.trod_int Try.underlying3 q0
  simp only [List.cons.injEq, and_true] at e0
  subst e0
  obtain ⟨ts, ht, hok⟩ := trs_open q1
  obtain ⟨ss, hs, hsok⟩ := sigs_open g1
  obtain ⟨ls, hl, hlok⟩ := labs_open g2
  obtain ⟨st, e3, _, k3⟩ := DataW.trod_string Try.underlying9 g3
  simp only [List.cons.injEq, and_true] at e3
  subst e3
  unfold maxLen at k3
  have hb : -9223372036854775808 ≤ a ∧ a ≤ 9223372036854775807 := wf_bounds wa
  exact ⟨⟨⟨a, ts⟩, ss, ls, st⟩, ⟨_, _, _, rfl, ⟨hb.1, hb.2, _, rfl, ht⟩, hs, hl⟩, hok, hsok, hlok, by simp only; omega⟩

end
end Go.Proofs.Ytigkgfdnnfmmmaa
