/- THE READING OF AN ARGUMENT: a slice of ints, a slice of transitions, a net, as data.
   THE READING OF AN ARGUMENT: signals, as data.
   THE READING OF AN ARGUMENT: a slice of strings, as data.
   THE READING OF AN ARGUMENT: a slice of arcs, a state graph, as data. -/
import Derived.Test.YtnmoocgocnjdjaaGreatVNetb
import Derived.Test.YtnmoocgocnjdjaaGreatRows
import Derived.ProofKit
import Derived.Lib.SmallJoins
import Derived.Test.YtnmoocgocnjdjaaGreatVSigas
import Derived.Deep.Strs
import Derived.Deep.Slices
import Derived.SliceStrings
import Derived.Test.YtnmoocgocnjdjaaGreatVSgd
namespace Go.Proofs.YtnmoocgocnjdjaaGreat
open Go.ChangeShapes Go.WideShapes Go.ChangeAt Go.RowKit Go.Joins Go.Deep

theorem Tryz.own : ownKnob Tryz.prog.godebug = none := by kernel_rfl
theorem Tryz.laidOut : laidOutB Tryz.prog = true := by kernel_rfl
theorem Tryz.cellsInt : Tryz.prog.cellsOf 3 = 1 := by kernel_rfl
theorem Tryz.cellsInts : Tryz.prog.cellsOf 29 = 1 := by kernel_rfl
theorem Tryz.cellsLTr : Tryz.prog.cellsOf 152 = 2 := by kernel_rfl
theorem Tryz.cellsLTrs : Tryz.prog.cellsOf 22 = 1 := by kernel_rfl
theorem Tryz.cellsLNet : Tryz.prog.cellsOf 24 = 2 := by kernel_rfl

section
variable {H : Type} {enc : TypeId × Value → H} {W : World}

theorem ints_open {fuel : Nat} {v : Value} {x : DataW H × List MemPlace} {held : Bool} (h : DataW.trod enc Tryz.prog W 0 (fun _ => true) held fuel 29 [v] = some x) : ∃ zs, IntsAt 0 W v zs ∧ zs.length ≤ 9223372036854775807 := by
  rcases open_ints Tryz.underlying29 Tryz.underlying3 Tryz.cellsInt h with ⟨hcs, _⟩ | ⟨a, len, cap, zs, hcs, _, hl, hm, hz, _, hcell, _⟩
  · simp only [List.cons.injEq, and_true] at hcs
    subst hcs
    exact ⟨[], ⟨none, 0, rfl, Nat.le_refl _, Or.inl rfl⟩, Nat.zero_le _⟩
  · simp only [List.cons.injEq, and_true] at hcs
    subst hcs
    simp only [if_true] at hz
    have hlen : (zs.take len).length = len := by simp; omega
    unfold maxLen at hm
    refine ⟨zs.take len, ⟨some a, cap, by rw [hlen], by omega, ?_⟩, by omega⟩
    by_cases h0 : len = 0
    · left; subst h0; simp
    · right
      obtain ⟨b, off, spot⟩ := a
      have hspot : spot = none := by simpa [Addr.add] using World.cell?_spot (hcell 0 (by omega))
      subst hspot
      refine ⟨b, off, rfl, Nat.zero_le _, fun i hi => ?_⟩
      rw [hlen] at hi
      have := hcell i (by omega)
      rw [add_plain] at this
      rw [this]
      simp [List.getD, hi]

theorem trs_open {fuel : Nat} {v : Value} {x : DataW H × List MemPlace} {held : Bool} (h : DataW.trod enc Tryz.prog W 0 (fun _ => true) held fuel 22 [v] = some x) : ∃ ts, TrsAt 0 W v ts ∧ OkTrs ts := by
  rcases open_slice_pairs Tryz.underlying22 Tryz.underlying152 Tryz.cellsLTr rfl rfl Tryz.cellsInts Tryz.cellsInts h with ⟨hcs, _⟩ | ⟨a, len, cap, m, n, V0, V1, D0, D1, P0, P1, hcs, _, hl, hm, hmm, _, hx⟩
  · simp only [List.cons.injEq, and_true] at hcs
    subst hcs
    exact ⟨[], ⟨none, 0, rfl, Nat.le_refl _, Or.inl rfl⟩, Nat.zero_le _, fun i hi => absurd hi (Nat.not_lt_zero _)⟩
  · simp only [List.cons.injEq, and_true] at hcs
    subst hcs
    simp only [if_true] at hmm
    subst hmm
    unfold maxLen at hm
    have each : ∀ i, i < len → ∃ t : Tr, TrAt 0 W (V0 i) (V1 i) t ∧ t.1.length ≤ 9223372036854775807 ∧ t.2.length ≤ 9223372036854775807 := fun i hi => by
      obtain ⟨_, _, g0, g1⟩ := hx i (by omega)
      obtain ⟨z0, h0, k0⟩ := ints_open g0
      obtain ⟨z1, h1, k1⟩ := ints_open g1
      exact ⟨(z0, z1), ⟨h0, h1⟩, k0, k1⟩
    obtain ⟨f, hf⟩ := choose_lt each
    have hlen : ((List.range len).map f).length = len := by simp
    have hget : ∀ i, i < len → ((List.range len).map f).getD i ([], []) = f i := fun i hi => by simp [List.getD, hi]
    refine ⟨(List.range len).map f, ⟨some a, m, by rw [hlen], by omega, ?_⟩, by omega, fun i hi => ?_⟩
    · by_cases h0 : len = 0
      · left; subst h0; simp
      · right
        obtain ⟨b, off, spot⟩ := a
        have hspot : spot = none := by simpa [Addr.add] using World.cell?_spot (hx 0 (by omega)).1
        subst hspot
        refine ⟨b, off, rfl, Nat.zero_le _, fun i hi => ?_⟩
        rw [hlen] at hi
        obtain ⟨c0, c1, _, _⟩ := hx i (by omega)
        rw [add_plain] at c0 c1
        exact ⟨_, _, c0, by simpa [Nat.add_assoc] using c1, by rw [hget i hi]; exact (hf i hi).1⟩
    · rw [hlen] at hi
      rw [hget i hi]
      exact (hf i hi).2

theorem wf_bounds {a : Int} (h : (Lit.int .i64 a).wf = true) : -9223372036854775808 ≤ a ∧ a ≤ 9223372036854775807 := by
  have h1 : IntKind.i64.min = -9223372036854775808 := rfl
  have h2 : IntKind.i64.max = 9223372036854775807 := rfl
  simp only [Lit.wf, Bool.and_eq_true, decide_eq_true_eq] at h
  omega

set_option maxRecDepth 100000 in
theorem net_open {v : Value} {d : DataW H} {p : List MemPlace} {base : Nat} {held : Bool} (hv : Value.okWide Tryz.prog W .any base 24 v) (h : DataW.Trod enc Tryz.prog W 0 (fun _ => true) held 24 v d p) : ∃ n, NetAt 0 W v n ∧ OkTrs n.ts := by
  obtain ⟨c0, c1, y0, y1, m, rfl, _, _, hy0, hy1⟩ := open_agg2 Tryz.underlying24 (by kernel_rfl) Tryz.cellsLNet hv h
  obtain ⟨a, e0, _, wa⟩ := DataW.trod_int Tryz.underlying3 hy0
  simp only [List.cons.injEq, and_true] at e0
  subst e0
  obtain ⟨ts, ht, hok⟩ := trs_open hy1
  have hb : -9223372036854775808 ≤ a ∧ a ≤ 9223372036854775807 := wf_bounds wa
  exact ⟨⟨a, ts⟩, ⟨hb.1, hb.2, _, rfl, ht⟩, hok⟩

end
end Go.Proofs.YtnmoocgocnjdjaaGreat

namespace Go.Proofs.YtnmoocgocnjdjaaGreat
open Go.ChangeShapes Go.WideShapes Go.ChangeAt Go.RowKit Go.Joins Go.Deep

theorem Tryz.cellsStr : Tryz.prog.cellsOf 9 = 1 := by kernel_rfl
theorem Tryz.cellsBool : Tryz.prog.cellsOf 4 = 1 := by kernel_rfl
theorem Tryz.cellsLSig : Tryz.prog.cellsOf 176 = 2 := by kernel_rfl
theorem Tryz.cellsLSigs : Tryz.prog.cellsOf 68 = 1 := by kernel_rfl

section
variable {H : Type} {enc : TypeId × Value → H} {W : World}

theorem sigs_open {fuel : Nat} {v : Value} {x : DataW H × List MemPlace} {held : Bool} (h : DataW.trod enc Tryz.prog W 0 (fun _ => true) held fuel 68 [v] = some x) : ∃ ss, SigsAt 0 W v ss ∧ OkSigs ss := by
  rcases open_slice_pairs Tryz.underlying68 Tryz.underlying176 Tryz.cellsLSig rfl rfl Tryz.cellsStr Tryz.cellsInt h with ⟨hcs, _⟩ | ⟨a, len, cap, m, n, V0, V1, D0, D1, P0, P1, hcs, _, hl, hm, hmm, _, hx⟩
  · simp only [List.cons.injEq, and_true] at hcs
    subst hcs
    exact ⟨[], ⟨none, 0, rfl, Nat.le_refl _, Or.inl rfl⟩, Nat.zero_le _, fun i hi => absurd hi (Nat.not_lt_zero _)⟩
  · simp only [List.cons.injEq, and_true] at hcs
    subst hcs
    simp only [if_true] at hmm
    subst hmm
    unfold maxLen at hm
    have each : ∀ i, i < len → ∃ t : Sig, V0 i = .string t.1 ∧ V1 i = .int .i64 t.2 ∧ t.1.size ≤ 9223372036854775807 := fun i hi => by
      obtain ⟨_, _, g0, g1⟩ := hx i (by omega)
      obtain ⟨s, e0, _, k0⟩ := DataW.trod_string Tryz.underlying9 g0
      obtain ⟨z, e1, _, _⟩ := DataW.trod_int Tryz.underlying3 g1
      simp only [List.cons.injEq, and_true] at e0 e1
      unfold maxLen at k0
      exact ⟨(s, z), e0, e1, by omega⟩
    obtain ⟨f, hf⟩ := choose_lt each
    have hlen : ((List.range len).map f).length = len := by simp
    have hget : ∀ i, i < len → ((List.range len).map f).getD i (ByteArray.empty, 0) = f i := fun i hi => by simp [List.getD, hi]
    refine ⟨(List.range len).map f, ⟨some a, m, by rw [hlen], by omega, ?_⟩, by omega, fun i hi => ?_⟩
    · by_cases h0 : len = 0
      · left; subst h0; simp
      · right
        obtain ⟨b, off, spot⟩ := a
        have hspot : spot = none := by simpa [Addr.add] using World.cell?_spot (hx 0 (by omega)).1
        subst hspot
        refine ⟨b, off, rfl, Nat.zero_le _, fun i hi => ?_⟩
        rw [hlen] at hi
        obtain ⟨c0, c1, _, _⟩ := hx i (by omega)
        rw [add_plain] at c0 c1
        unfold sgN sgK
        dsimp only
        rw [hget i hi, ← (hf i hi).1, ← (hf i hi).2.1]
        exact ⟨c0, by simpa [Nat.add_assoc] using c1⟩
    · rw [hlen] at hi
      unfold sgN
      rw [hget i hi]
      exact (hf i hi).2.2

end
end Go.Proofs.YtnmoocgocnjdjaaGreat

namespace Go.Proofs.YtnmoocgocnjdjaaGreat
open Go.ChangeShapes Go.WideShapes Go.ChangeAt Go.RowKit Go.Joins Go.Deep

theorem Tryz.cellsStrR : Tryz.prog.cellsOf 9 = 1 := by kernel_rfl
theorem Tryz.cellsLStrs : Tryz.prog.cellsOf 69 = 1 := by kernel_rfl

section
variable {H : Type} {enc : TypeId × Value → H} {W : World}

theorem texts_open {fuel : Nat} {v : Value} {x : DataW H × List MemPlace} {held : Bool} (h : DataW.trod enc Tryz.prog W 0 (fun _ => true) held fuel 69 [v] = some x) : ∃ ss, TextsAt 0 W v ss ∧ OkTexts ss := by
  rcases open_strings Tryz.underlying69 Tryz.underlying9 Tryz.cellsStrR h with ⟨hcs, _⟩ | ⟨a, len, cap, zs, hcs, _, hl, hm, hz, _, hcell, hsz⟩
  · simp only [List.cons.injEq, and_true] at hcs
    subst hcs
    exact ⟨[], ⟨none, 0, rfl, Nat.le_refl _, Or.inl rfl⟩, Nat.zero_le _, fun i hi => absurd hi (Nat.not_lt_zero _)⟩
  · simp only [List.cons.injEq, and_true] at hcs
    subst hcs
    simp only [if_true] at hz
    have hlen : (zs.take len).length = len := by simp; omega
    unfold maxLen at hm hsz
    have hget : ∀ i, i < len → stN (zs.take len) i = zs.getD i ByteArray.empty := fun i hi => by simp [stN, List.getD, hi]
    refine ⟨zs.take len, ⟨some a, cap, by rw [hlen], by omega, ?_⟩, by omega, fun i hi => ?_⟩
    · by_cases h0 : len = 0
      · left; subst h0; simp
      · right
        obtain ⟨b, off, spot⟩ := a
        have hspot : spot = none := by simpa [Addr.add] using World.cell?_spot (hcell 0 (by omega))
        subst hspot
        refine ⟨b, off, rfl, Nat.zero_le _, fun i hi => ?_⟩
        rw [hlen] at hi
        have := hcell i (by omega)
        rw [add_plain] at this
        rw [this, hget i hi]
    · rw [hlen] at hi
      rw [hget i hi]
      have hi2 : i < zs.length := by omega
      have := hsz zs[i] (List.getElem_mem hi2)
      simp [List.getD, hi2]
      omega

end

end Go.Proofs.YtnmoocgocnjdjaaGreat

namespace Go.Proofs.YtnmoocgocnjdjaaGreat
open Go.ChangeShapes Go.WideShapes Go.ChangeAt Go.RowKit Go.Joins Go.Deep

theorem Tryz.cellsLAr : Tryz.prog.cellsOf 193 = 4 := by kernel_rfl
theorem Tryz.cellsLArs : Tryz.prog.cellsOf 70 = 1 := by kernel_rfl
theorem Tryz.cellsLSg : Tryz.prog.cellsOf 72 = 3 := by kernel_rfl

theorem arr3 {α : Type} {cs : Array α} (h : cs.size = 3) : ∃ c0 c1 c2, cs = #[c0, c1, c2] := by
  obtain ⟨l⟩ := cs
  match l, h with
  | [c0, c1, c2], _ => exact ⟨c0, c1, c2, rfl⟩

section
variable {H : Type} {enc : TypeId × Value → H} {W : World}

set_option maxRecDepth 100000 in
theorem arcs_open {fuel : Nat} {v : Value} {x : DataW H × List MemPlace} {held : Bool} (h : DataW.trod enc Tryz.prog W 0 (fun _ => true) held fuel 70 [v] = some x) : ∃ ss : List Ar, ArcsAt 0 W v ss ∧ OkArcs ss := by
  rcases open_slice Tryz.underlying70 h with ⟨hcs, _⟩ | ⟨a, len, cap, m, n, D, Pl, hcs, _, hl, hm, hmm, _, hx⟩
  · simp only [List.cons.injEq, and_true] at hcs
    subst hcs
    exact ⟨[], ⟨none, 0, rfl, Nat.le_refl _, Or.inl rfl⟩, Nat.zero_le _, fun i hi => absurd hi (Nat.not_lt_zero _)⟩
  · simp only [List.cons.injEq, and_true] at hcs
    subst hcs
    simp only [if_true] at hmm
    subst hmm
    unfold maxLen at hm
    have each : ∀ i, i < len → ∃ t : Ar, (W.cell? (a.add (i * 4)) = some (.int .i64 t.1) ∧ W.cell? (a.add (i * 4 + 1)) = some (.int .i64 t.2.1) ∧ W.cell? (a.add (i * 4 + 2)) = some (.bool t.2.2.1) ∧ W.cell? (a.add (i * 4 + 3)) = some (.int .i64 t.2.2.2)) ∧ (-9223372036854775808 ≤ t.1 ∧ t.1 ≤ 9223372036854775807) ∧ (-9223372036854775808 ≤ t.2.1 ∧ t.2.1 ≤ 9223372036854775807) ∧ (-9223372036854775808 ≤ t.2.2.2 ∧ t.2.2.2 ≤ 9223372036854775807) := fun i hi => by
      obtain ⟨cs', h1, h2⟩ := hx i (by omega)
      rw [Tryz.cellsLAr] at h1
      obtain ⟨_, hlen, hcell⟩ := World.cells?_some h1
      obtain ⟨y0, y1, y2, y3, k, _, _, g0, g1, g2, g3⟩ := trod_struct4 Tryz.underlying193 h2
      match cs', hlen with
      | [v0, v1, v2, v3], _ =>
        have g0 : DataW.trod enc Tryz.prog W 0 (fun _ => true) held k 3 [v0] = some y0 := by simpa [Tryz.cellsInt] using g0
        have g1 : DataW.trod enc Tryz.prog W 0 (fun _ => true) held k 3 [v1] = some y1 := by simpa [Tryz.cellsInt] using g1
        have g2 : DataW.trod enc Tryz.prog W 0 (fun _ => true) held k 4 [v2] = some y2 := by simpa [Tryz.cellsInt, Tryz.cellsBool] using g2
        have g3 : DataW.trod enc Tryz.prog W 0 (fun _ => true) held k 3 [v3] = some y3 := by simpa [Tryz.cellsInt, Tryz.cellsBool] using g3
        obtain ⟨z0, e0, _, w0⟩ := DataW.trod_int Tryz.underlying3 g0
        obtain ⟨z1, e1, _, w1⟩ := DataW.trod_int Tryz.underlying3 g1
        obtain ⟨z2, e2, _⟩ := DataW.trod_bool Tryz.underlying4 g2
        obtain ⟨z3, e3, _, w3⟩ := DataW.trod_int Tryz.underlying3 g3
        simp only [List.cons.injEq, and_true] at e0 e1 e2 e3
        subst e0; subst e1; subst e2; subst e3
        have q0 := hcell 0 (by omega)
        have q1 := hcell 1 (by omega)
        have q2 := hcell 2 (by omega)
        have q3 := hcell 3 (by omega)
        rw [add_add] at q0 q1 q2 q3
        exact ⟨(z0, z1, z2, z3), ⟨by simpa using q0, by simpa using q1, by simpa using q2, by simpa using q3⟩, wf_bounds w0, wf_bounds w1, wf_bounds w3⟩
    obtain ⟨f, hf⟩ := choose_lt each
    have hlen : ((List.range len).map f).length = len := by simp
    have hget : ∀ i, i < len → ((List.range len).map f).getD i (0, 0, false, 0) = f i := fun i hi => by simp [List.getD, hi]
    refine ⟨(List.range len).map f, ⟨some a, m, by rw [hlen], by omega, ?_⟩, by omega, fun i hi => ?_⟩
    · by_cases h0 : len = 0
      · left; subst h0; simp
      · right
        obtain ⟨b, off, spot⟩ := a
        have hspot : spot = none := by simpa [Addr.add] using World.cell?_spot (hf 0 (by omega)).1.1
        subst hspot
        refine ⟨b, off, rfl, Nat.zero_le _, fun i hi => ?_⟩
        rw [hlen] at hi
        obtain ⟨⟨c0, c1, c2, c3⟩, _⟩ := hf i hi
        rw [add_plain] at c0 c1 c2 c3
        unfold arF arS arU arT
        dsimp only
        rw [hget i hi]
        exact ⟨c0, by simpa [Nat.add_assoc] using c1, by simpa [Nat.add_assoc] using c2, by simpa [Nat.add_assoc] using c3⟩
    · rw [hlen] at hi
      unfold arF arS arT
      rw [hget i hi]
      exact (hf i hi).2

set_option maxRecDepth 100000 in
theorem sg_open {v : Value} {d : DataW H} {p : List MemPlace} {base : Nat} {held : Bool} (hv : Value.okWide Tryz.prog W .any base 72 v) (h : DataW.Trod enc Tryz.prog W 0 (fun _ => true) held 72 v d p) : ∃ s, SgAt 0 W v s ∧ OkSg s := by
  obtain ⟨cs, rfl, hsz⟩ := okWide_struct Tryz.underlying72 hv
  obtain ⟨c0, c1, c2, rfl⟩ := arr3 (hsz.trans Tryz.cellsLSg)
  obtain ⟨fuel, hf⟩ := h
  obtain ⟨y0, y1, y2, n, _, _, h0, h1, h2⟩ := trod_struct3 Tryz.underlying72 hf
  have g0 : DataW.trod enc Tryz.prog W 0 (fun _ => true) held n 68 [c0] = some y0 := by simpa [Value.cells, Tryz.cellsLSigs] using h0
  have g1 : DataW.trod enc Tryz.prog W 0 (fun _ => true) held n 69 [c1] = some y1 := by simpa [Value.cells, Tryz.cellsLSigs, Tryz.cellsLStrs] using h1
  have g2 : DataW.trod enc Tryz.prog W 0 (fun _ => true) held n 70 [c2] = some y2 := by simpa [Value.cells, Tryz.cellsLSigs, Tryz.cellsLStrs, Tryz.cellsLArs] using h2
  obtain ⟨gs, hg, hgok⟩ := sigs_open g0
  obtain ⟨ss, hs, hok⟩ := texts_open g1
  obtain ⟨ms, hm, hmok⟩ := arcs_open g2
  exact ⟨⟨gs, ss, ms⟩, ⟨_, _, _, rfl, hg, hs, hm⟩, hgok, hok, hmok⟩

end
end Go.Proofs.YtnmoocgocnjdjaaGreat
