/- THE READING OF AN ARGUMENT: a slice of strings, a slice of moves, a reachability graph, as data. -/
import Derived.Test.YtfipnlehaklepaaVRgb
import Derived.Test.YtfipnlehaklepaaVOpen
import Derived.Deep.Strs
import Derived.Deep.Slices
import Derived.SliceStrings
namespace Go.Proofs.Ytfipnlehaklepaa
open Go.ChangeShapes Go.WideShapes Go.ChangeAt Go.RowKit Go.Joins Go.Deep

theorem Try.cellsStrR : Try.prog.cellsOf 9 = 1 := by kernel_rfl
theorem Try.cellsLMv : Try.prog.cellsOf 162 = 3 := by kernel_rfl
theorem Try.cellsLMvs : Try.prog.cellsOf 52 = 1 := by kernel_rfl
theorem Try.cellsLStrs : Try.prog.cellsOf 23 = 1 := by kernel_rfl
theorem Try.cellsLRg : Try.prog.cellsOf 54 = 2 := by kernel_rfl

theorem arr2 {α : Type} {cs : Array α} (h : cs.size = 2) : ∃ c0 c1, cs = #[c0, c1] := by
  obtain ⟨l⟩ := cs
  match l, h with
  | [c0, c1], _ => exact ⟨c0, c1, rfl⟩

section
variable {H : Type} {enc : TypeId × Value → H} {W : World}

theorem texts_open {fuel : Nat} {v : Value} {x : DataW H × List MemPlace} {held : Bool} (h : DataW.trod enc Try.prog W 0 (fun _ => true) held fuel 23 [v] = some x) : ∃ ss, TextsAt 0 W v ss ∧ OkTexts ss := by
  rcases open_strings Try.underlying23 Try.underlying9 Try.cellsStrR h with ⟨hcs, _⟩ | ⟨a, len, cap, zs, hcs, _, hl, hm, hz, _, hcell, hsz⟩
  · simp only [List.cons.injEq, and_true] at hcs
    subst hcs
    exact ⟨[], ⟨none, 0, rfl, Nat.le_refl _, Or.inl rfl⟩, Nat.zero_le _, fun i hi => absurd hi (Nat.not_lt_zero _)⟩
  · simp only [List.cons.injEq, and_true] at hcs
    subst hcs
    simp only [if_true] at hz
    have hlen : (zs.take len).length = len := by simp; omega
    unfold maxLen at hm hsz
    have hget : ∀ i, i < len → stN (zs.take len) i = zs.getD i ByteArray.empty := fun i hi => by simp [stN, List.getD, hi]
    refine ⟨zs.take len, ⟨some a, cap, by rw [hlen], by omega, ?_⟩, by omega, fun i hi => ?_⟩
    · by_cases h0 : len = 0
      · left; subst h0; simp
      · right
        obtain ⟨b, off, spot⟩ := a
        have hspot : spot = none := by simpa [Addr.add] using World.cell?_spot (hcell 0 (by omega))
        subst hspot
        refine ⟨b, off, rfl, Nat.zero_le _, fun i hi => ?_⟩
        rw [hlen] at hi
        have := hcell i (by omega)
        rw [add_plain] at this
        rw [this, hget i hi]
    · rw [hlen] at hi
      rw [hget i hi]
      have hi2 : i < zs.length := by omega
      have := hsz zs[i] (List.getElem_mem hi2)
      simp [List.getD, hi2]
      omega

set_option maxRecDepth 100000 in
theorem moves_open {fuel : Nat} {v : Value} {x : DataW H × List MemPlace} {held : Bool} (h : DataW.trod enc Try.prog W 0 (fun _ => true) held fuel 52 [v] = some x) : ∃ ss : List Mv, MovesAt 0 W v ss ∧ ss.length ≤ 9223372036854775807 ∧ ∀ i, i < ss.length → (-9223372036854775808 ≤ mvF ss i ∧ mvF ss i ≤ 9223372036854775807) ∧ (-9223372036854775808 ≤ mvB ss i ∧ mvB ss i ≤ 9223372036854775807) ∧ (-9223372036854775808 ≤ mvT ss i ∧ mvT ss i ≤ 9223372036854775807) := by
  rcases open_slice Try.underlying52 h with ⟨hcs, _⟩ | ⟨a, len, cap, m, n, D, Pl, hcs, _, hl, hm, hmm, _, hx⟩
  · simp only [List.cons.injEq, and_true] at hcs
    subst hcs
    exact ⟨[], ⟨none, 0, rfl, Nat.le_refl _, Or.inl rfl⟩, Nat.zero_le _, fun i hi => absurd hi (Nat.not_lt_zero _)⟩
  · simp only [List.cons.injEq, and_true] at hcs
    subst hcs
    simp only [if_true] at hmm
    subst hmm
    unfold maxLen at hm
    have each : ∀ i, i < len → ∃ t : Mv, (W.cell? (a.add (i * 3)) = some (.int .i64 t.1) ∧ W.cell? (a.add (i * 3 + 1)) = some (.int .i64 t.2.1) ∧ W.cell? (a.add (i * 3 + 2)) = some (.int .i64 t.2.2)) ∧ (-9223372036854775808 ≤ t.1 ∧ t.1 ≤ 9223372036854775807) ∧ (-9223372036854775808 ≤ t.2.1 ∧ t.2.1 ≤ 9223372036854775807) ∧ (-9223372036854775808 ≤ t.2.2 ∧ t.2.2 ≤ 9223372036854775807) := fun i hi => by
      obtain ⟨cs', h1, h2⟩ := hx i (by omega)
      rw [Try.cellsLMv] at h1
      obtain ⟨_, hlen, hcell⟩ := World.cells?_some h1
      obtain ⟨y0, y1, y2, k, _, _, g0, g1, g2⟩ := trod_struct3 Try.underlying162 h2
      match cs', hlen with
      | [v0, v1, v2], _ =>
        have g0 : DataW.trod enc Try.prog W 0 (fun _ => true) held k 3 [v0] = some y0 := by simpa [Try.cellsInt] using g0
        have g1 : DataW.trod enc Try.prog W 0 (fun _ => true) held k 3 [v1] = some y1 := by simpa [Try.cellsInt] using g1
        have g2 : DataW.trod enc Try.prog W 0 (fun _ => true) held k 3 [v2] = some y2 := by simpa [Try.cellsInt] using g2
        obtain ⟨z0, e0, _, w0⟩ := DataW.trod_int Try.underlying3 g0
        obtain ⟨z1, e1, _, w1⟩ := DataW.trod_int Try.underlying3 g1
        obtain ⟨z2, e2, _, w2⟩ := DataW.trod_int Try.underlying3 g2
        simp only [List.cons.injEq, and_true] at e0 e1 e2
        subst e0; subst e1; subst e2
        have q0 := hcell 0 (by omega)
        have q1 := hcell 1 (by omega)
        have q2 := hcell 2 (by omega)
        rw [add_add] at q0 q1 q2
        exact ⟨(z0, z1, z2), ⟨by simpa using q0, by simpa using q1, by simpa using q2⟩, wf_bounds w0, wf_bounds w1, wf_bounds w2⟩
    obtain ⟨f, hf⟩ := choose_lt each
    have hlen : ((List.range len).map f).length = len := by simp
    have hget : ∀ i, i < len → ((List.range len).map f).getD i (0, 0, 0) = f i := fun i hi => by simp [List.getD, hi]
    refine ⟨(List.range len).map f, ⟨some a, m, by rw [hlen], by omega, ?_⟩, by omega, fun i hi => ?_⟩
    · by_cases h0 : len = 0
      · left; subst h0; simp
      · right
        obtain ⟨b, off, spot⟩ := a
        have hspot : spot = none := by simpa [Addr.add] using World.cell?_spot (hf 0 (by omega)).1.1
        subst hspot
        refine ⟨b, off, rfl, Nat.zero_le _, fun i hi => ?_⟩
        rw [hlen] at hi
        obtain ⟨⟨c0, c1, c2⟩, _⟩ := hf i hi
        rw [add_plain] at c0 c1 c2
        unfold mvF mvB mvT
        dsimp only
        rw [hget i hi]
        exact ⟨c0, by simpa [Nat.add_assoc] using c1, by simpa [Nat.add_assoc] using c2⟩
    · rw [hlen] at hi
      unfold mvF mvB mvT
      rw [hget i hi]
      exact (hf i hi).2

set_option maxRecDepth 100000 in
theorem rg_open {v : Value} {d : DataW H} {p : List MemPlace} {base : Nat} {held : Bool} (hv : Value.okWide Try.prog W .any base 54 v) (h : DataW.Trod enc Try.prog W 0 (fun _ => true) held 54 v d p) : ∃ s, RgAt 0 W v s ∧ OkRg s := by
  obtain ⟨cs, rfl, hsz⟩ := okWide_struct Try.underlying54 hv
  obtain ⟨c0, c1, rfl⟩ := arr2 (hsz.trans Try.cellsLRg)
  obtain ⟨fuel, hf⟩ := h
  obtain ⟨y0, y1, n, _, _, h0, h1⟩ := trod_struct2 Try.underlying54 hf
  have g0 : DataW.trod enc Try.prog W 0 (fun _ => true) held n 23 [c0] = some y0 := by simpa [Value.cells, Try.cellsLStrs] using h0
  have g1 : DataW.trod enc Try.prog W 0 (fun _ => true) held n 52 [c1] = some y1 := by simpa [Value.cells, Try.cellsLMvs] using h1
  obtain ⟨ss, hs, hok⟩ := texts_open g0
  obtain ⟨ms, hm, hmok⟩ := moves_open g1
  exact ⟨⟨ss, ms⟩, ⟨_, _, rfl, hs, hm⟩, hok, hmok⟩

end
end Go.Proofs.Ytfipnlehaklepaa
