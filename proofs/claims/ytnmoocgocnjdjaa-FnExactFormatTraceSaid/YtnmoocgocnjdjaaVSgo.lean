/- THE READING OF AN ARGUMENT: a slice of arcs, a state graph, as data. -/
import Derived.Test.YtnmoocgocnjdjaaVSgd
import Derived.Test.YtnmoocgocnjdjaaVOpeng
import Derived.Test.YtnmoocgocnjdjaaVRgot
namespace Go.Proofs.Ytnmoocgocnjdjaa
open Go.ChangeShapes Go.WideShapes Go.ChangeAt Go.RowKit Go.Joins Go.Deep

theorem Try.cellsLAr : Try.prog.cellsOf 103 = 4 := by kernel_rfl
theorem Try.cellsLArs : Try.prog.cellsOf 54 = 1 := by kernel_rfl
theorem Try.cellsLSg : Try.prog.cellsOf 56 = 3 := by kernel_rfl

theorem arr3 {α : Type} {cs : Array α} (h : cs.size = 3) : ∃ c0 c1 c2, cs = #[c0, c1, c2] := by
  obtain ⟨l⟩ := cs
  match l, h with
  | [c0, c1, c2], _ => exact ⟨c0, c1, c2, rfl⟩

section
variable {H : Type} {enc : TypeId × Value → H} {W : World}

set_option maxRecDepth 100000 in
theorem arcs_open {fuel : Nat} {v : Value} {x : DataW H × List MemPlace} {held : Bool} (h : DataW.trod enc Try.prog W 0 (fun _ => true) held fuel 54 [v] = some x) : ∃ ss : List Ar, ArcsAt 0 W v ss ∧ OkArcs ss := by
  rcases open_slice Try.underlying54 h with ⟨hcs, _⟩ | ⟨a, len, cap, m, n, D, Pl, hcs, _, hl, hm, hmm, _, hx⟩
  · simp only [List.cons.injEq, and_true] at hcs
    subst hcs
    exact ⟨[], ⟨none, 0, rfl, Nat.le_refl _, Or.inl rfl⟩, Nat.zero_le _, fun i hi => absurd hi (Nat.not_lt_zero _)⟩
  · simp only [List.cons.injEq, and_true] at hcs
    subst hcs
    simp only [if_true] at hmm
    subst hmm
    unfold maxLen at hm
    have each : ∀ i, i < len → ∃ t : Ar, (W.cell? (a.add (i * 4)) = some (.int .i64 t.1) ∧ W.cell? (a.add (i * 4 + 1)) = some (.int .i64 t.2.1) ∧ W.cell? (a.add (i * 4 + 2)) = some (.bool t.2.2.1) ∧ W.cell? (a.add (i * 4 + 3)) = some (.int .i64 t.2.2.2)) ∧ (-9223372036854775808 ≤ t.1 ∧ t.1 ≤ 9223372036854775807) ∧ (-9223372036854775808 ≤ t.2.1 ∧ t.2.1 ≤ 9223372036854775807) ∧ (-9223372036854775808 ≤ t.2.2.2 ∧ t.2.2.2 ≤ 9223372036854775807) := fun i hi => by
      obtain ⟨cs', h1, h2⟩ := hx i (by omega)
      rw [Try.cellsLAr] at h1
      obtain ⟨_, hlen, hcell⟩ := World.cells?_some h1
      obtain ⟨y0, y1, y2, y3, k, _, _, g0, g1, g2, g3⟩ := trod_struct4 Try.underlying103 h2
      match cs', hlen with
      | [v0, v1, v2, v3], _ =>
        have g0 : DataW.trod enc Try.prog W 0 (fun _ => true) held k 3 [v0] = some y0 := by simpa [Try.cellsInt] using g0
        have g1 : DataW.trod enc Try.prog W 0 (fun _ => true) held k 3 [v1] = some y1 := by simpa [Try.cellsInt] using g1
        have g2 : DataW.trod enc Try.prog W 0 (fun _ => true) held k 4 [v2] = some y2 := by simpa [Try.cellsInt, Try.cellsBool] using g2
        have g3 : DataW.trod enc Try.prog W 0 (fun _ => true) held k 3 [v3] = some y3 := by simpa [Try.cellsInt, Try.cellsBool] using g3
        obtain ⟨z0, e0, _, w0⟩ := DataW.trod_int Try.underlying3 g0
        obtain ⟨z1, e1, _, w1⟩ := DataW.trod_int Try.underlying3 g1
        obtain ⟨z2, e2, _⟩ := DataW.trod_bool Try.underlying4 g2
        obtain ⟨z3, e3, _, w3⟩ := DataW.trod_int Try.underlying3 g3
        simp only [List.cons.injEq, and_true] at e0 e1 e2 e3
        subst e0; subst e1; subst e2; subst e3
        have q0 := hcell 0 (by omega)
        have q1 := hcell 1 (by omega)
        have q2 := hcell 2 (by omega)
        have q3 := hcell 3 (by omega)
        rw [add_add] at q0 q1 q2 q3
        exact ⟨(z0, z1, z2, z3), ⟨by simpa using q0, by simpa using q1, by simpa using q2, by simpa using q3⟩, wf_bounds w0, wf_bounds w1, wf_bounds w3⟩
    obtain ⟨f, hf⟩ := choose_lt each
    have hlen : ((List.range len).map f).length = len := by simp
    have hget : ∀ i, i < len → ((List.range len).map f).getD i (0, 0, false, 0) = f i := fun i hi => by simp [List.getD, hi]
    refine ⟨(List.range len).map f, ⟨some a, m, by rw [hlen], by omega, ?_⟩, by omega, fun i hi => ?_⟩
    · by_cases h0 : len = 0
      · left; subst h0; simp
      · right
        obtain ⟨b, off, spot⟩ := a
        have hspot : spot = none := by simpa [Addr.add] using World.cell?_spot (hf 0 (by omega)).1.1
        subst hspot
        refine ⟨b, off, rfl, Nat.zero_le _, fun i hi => ?_⟩
        rw [hlen] at hi
        obtain ⟨⟨c0, c1, c2, c3⟩, _⟩ := hf i hi
        rw [add_plain] at c0 c1 c2 c3
        unfold arF arS arU arT
        dsimp only
        rw [hget i hi]
        exact ⟨c0, by simpa [Nat.add_assoc] using c1, by simpa [Nat.add_assoc] using c2, by simpa [Nat.add_assoc] using c3⟩
    · rw [hlen] at hi
      unfold arF arS arT
      rw [hget i hi]
      exact (hf i hi).2

set_option maxRecDepth 100000 in
theorem sg_open {v : Value} {d : DataW H} {p : List MemPlace} {base : Nat} {held : Bool} (hv : Value.okWide Try.prog W .any base 56 v) (h : DataW.Trod enc Try.prog W 0 (fun _ => true) held 56 v d p) : ∃ s, SgAt 0 W v s ∧ OkSg s := by
  obtain ⟨cs, rfl, hsz⟩ := okWide_struct Try.underlying56 hv
  obtain ⟨c0, c1, c2, rfl⟩ := arr3 (hsz.trans Try.cellsLSg)
  obtain ⟨fuel, hf⟩ := h
  obtain ⟨y0, y1, y2, n, _, _, h0, h1, h2⟩ := trod_struct3 Try.underlying56 hf
  have g0 : DataW.trod enc Try.prog W 0 (fun _ => true) held n 52 [c0] = some y0 := by simpa [Value.cells, Try.cellsLSigs] using h0
  have g1 : DataW.trod enc Try.prog W 0 (fun _ => true) held n 53 [c1] = some y1 := by simpa [Value.cells, Try.cellsLSigs, Try.cellsLStrs] using h1
  have g2 : DataW.trod enc Try.prog W 0 (fun _ => true) held n 54 [c2] = some y2 := by simpa [Value.cells, Try.cellsLSigs, Try.cellsLStrs, Try.cellsLArs] using h2
  obtain ⟨gs, hg, hgok⟩ := sigs_open g0
  obtain ⟨ss, hs, hok⟩ := texts_open g1
  obtain ⟨ms, hm, hmok⟩ := arcs_open g2
  exact ⟨⟨gs, ss, ms⟩, ⟨_, _, _, rfl, hg, hs, hm⟩, hgok, hok, hmok⟩

end
end Go.Proofs.Ytnmoocgocnjdjaa
