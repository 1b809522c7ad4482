/- THE READING OF AN ARGUMENT: signals, as data. -/
import Derived.Test.YtnmoocgocnjdjaaVOpen
import Derived.Test.YtnmoocgocnjdjaaVPair
namespace Go.Proofs.Ytnmoocgocnjdjaa
open Go.ChangeShapes Go.WideShapes Go.ChangeAt Go.RowKit Go.Joins Go.Deep

theorem Try.cellsStr : Try.prog.cellsOf 9 = 1 := by kernel_rfl
theorem Try.cellsBool : Try.prog.cellsOf 4 = 1 := by kernel_rfl
theorem Try.cellsLSig : Try.prog.cellsOf 135 = 2 := by kernel_rfl
theorem Try.cellsLSigs : Try.prog.cellsOf 52 = 1 := by kernel_rfl

section
variable {H : Type} {enc : TypeId × Value → H} {W : World}

theorem sigs_open {fuel : Nat} {v : Value} {x : DataW H × List MemPlace} {held : Bool} (h : DataW.trod enc Try.prog W 0 (fun _ => true) held fuel 52 [v] = some x) : ∃ ss, SigsAt 0 W v ss ∧ OkSigs ss := by
  rcases open_slice_pairs Try.underlying52 Try.underlying135 Try.cellsLSig rfl rfl Try.cellsStr Try.cellsInt h with ⟨hcs, _⟩ | ⟨a, len, cap, m, n, V0, V1, D0, D1, P0, P1, hcs, _, hl, hm, hmm, _, hx⟩
  · simp only [List.cons.injEq, and_true] at hcs
    subst hcs
    exact ⟨[], ⟨none, 0, rfl, Nat.le_refl _, Or.inl rfl⟩, Nat.zero_le _, fun i hi => absurd hi (Nat.not_lt_zero _)⟩
  · simp only [List.cons.injEq, and_true] at hcs
    subst hcs
    simp only [if_true] at hmm
    subst hmm
    unfold maxLen at hm
    have each : ∀ i, i < len → ∃ t : Sig, V0 i = .string t.1 ∧ V1 i = .int .i64 t.2 ∧ t.1.size ≤ 9223372036854775807 := fun i hi => by
      obtain ⟨_, _, g0, g1⟩ := hx i (by omega)
      obtain ⟨s, e0, _, k0⟩ := DataW.trod_string Try.underlying9 g0
      obtain ⟨z, e1, _, _⟩ := DataW.trod_int Try.underlying3 g1
      simp only [List.cons.injEq, and_true] at e0 e1
      unfold maxLen at k0
      exact ⟨(s, z), e0, e1, by omega⟩
    obtain ⟨f, hf⟩ := choose_lt each
    have hlen : ((List.range len).map f).length = len := by simp
    have hget : ∀ i, i < len → ((List.range len).map f).getD i (ByteArray.empty, 0) = f i := fun i hi => by simp [List.getD, hi]
    refine ⟨(List.range len).map f, ⟨some a, m, by rw [hlen], by omega, ?_⟩, by omega, fun i hi => ?_⟩
    · by_cases h0 : len = 0
      · left; subst h0; simp
      · right
        obtain ⟨b, off, spot⟩ := a
        have hspot : spot = none := by simpa [Addr.add] using World.cell?_spot (hx 0 (by omega)).1
        subst hspot
        refine ⟨b, off, rfl, Nat.zero_le _, fun i hi => ?_⟩
        rw [hlen] at hi
        obtain ⟨c0, c1, _, _⟩ := hx i (by omega)
        rw [add_plain] at c0 c1
        unfold sgN sgK
        dsimp only
        rw [hget i hi, ← (hf i hi).1, ← (hf i hi).2.1]
        exact ⟨c0, by simpa [Nat.add_assoc] using c1⟩
    · rw [hlen] at hi
      unfold sgN
      rw [hget i hi]
      exact (hf i hi).2.2

end
end Go.Proofs.Ytnmoocgocnjdjaa
