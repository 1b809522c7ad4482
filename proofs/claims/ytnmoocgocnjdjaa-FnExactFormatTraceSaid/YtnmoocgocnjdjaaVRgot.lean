/- THE READING OF AN ARGUMENT: a slice of strings, as data. -/
import Derived.Test.YtnmoocgocnjdjaaVRgat
import Derived.Test.YtnmoocgocnjdjaaVOpen
import Derived.Deep.Strs
import Derived.Deep.Slices
import Derived.SliceStrings
namespace Go.Proofs.Ytnmoocgocnjdjaa
open Go.ChangeShapes Go.WideShapes Go.ChangeAt Go.RowKit Go.Joins Go.Deep

theorem Try.cellsStrR : Try.prog.cellsOf 9 = 1 := by kernel_rfl
theorem Try.cellsLStrs : Try.prog.cellsOf 53 = 1 := by kernel_rfl

section
variable {H : Type} {enc : TypeId × Value → H} {W : World}

theorem texts_open {fuel : Nat} {v : Value} {x : DataW H × List MemPlace} {held : Bool} (h : DataW.trod enc Try.prog W 0 (fun _ => true) held fuel 53 [v] = some x) : ∃ ss, TextsAt 0 W v ss ∧ OkTexts ss := by
  rcases open_strings Try.underlying53 Try.underlying9 Try.cellsStrR h with ⟨hcs, _⟩ | ⟨a, len, cap, zs, hcs, _, hl, hm, hz, _, hcell, hsz⟩
  · simp only [List.cons.injEq, and_true] at hcs
    subst hcs
    exact ⟨[], ⟨none, 0, rfl, Nat.le_refl _, Or.inl rfl⟩, Nat.zero_le _, fun i hi => absurd hi (Nat.not_lt_zero _)⟩
  · simp only [List.cons.injEq, and_true] at hcs
    subst hcs
    simp only [if_true] at hz
    have hlen : (zs.take len).length = len := by simp; omega
    unfold maxLen at hm hsz
    have hget : ∀ i, i < len → stN (zs.take len) i = zs.getD i ByteArray.empty := fun i hi => by simp [stN, List.getD, hi]
    refine ⟨zs.take len, ⟨some a, cap, by rw [hlen], by omega, ?_⟩, by omega, fun i hi => ?_⟩
    · by_cases h0 : len = 0
      · left; subst h0; simp
      · right
        obtain ⟨b, off, spot⟩ := a
        have hspot : spot = none := by simpa [Addr.add] using World.cell?_spot (hcell 0 (by omega))
        subst hspot
        refine ⟨b, off, rfl, Nat.zero_le _, fun i hi => ?_⟩
        rw [hlen] at hi
        have := hcell i (by omega)
        rw [add_plain] at this
        rw [this, hget i hi]
    · rw [hlen] at hi
      rw [hget i hi]
      have hi2 : i < zs.length := by omega
      have := hsz zs[i] (List.getElem_mem hi2)
      simp [List.getD, hi2]
      omega

end

end Go.Proofs.Ytnmoocgocnjdjaa
