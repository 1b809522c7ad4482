/-
  THE READING OF AN ARGUMENT: a slice of bytes.
-/
import Derived.Test.YtkkfglolameogaaCur
import Derived.Test.YtkkfglolameogaaOpen
namespace Go.Proofs.Ytkkfglolameogaa
open Go.ChangeShapes Go.WideShapes Go.ChangeAt Go.RowKit Go.Joins Go.Deep

theorem Try.cellsByte : Try.prog.cellsOf 5 = 1 := by kernel_rfl

section
variable {H : Type} {enc : TypeId × Value → H} {W : World}

theorem bytes_open {fuel : Nat} {v : Value} {x : DataW H × List MemPlace} {held : Bool} (h : DataW.trod enc Try.prog W 0 (fun _ => true) held fuel 54 [v] = some x) : ∃ n, CodeIn W.heap.size W v n ∧ n ≤ 9223372036854775807 := by
  rcases open_ints Try.underlying54 Try.underlying5 Try.cellsByte h with ⟨hcs, _⟩ | ⟨a, len, cap, zs, hcs, _, hl, hm, hz, _, hcell, hwz⟩
  · simp only [List.cons.injEq, and_true] at hcs
    subst hcs
    exact ⟨0, ⟨none, 0, rfl, Or.inl rfl⟩, Nat.zero_le _⟩
  · simp only [List.cons.injEq, and_true] at hcs
    subst hcs
    simp only [if_true] at hz
    unfold maxLen at hm
    refine ⟨len, ⟨some a, cap, rfl, ?_⟩, by omega⟩
    by_cases h0 : len = 0
    · exact Or.inl h0
    · right
      obtain ⟨b, off, spot⟩ := a
      have hspot : spot = none := by simpa [Addr.add] using World.cell?_spot (hcell 0 (by omega))
      subst hspot
      refine ⟨b, off, rfl, ?_, fun i hi => ?_⟩
      · have h2 := hcell 0 (by omega)
        rw [add_plain] at h2
        simpa using cell_old h2
      · have h2 := hcell i (by omega)
        rw [add_plain] at h2
        have h3 : (Lit.int .u8 (zs.getD i 0)).wf = true := hwz _ (by rw [getD_eq (by omega)]; exact List.getElem_mem _)
        have e1 : IntKind.u8.min = 0 := rfl
        have e2 : IntKind.u8.max = 255 := rfl
        simp only [Lit.wf, Bool.and_eq_true, decide_eq_true_eq] at h3
        exact ⟨zs.getD i 0, h2, by omega, by omega⟩

end
end Go.Proofs.Ytkkfglolameogaa
