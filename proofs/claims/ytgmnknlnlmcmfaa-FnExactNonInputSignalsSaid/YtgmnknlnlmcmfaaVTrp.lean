/- PLAIN PART: three cells in a row are written. No program is named here. -/
import Derived.Test.YtgmnknlnlmcmfaaVNetd
namespace Go.Proofs.Ytgmnknlnlmcmfaa
open Go.RowKit

theorem trip_put {w : World} {b c : Nat} {u0 u1 u2 : Value} (v0 v1 v2 : Value) (c0 : w.cell? ⟨b, c, none⟩ = some u0) (c1 : w.cell? ⟨b, c + 1, none⟩ = some u1) (c2 : w.cell? ⟨b, c + 2, none⟩ = some u2) :
    (((w.setCell ⟨b, c, none⟩ v0).setCell ⟨b, c + 1, none⟩ v1).setCell ⟨b, c + 2, none⟩ v2).cell? ⟨b, c, none⟩ = some v0 ∧
    (((w.setCell ⟨b, c, none⟩ v0).setCell ⟨b, c + 1, none⟩ v1).setCell ⟨b, c + 2, none⟩ v2).cell? ⟨b, c + 1, none⟩ = some v1 ∧
    (((w.setCell ⟨b, c, none⟩ v0).setCell ⟨b, c + 1, none⟩ v1).setCell ⟨b, c + 2, none⟩ v2).cell? ⟨b, c + 2, none⟩ = some v2 ∧
    ∀ i v, i ≠ c → i ≠ c + 1 → i ≠ c + 2 → w.cell? ⟨b, i, none⟩ = some v → (((w.setCell ⟨b, c, none⟩ v0).setCell ⟨b, c + 1, none⟩ v1).setCell ⟨b, c + 2, none⟩ v2).cell? ⟨b, i, none⟩ = some v := by
  have far : ∀ {i i' : Nat}, i ≠ i' → (⟨b, i, none⟩ : Addr) ≠ ⟨b, i', none⟩ := fun h e => h (by injection e)
  have s1 : (w.setCell ⟨b, c, none⟩ v0).cell? ⟨b, c, none⟩ = some v0 := World.cell?_setCell_same _ _ _ c0
  have s2 : (w.setCell ⟨b, c, none⟩ v0).cell? ⟨b, c + 1, none⟩ = some u1 := by rw [World.cell?_setCell_other _ _ _ _ (far (by omega))]; exact c1
  have s3 : (w.setCell ⟨b, c, none⟩ v0).cell? ⟨b, c + 2, none⟩ = some u2 := by rw [World.cell?_setCell_other _ _ _ _ (far (by omega))]; exact c2
  have r1 : ((w.setCell ⟨b, c, none⟩ v0).setCell ⟨b, c + 1, none⟩ v1).cell? ⟨b, c, none⟩ = some v0 := by rw [World.cell?_setCell_other _ _ _ _ (far (by omega))]; exact s1
  have r2 : ((w.setCell ⟨b, c, none⟩ v0).setCell ⟨b, c + 1, none⟩ v1).cell? ⟨b, c + 1, none⟩ = some v1 := World.cell?_setCell_same _ _ _ s2
  have r3 : ((w.setCell ⟨b, c, none⟩ v0).setCell ⟨b, c + 1, none⟩ v1).cell? ⟨b, c + 2, none⟩ = some u2 := by rw [World.cell?_setCell_other _ _ _ _ (far (by omega))]; exact s3
  refine ⟨?_, ?_, World.cell?_setCell_same _ _ _ r3, fun i v h1 h2 h3 h => ?_⟩
  · rw [World.cell?_setCell_other _ _ _ _ (far (by omega))]; exact r1
  · rw [World.cell?_setCell_other _ _ _ _ (far (by omega))]; exact r2
  · rw [World.cell?_setCell_other _ _ _ _ (far (fun e => h3 e.symm)), World.cell?_setCell_other _ _ _ _ (far (fun e => h2 e.symm)), World.cell?_setCell_other _ _ _ _ (far (fun e => h1 e.symm))]; exact h

end Go.Proofs.Ytgmnknlnlmcmfaa
