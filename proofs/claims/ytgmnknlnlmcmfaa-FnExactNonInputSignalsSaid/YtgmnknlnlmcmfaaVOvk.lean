/- OWNED RESULTS of the laws, in one form for each kind of row: ints. -/
import Derived.Test.YtgmnknlnlmcmfaaVMtext
import Derived.Test.YtgmnknlnlmcmfaaVRetov
namespace Go.Proofs.Ytgmnknlnlmcmfaa
open Go.RowKit

theorem selfInts' (L : List Int) : decide (L = L) = true := decide_eq_true rfl
theorem IntsOw.cap {lo : Nat} {w : World} {v : Value} {zs : List Int} (h : IntsOw lo w v zs) : ∃ a c, v = .slice a zs.length c ∧ zs.length ≤ c := by
  obtain ⟨a, c, rfl, hc, _⟩ := h
  exact ⟨a, c, rfl, hc⟩
theorem IntsOw.after {lo : Nat} {w w' : World} {v : Value} {zs : List Int} (h : IntsOw lo w v zs) (hb : Below w.heap.size w w') : IntsOw lo w' v zs := h.keep (Same.of _ hb)
theorem IntsOw.stir {B l k : Nat} {w w' : World} {v : Value} {zs : List Int} (h : IntsOw B w v zs) (hs : Stir l k w w') (hk : k ≤ B) : IntsOw B w' v zs :=
  h.keep ⟨hs.size, fun b h1 h2 => hs.block b h2 (Or.inr (by omega))⟩
theorem IntsAt.stir {lo hi l k : Nat} {w w' : World} {v : Value} {zs : List Int} (h : IntsAt lo w v zs) (hB : Bound hi v) (hm : Stir l k w w') (hl : hi ≤ l) : IntsAt lo w' v zs := by
  obtain ⟨ao, cap, rfl, hc, hz⟩ := h
  refine ⟨ao, cap, rfl, hc, ?_⟩
  rcases hz with hz | ⟨b, off, rfl, hlo, hcell⟩
  · exact Or.inl hz
  · exact Or.inr ⟨b, off, rfl, hlo, fun i hi => hm.cell (Or.inl (by have := hB b off _ _ rfl (by omega); simp; omega)) (hcell i hi)⟩
theorem markInts_row (v : Value) (zs : List Int) (k : Int) (w : World) (B : Nat) (h : IntsOw B w v zs) (hn : zs.length ≤ 1048576) (h0 : 0 ≤ k) (h1 : k ≤ 109951162777600) :
    Calls Try.prog 19 #[v, .int .i64 k] w (fun e w' => e = .returned (.int .i64 (k + (zs.length : Int))) ∧ Stir B w.heap.size w w' ∧ IntsAt B w' v (upFrom k zs.length)) := by
  refine (markIntS_any v zs.length k w B w.heap.size h.box hn h0 (by omega)).mono fun e w' ⟨he, hm, hx⟩ => ⟨he, hm.stir, ?_⟩
  obtain ⟨ao, cap, rfl, hc, hz⟩ := h
  refine ⟨ao, cap, by rw [upFrom_length], by rw [upFrom_length]; exact hc, ?_⟩
  rw [upFrom_length]
  rcases hz with rfl | ⟨b, off, rfl, hlo, hcell⟩
  · left; rfl
  · refine Or.inr ⟨b, off, rfl, hlo, fun i hi => ?_⟩
    rw [upFrom_get hi]
    exact hx b off cap rfl i hi

end Go.Proofs.Ytgmnknlnlmcmfaa
