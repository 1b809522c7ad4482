/-
  NETS UNDER MARKS: a net whose blocks lie before hi stands when marks are written from hi on; a net whose lists lie apart stands when marks are written before them.
-/
import Derived.Test.YtlakcjcmbhkcdaaRev
namespace Go.Proofs.Ytlakcjcmbhkcdaa
open Go.RowKit

/-- transitions, the blocks of whose ints lie before hi -/
def TrsIn (lo hi : Nat) (w : World) (v : Value) (ts : List Tr) : Prop :=
  ∃ (ao : Option Addr) (cap : Nat), v = .slice ao ts.length cap ∧ ts.length ≤ cap ∧
    (ts = [] ∨ ∃ b off, ao = some ⟨b, off, none⟩ ∧ lo ≤ b ∧ ∀ i, i < ts.length → ∃ v0 v1, w.cell? ⟨b, off + i * 2, none⟩ = some v0 ∧ w.cell? ⟨b, off + i * 2 + 1, none⟩ = some v1 ∧ IntsIn lo hi w v0 (ts.getD i ([], [])).1 ∧ IntsIn lo hi w v1 (ts.getD i ([], [])).2)
theorem TrsAt.in {lo : Nat} {w : World} {v : Value} {ts : List Tr} (h : TrsAt lo w v ts) : TrsIn lo w.heap.size w v ts := by
  obtain ⟨ao, cap, hv, hc, hz⟩ := h
  refine ⟨ao, cap, hv, hc, ?_⟩
  rcases hz with hz | ⟨b, off, ha, hlo, hcell⟩
  · exact Or.inl hz
  · refine Or.inr ⟨b, off, ha, hlo, fun i hi => ?_⟩
    obtain ⟨v0, v1, c0, c1, h0, h1⟩ := hcell i hi
    exact ⟨v0, v1, c0, c1, ⟨h0, h0.bound⟩, h1, h1.bound⟩
theorem TrsIn.at {lo hi : Nat} {w : World} {v : Value} {ts : List Tr} (h : TrsIn lo hi w v ts) : TrsAt lo w v ts := by
  obtain ⟨ao, cap, hv, hc, hz⟩ := h
  refine ⟨ao, cap, hv, hc, ?_⟩
  rcases hz with hz | ⟨b, off, ha, hlo, hcell⟩
  · exact Or.inl hz
  · refine Or.inr ⟨b, off, ha, hlo, fun i hi => ?_⟩
    obtain ⟨v0, v1, c0, c1, h0, h1⟩ := hcell i hi
    exact ⟨v0, v1, c0, c1, h0.1, h1.1⟩
theorem TrsIn.keep {lo hi : Nat} {w w' : World} {v : Value} {ts : List Tr} (h : TrsIn lo hi w v ts) (hb : Carries lo w w') : TrsIn lo hi w' v ts := by
  obtain ⟨ao, cap, hv, hc, hz⟩ := h
  refine ⟨ao, cap, hv, hc, ?_⟩
  rcases hz with hz | ⟨b, off, ha, hlo, hcell⟩
  · exact Or.inl hz
  · refine Or.inr ⟨b, off, ha, hlo, fun i hi => ?_⟩
    obtain ⟨v0, v1, c0, c1, h0, h1⟩ := hcell i hi
    exact ⟨v0, v1, hb _ _ hlo c0, hb _ _ hlo c1, h0.keep hb, h1.keep hb⟩
theorem TrsIn.marks {lo hi l k : Nat} {w w' : World} {v : Value} {ts : List Tr} (h : TrsIn lo hi w v ts) (hm : Marks l k w w') (hl : hi ≤ l) : TrsIn lo hi w' v ts := by
  obtain ⟨ao, cap, hv, hc, hz⟩ := h
  refine ⟨ao, cap, hv, hc, ?_⟩
  rcases hz with hz | ⟨b, off, ha, hlo, hcell⟩
  · exact Or.inl hz
  · refine Or.inr ⟨b, off, ha, hlo, fun i hi => ?_⟩
    obtain ⟨v0, v1, c0, c1, h0, h1⟩ := hcell i hi
    obtain ⟨a0, k0, rfl⟩ := h0.slice
    obtain ⟨a1, k1, rfl⟩ := h1.slice
    exact ⟨_, _, hm.slice _ _ _ _ c0, hm.slice _ _ _ _ c1, h0.marks hm hl, h1.marks hm hl⟩
theorem TrsSep.above {c : Nat → Nat} {l k : Nat} {w w' : World} {v : Value} {ts : List Tr} (h : TrsSep c w v ts) (hm : Marks l k w w') (hk : k ≤ c 0) : TrsSep c w' v ts := by
  obtain ⟨hc, ao, cap, hv, hcap, hz⟩ := h
  refine ⟨hc, ao, cap, hv, hcap, ?_⟩
  rcases hz with hz | ⟨b, off, ha, hcell⟩
  · exact Or.inl hz
  · refine Or.inr ⟨b, off, ha, fun i hi => ?_⟩
    obtain ⟨v0, v1, c0, c1, ⟨h0, b0⟩, h1, b1⟩ := hcell i hi
    obtain ⟨a0, k0, rfl, _, _⟩ := id h0
    obtain ⟨a1, k1, rfl, _, _⟩ := id h1
    have m0 : c 0 ≤ c (2 * i) := mono_le hc (by omega)
    have m1 : c 0 ≤ c (2 * i + 1) := mono_le hc (by omega)
    exact ⟨_, _, hm.slice _ _ _ _ c0, hm.slice _ _ _ _ c1, ⟨h0.above hm (by omega), b0⟩, h1.above hm (by omega), b1⟩
theorem TrsSep.form {c : Nat → Nat} {w : World} {v : Value} {ts : List Tr} (h : TrsSep c w v ts) : ∃ a k, v = .slice a ts.length k := by
  obtain ⟨_, a, k, rfl, _, _⟩ := h
  exact ⟨a, k, rfl⟩

end Go.Proofs.Ytlakcjcmbhkcdaa
