/-
  AIDS to the laws FnFired and FnReversed.
-/
import Derived.Test.YtkkfglolameogaaDseq
import Derived.Test.YtkkfglolameogaaFpur
import Derived.Test.YtkkfglolameogaaHas
namespace Go.Proofs.Ytkkfglolameogaa
open Go.RowKit

theorem NetAt.shape {lo : Nat} {w : World} {P : Int} {u : Value} {ts : List Tr} (h : NetAt lo w (.agg #[.int .i64 P, u]) ⟨P, ts⟩) : ∃ ao cap, u = .slice ao ts.length cap ∧ TrsAt lo w u ts := by
  obtain ⟨_, _, u', hu', ht⟩ := h
  have hu : u = u' := by simpa using hu'
  subst hu
  obtain ⟨ao, cap, e, _⟩ := id ht
  exact ⟨ao, cap, e, ht⟩
theorem SetRow.ints {B k : Nat} {w : World} {v : Value} (h : SetRow B k w v) : ∃ zs : List Int, zs.length ≤ k ∧ IntsAt B w v zs := by
  obtain ⟨zs, hz, hr⟩ := h
  exact ⟨zs, hz, ints_of_owns hr⟩
theorem IntsAt.shape {lo : Nat} {w : World} {v : Value} {zs : List Int} (h : IntsAt lo w v zs) : ∃ ao cap, v = .slice ao zs.length cap := by
  obtain ⟨ao, cap, e, _⟩ := h
  exact ⟨ao, cap, e⟩
theorem byte_bit {s : ByteArray} {k : Nat} (h : k < s.size) : ((s[k].toNat : Int) == 49) = ((bytes s).getD k 0 == 49) := by
  rw [byte_at h]; exact (byte_49 _).symm
theorem NetAt.tr {lo : Nat} {w : World} {P : Int} {ao : Option Addr} {m cap : Nat} {n : NetD} {t : Nat} (h : NetAt lo w (.agg #[.int .i64 P, .slice ao m cap]) n) (ht : t < n.ts.length) :
    ∃ b off x0 x1, ao = some ⟨b, off, none⟩ ∧ w.cell? ⟨b, off + t * 2, none⟩ = some x0 ∧ w.cell? ⟨b, off + t * 2 + 1, none⟩ = some x1 ∧ TrAt lo w x0 x1 (n.ts.getD t ([], [])) := by
  obtain ⟨_, _, u', hu', ⟨ao', cap', hs', _, hz⟩⟩ := h
  have hu2 : P = n.places ∧ Value.slice ao m cap = u' := by simpa using hu'
  obtain ⟨_, rfl⟩ := hu2
  simp only [Value.slice.injEq] at hs'
  obtain ⟨rfl, _, _⟩ := hs'
  rcases hz with hz | ⟨b, off, rfl, _, hcell⟩
  · rw [hz] at ht; exact absurd ht (Nat.not_lt_zero _)
  · obtain ⟨x0, x1, e0, e1, hx⟩ := hcell t ht
    exact ⟨b, off, x0, x1, rfl, e0, e1, hx⟩
theorem CodeIn.over {w w' : World} {v : Value} {n : Nat} (h : CodeIn w.heap.size w v n) (hb : Below w.heap.size w w') : CodeIn w'.heap.size w' v n :=
  (h.keep (fun x hx _ => hb.block x hx)).up hb.size


end Go.Proofs.Ytkkfglolameogaa
