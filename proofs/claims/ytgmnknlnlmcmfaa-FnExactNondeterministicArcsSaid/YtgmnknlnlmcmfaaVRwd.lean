/- ROWS OF INTS IN A ROW: what they read as, rows that the call owns, one more. -/
import Derived.Test.YtgmnknlnlmcmfaaVUne
import Derived.Test.YtgmnknlnlmcmfaaVNxt
import Derived.Test.YtgmnknlnlmcmfaaVSep
import Derived.Test.YtgmnknlnlmcmfaaVOvk
namespace Go.Proofs.Ytgmnknlnlmcmfaa
open Go.RowKit

def rwN (L : List (List Int)) (i : Nat) : List Int := L.getD i []
theorem rwN_get {L : List (List Int)} {i : Nat} (h : i < L.length) : rwN L i = L[i] := by simp [rwN, List.getD, h]
def SmallRows (L : List (List Int)) : Prop := L.length ≤ 16777216 ∧ ∀ i, (rwN L i).length ≤ 1048576
theorem bound_nil (hi : Nat) : Bound hi (.slice none 0 0) := fun b off len cap h => by injection h with h1; cases h1

/-- what a slice of slices reads as; its blocks lie from lo on, before hi -/
def RowsIn (lo hi : Nat) (w : World) (v : Value) (L : List (List Int)) : Prop :=
  ∃ (ao : Option Addr) (cap : Nat), v = .slice ao L.length cap ∧ L.length ≤ cap ∧
    (L.length = 0 ∨ ∃ b off, ao = some ⟨b, off, none⟩ ∧ lo ≤ b ∧ b < hi ∧ ∀ i, i < L.length → ∃ a c, w.cell? ⟨b, off + i, none⟩ = some (.slice a (rwN L i).length c) ∧ IntsIn lo hi w (.slice a (rwN L i).length c) (rwN L i))
theorem RowsIn.keep {lo hi : Nat} {w w' : World} {v : Value} {L : List (List Int)} (h : RowsIn lo hi w v L) (hc : Carries lo w w') : RowsIn lo hi w' v L := by
  obtain ⟨ao, cap, hv, hcap, hz⟩ := h
  refine ⟨ao, cap, hv, hcap, ?_⟩
  rcases hz with hz | ⟨b, off, ha, hlo, hhi, hcell⟩
  · exact Or.inl hz
  · refine Or.inr ⟨b, off, ha, hlo, hhi, fun i hi => ?_⟩
    obtain ⟨a, c, hx, hy⟩ := hcell i hi
    exact ⟨a, c, hc _ _ hlo hx, hy.keep hc⟩
theorem IntsIn.stir {lo hi l k : Nat} {w w' : World} {v : Value} {zs : List Int} (h : IntsIn lo hi w v zs) (hm : Stir l k w w') (hl : hi ≤ l) : IntsIn lo hi w' v zs := ⟨h.1.stir h.2 hm hl, h.2⟩
theorem RowsIn.stir {lo hi l k : Nat} {w w' : World} {v : Value} {L : List (List Int)} (h : RowsIn lo hi w v L) (_ : True) (hm : Stir l k w w') (hl : hi ≤ l) : RowsIn lo hi w' v L := by
  obtain ⟨ao, cap, hv, hcap, hz⟩ := h
  refine ⟨ao, cap, hv, hcap, ?_⟩
  rcases hz with hz | ⟨b, off, ha, hlo, hhi, hcell⟩
  · exact Or.inl hz
  · refine Or.inr ⟨b, off, ha, hlo, hhi, fun i hi => ?_⟩
    obtain ⟨a, c, hx, hy⟩ := hcell i hi
    exact ⟨a, c, hm.cell (Or.inl (by simp; omega)) hx, hy.stir hm hl⟩
theorem RowsIn.form {lo hi : Nat} {w : World} {v : Value} {L : List (List Int)} (h : RowsIn lo hi w v L) : ∃ a c, v = .slice a L.length c := by
  obtain ⟨a, c, hv, _⟩ := h; exact ⟨a, c, hv⟩

/-- the block of a slice, if it has elements, is not of a row of slices -/
def Typed (w : World) (v : Value) : Prop := ∀ b off n c, v = .slice (some ⟨b, off, none⟩) n c → 0 < n → ∃ t, 28 ≠ t ∧ TyAt w b t
theorem Typed.keep {w w' : World} {v : Value} (h : Typed w v) (hb : Below w.heap.size w w') : Typed w' v := fun b off n c e hn => by
  obtain ⟨t, h1, h2⟩ := h b off n c e hn; exact ⟨t, h1, h2.keep hb⟩
/-- two slices with elements lie in two blocks -/
def Apart (u v : Value) : Prop := ∀ b off n c off' n' c', u = .slice (some ⟨b, off, none⟩) n c → 0 < n → v = .slice (some ⟨b, off', none⟩) n' c' → n' = 0
/-- the rows of a row, each the call's own, each in a block of its own -/
def RowsC (B : Nat) (w : World) (zs : List (Value × List Int)) : Prop :=
  (∀ p, p ∈ zs → IntsOw B w p.1 p.2 ∧ Bound w.heap.size p.1 ∧ Typed w p.1) ∧ zs.Pairwise (fun p q => Apart p.1 q.1)
theorem RowsC.nil (B : Nat) (w : World) : RowsC B w [] := ⟨fun p h => (by cases h), List.Pairwise.nil⟩
theorem Bound.wide {hi hi' : Nat} {v : Value} (h : Bound hi v) (hl : hi ≤ hi') : Bound hi' v := fun b off len cap e hn => Nat.lt_of_lt_of_le (h b off len cap e hn) hl
theorem RowsC.after {B : Nat} {w w' : World} {zs : List (Value × List Int)} (h : RowsC B w zs) (hb : Below w.heap.size w w') : RowsC B w' zs :=
  ⟨fun p hp => ⟨(h.1 p hp).1.after hb, (h.1 p hp).2.1.wide hb.size, (h.1 p hp).2.2.keep hb⟩, h.2⟩
theorem RowsC.sub {B : Nat} {w : World} {zs ys : List (Value × List Int)} (h : RowsC B w zs) (hs : List.Sublist ys zs) : RowsC B w ys :=
  ⟨fun p hp => h.1 p (hs.subset hp), h.2.sublist hs⟩
theorem IntsOw.bound {lo : Nat} {w : World} {v : Value} {zs : List Int} (h : IntsOw lo w v zs) : Bound w.heap.size v := h.at.bound
/-- one more, new since w -/
theorem RowsC.push {B : Nat} {w w1 : World} {zs : List (Value × List Int)} {u : Value} {z : List Int} (h : RowsC B w zs) (hb : Below w.heap.size w w1) (hu : IntsOw w.heap.size w1 u z) (hT : Typed w1 u) (hB : B ≤ w.heap.size) : RowsC B w1 (zs ++ [(u, z)]) := by
  have h1 := h.after hb
  refine ⟨fun p hp => ?_, ?_⟩
  · rcases List.mem_append.1 hp with hp | hp
    · exact h1.1 p hp
    · rw [List.mem_singleton] at hp; subst hp
      exact ⟨hu.low hB, hu.bound, hT⟩
  · rw [List.pairwise_append]
    refine ⟨h1.2, List.pairwise_singleton _ _, fun p hp q hq => ?_⟩
    rw [List.mem_singleton] at hq; subst hq
    intro b off n c off' n' c' e hn e'
    have h2 := (h.1 p hp).2.1 b off n c e hn
    obtain ⟨ao, cap, hv, _, hz⟩ := hu
    rw [hv] at e'
    injection e' with e1 e2 e3
    rcases hz with hz | ⟨b', off'', ha, hlo, _⟩
    · rw [hz] at e2; exact e2.symm
    · rw [ha] at e1
      injection e1 with e1
      injection e1 with e1
      omega
theorem RowsC.grown {B B' : Nat} {w w' : World} {zs : List (Value × List Int)} {v : Value} {n : Nat} {xs : List Value} (h : RowsC B w zs) (hown : w.ownsRow B' 28 1 v n xs) (hg : w.grownBy w' v.ownBlock) : RowsC B w' zs := by
  have key : ∀ b t, 28 ≠ t → TyAt w b t → w'.heap[b]? = w.heap[b]? := fun b t hne hT => hg.block b hT.lt (fun e => owns_ne hown hT hne e)
  refine ⟨fun p hp => ?_, h.2⟩
  obtain ⟨h1, h2, h3⟩ := h.1 p hp
  obtain ⟨ao, cap, hv, hc, hz⟩ := h1
  refine ⟨⟨ao, cap, hv, hc, ?_⟩, h2.wide hg.size, fun b off n c e hn => ?_⟩
  · rcases hz with hz | ⟨b, off, ha, hlo, hcell⟩
    · exact Or.inl hz
    · by_cases h0 : p.2.length = 0
      · left; exact List.length_eq_zero_iff.1 h0
      refine Or.inr ⟨b, off, ha, hlo, fun i hi => ?_⟩
      obtain ⟨t, hne, hT⟩ := h3 b off _ _ (by rw [hv, ha]) (by omega)
      have hk := key b t hne hT
      exact ⟨(World.cell?_of_block (w := w) (w' := w') (a := ⟨b, off + i, none⟩) hk).trans (hcell i hi).1, (World.frozen?_of_block (w := w) (w' := w') (a := ⟨b, off + i, none⟩) hk).trans (hcell i hi).2⟩
  · obtain ⟨t, hne, hT⟩ := h3 b off n c e hn
    have hk := key b t hne hT
    obtain ⟨cur, f, hh⟩ := hT
    exact ⟨t, hne, cur, f, hk.trans hh⟩
theorem RowsC.low {B B' : Nat} {w : World} {zs : List (Value × List Int)} (h : RowsC B w zs) (hB : B' ≤ B) : RowsC B' w zs := ⟨fun p hp => ⟨(h.1 p hp).1.low hB, (h.1 p hp).2⟩, h.2⟩

/-- a slice of slices that the call owns whole -/
def RowsOw (B : Nat) (w : World) (v : Value) (L : List (List Int)) : Prop :=
  ∃ zs : List (Value × List Int), w.ownsRow B 28 1 v L.length (zs.map Prod.fst) ∧ RowsC B w zs ∧ zs.map Prod.snd = L
theorem RowsOw.nil (B : Nat) (w : World) : RowsOw B w (.slice none 0 0) [] := ⟨[], World.ownsRow_nil _ _ _ _, RowsC.nil _ _, rfl⟩
theorem RowsOw.after {B : Nat} {w w' : World} {v : Value} {L : List (List Int)} (h : RowsOw B w v L) (hb : Below w.heap.size w w') : RowsOw B w' v L := by
  obtain ⟨zs, h1, h2, h3⟩ := h
  exact ⟨zs, owns_after h1 hb, h2.after hb, h3⟩
theorem RowsOw.low {B B' : Nat} {w : World} {v : Value} {L : List (List Int)} (h : RowsOw B w v L) (hB : B' ≤ B) : RowsOw B' w v L := by
  obtain ⟨zs, h1, h2, h3⟩ := h
  exact ⟨zs, Go.Joins.ownsRow_le h1 hB, h2.low hB, h3⟩
theorem RowsOw.at {B : Nat} {w : World} {v : Value} {L : List (List Int)} (h : RowsOw B w v L) : RowsIn B w.heap.size w v L := by
  obtain ⟨zs, h1, h2, rfl⟩ := h
  have hl : (zs.map Prod.snd).length = zs.length := List.length_map _
  rcases h1.2 with ⟨rfl, h0⟩ | ⟨g, cap, cur, rfl, hB, hg, hk, hm, hs, ht⟩
  · exact ⟨none, 0, by rw [h0], by rw [h0]; exact Nat.le_refl _, Or.inl h0⟩
  · refine ⟨_, cap, rfl, hk, Or.inr ⟨g, 0, rfl, hB, (Array.getElem?_eq_some_iff.1 hg).1, fun i hi => ?_⟩⟩
    have hi' : i < zs.length := by omega
    have hp := h2.1 zs[i] (List.getElem_mem hi')
    have e2 : rwN (zs.map Prod.snd) i = zs[i].2 := by rw [rwN_get hi]; simp
    obtain ⟨ao, c, hv, _⟩ := hp.1
    refine ⟨ao, c, ?_, ?_⟩
    · rw [e2, ← hv]
      have hc : cur[i]? = some zs[i].1 := by
        have h3 : (cur.toList.take ((zs.map Prod.snd).length * 1))[i]? = some zs[i].1 := by rw [ht]; simp [hi']
        rw [List.getElem?_take_of_lt (by omega)] at h3
        rw [← Array.getElem?_toList]; exact h3
      rw [Nat.zero_add]
      simp [World.cell?, hg, hc]
    · rw [e2, ← hv]; exact ⟨hp.1.at, hp.2.1⟩
theorem RowsOw.cap {B : Nat} {w : World} {v : Value} {L : List (List Int)} (h : RowsOw B w v L) : ∃ a c, v = .slice a L.length c ∧ L.length ≤ c := by
  obtain ⟨ao, cap, hv, hc, _⟩ := h.at
  exact ⟨ao, cap, hv, hc⟩
/-- a call returns rows of its own and a bool -/
def RetOr (w : World) (L : List (List Int)) (b : Bool) (e : Ending) (w' : World) : Prop := ∃ v, e = .returned (.tuple #[v, .bool b]) ∧ RowsOw w.heap.size w' v L ∧ Below w.heap.size w w'

end Go.Proofs.Ytgmnknlnlmcmfaa
