/- PLAIN PART: what a slice of ints, a slice of transitions and a net read as in a world; that such a reading stands in every later world that keeps the old blocks. No program is named here. -/
import Derived.WalkKit
import Derived.WalkSpells
import Derived.WalkLawsBesides
import Derived.BigQuiet
import Derived.Handy
import Derived.Lib.Hide
import Derived.Deep.OwnRows
import Derived.Deep.SlicePairs
namespace Go.Proofs.Ytigkgfdnnfmmmaa
open Go.RowKit

theorem cell_old {w : World} {a : Addr} {v : Value} (h : w.cell? a = some v) : a.block < w.heap.size := by
  unfold World.cell? at h
  cases hb : w.heap[a.block]? with
  | none => simp [hb] at h
  | some o => exact (Array.getElem?_eq_some_iff.1 hb).1

theorem cell_keep {w w' : World} {B : Nat} {a : Addr} {v : Value} (h : w.cell? a = some v) (hb : Below B w w') (hB : w.heap.size ≤ B) : w'.cell? a = some v :=
  (hb.cell (p := a) (by have := cell_old h; omega)).trans h

/-- what is carried from w to w': every cell that there is from block lo on -/
def Carries (lo : Nat) (w w' : World) : Prop := ∀ a v, lo ≤ a.block → w.cell? a = some v → w'.cell? a = some v

theorem Carries.refl (lo : Nat) (w : World) : Carries lo w w := fun _ _ _ h => h
theorem Carries.trans {lo : Nat} {a b c : World} (h : Carries lo a b) (k : Carries lo b c) : Carries lo a c := fun x v hx hc => k x v hx (h x v hx hc)
theorem Carries.mono {lo lo' : Nat} {a b : World} (h : Carries lo a b) (hl : lo ≤ lo') : Carries lo' a b := fun x v hx hc => h x v (Nat.le_trans hl hx) hc
theorem carries_below {w w' : World} {B : Nat} (hb : Below B w w') (hB : w.heap.size ≤ B) (lo : Nat) : Carries lo w w' := fun _ _ _ hc => cell_keep hc hb hB
theorem Carries.of (lo : Nat) {w w' : World} (hb : Below w.heap.size w w') : Carries lo w w' := carries_below hb (Nat.le_refl _) lo
theorem Carries.set {lo : Nat} {a w : World} (h : Carries lo a w) {p : Addr} (hp : p.block < lo) (u : Value) : Carries lo a (w.setCell p u) := fun x v hx hc => by
  have h1 := h x v hx hc
  have e : (w.setCell p u).heap[x.block]? = w.heap[x.block]? := Below.heap_setCell _ _ _ _ (by omega)
  rw [World.cell?_of_block (w := w) (w' := w.setCell p u) e]
  exact h1
theorem Carries.alloc {lo : Nat} {a w : World} (h : Carries lo a w) (o : Obj) : Carries lo a (w.alloc o) :=
  h.trans (Carries.of lo ((Below.refl _ _).alloc (Nat.le_refl _) o))
theorem Carries.drew {lo : Nat} {a w : World} (h : Carries lo a w) : Carries lo a w.drew := h.trans (Carries.of lo (Below.refl _ _).drew)
theorem Carries.drewN {lo : Nat} {a w : World} (h : Carries lo a w) (n : Nat) : Carries lo a (w.drewN n) := h.trans (Carries.of lo (below_drewN (Below.refl _ _) n))

theorem cell_carry {w w' : World} {a : Addr} {v : Value} (h : w.cell? a = some v) (hc : Carries 0 w w') : w'.cell? a = some v := hc a v (Nat.zero_le _) h

/-- what a slice of ints reads as; its cells lie from block lo on -/
def IntsAt (lo : Nat) (w : World) (v : Value) (zs : List Int) : Prop :=
  ∃ (ao : Option Addr) (cap : Nat), v = .slice ao zs.length cap ∧ zs.length ≤ cap ∧
    (zs = [] ∨ ∃ b off, ao = some ⟨b, off, none⟩ ∧ lo ≤ b ∧ ∀ i, i < zs.length → w.cell? ⟨b, off + i, none⟩ = some (.int .i64 (zs.getD i 0)))

theorem IntsAt.keep {lo : Nat} {w w' : World} {v : Value} {zs : List Int} (h : IntsAt lo w v zs) (hb : Carries lo w w') : IntsAt lo w' v zs := by
  obtain ⟨ao, cap, hv, hc, hz⟩ := h
  refine ⟨ao, cap, hv, hc, ?_⟩
  rcases hz with hz | ⟨b, off, ha, hlo, hcell⟩
  · exact Or.inl hz
  · exact Or.inr ⟨b, off, ha, hlo, fun i hi => hb _ _ hlo (hcell i hi)⟩

theorem IntsAt.low {lo lo' : Nat} {w : World} {v : Value} {zs : List Int} (h : IntsAt lo w v zs) (hl : lo' ≤ lo) : IntsAt lo' w v zs := by
  obtain ⟨ao, cap, hv, hc, hz⟩ := h
  refine ⟨ao, cap, hv, hc, ?_⟩
  rcases hz with hz | ⟨b, off, ha, hlo, hcell⟩
  · exact Or.inl hz
  · exact Or.inr ⟨b, off, ha, Nat.le_trans hl hlo, hcell⟩

/-- a transition: its two lists -/
abbrev Tr := List Int × List Int

/-- what two cells (a transition's) read as -/
def TrAt (lo : Nat) (w : World) (v0 v1 : Value) (t : Tr) : Prop := IntsAt lo w v0 t.1 ∧ IntsAt lo w v1 t.2

theorem TrAt.keep {lo : Nat} {w w' : World} {v0 v1 : Value} {t : Tr} (h : TrAt lo w v0 v1 t) (hb : Carries lo w w') : TrAt lo w' v0 v1 t :=
  ⟨h.1.keep hb, h.2.keep hb⟩
theorem TrAt.low {lo lo' : Nat} {w : World} {v0 v1 : Value} {t : Tr} (h : TrAt lo w v0 v1 t) (hl : lo' ≤ lo) : TrAt lo' w v0 v1 t :=
  ⟨h.1.low hl, h.2.low hl⟩

/-- what a slice of transitions reads as -/
def TrsAt (lo : Nat) (w : World) (v : Value) (ts : List Tr) : Prop :=
  ∃ (ao : Option Addr) (cap : Nat), v = .slice ao ts.length cap ∧ ts.length ≤ cap ∧
    (ts = [] ∨ ∃ b off, ao = some ⟨b, off, none⟩ ∧ lo ≤ b ∧ ∀ i, i < ts.length → ∃ v0 v1, w.cell? ⟨b, off + i * 2, none⟩ = some v0 ∧ w.cell? ⟨b, off + i * 2 + 1, none⟩ = some v1 ∧ TrAt lo w v0 v1 (ts.getD i ([], [])))

theorem TrsAt.keep {lo : Nat} {w w' : World} {v : Value} {ts : List Tr} (h : TrsAt lo w v ts) (hb : Carries lo w w') : TrsAt lo w' v ts := by
  obtain ⟨ao, cap, hv, hc, hz⟩ := h
  refine ⟨ao, cap, hv, hc, ?_⟩
  rcases hz with hz | ⟨b, off, ha, hlo, hcell⟩
  · exact Or.inl hz
  · refine Or.inr ⟨b, off, ha, hlo, fun i hi => ?_⟩
    obtain ⟨v0, v1, c0, c1, ht⟩ := hcell i hi
    exact ⟨v0, v1, hb _ _ hlo c0, hb _ _ hlo c1, ht.keep hb⟩

theorem TrsAt.low {lo lo' : Nat} {w : World} {v : Value} {ts : List Tr} (h : TrsAt lo w v ts) (hl : lo' ≤ lo) : TrsAt lo' w v ts := by
  obtain ⟨ao, cap, hv, hc, hz⟩ := h
  refine ⟨ao, cap, hv, hc, ?_⟩
  rcases hz with hz | ⟨b, off, ha, hlo, hcell⟩
  · exact Or.inl hz
  · refine Or.inr ⟨b, off, ha, Nat.le_trans hl hlo, fun i hi => ?_⟩
    obtain ⟨v0, v1, c0, c1, ht⟩ := hcell i hi
    exact ⟨v0, v1, c0, c1, ht.low hl⟩

/-- a net as data -/
structure NetD where
  places : Int
  ts : List Tr

/-- what a net's value reads as -/
def NetAt (lo : Nat) (w : World) (v : Value) (n : NetD) : Prop :=
  -9223372036854775808 ≤ n.places ∧ n.places ≤ 9223372036854775807 ∧ ∃ u, v = .agg #[.int .i64 n.places, u] ∧ TrsAt lo w u n.ts

theorem NetAt.keep {lo : Nat} {w w' : World} {v : Value} {n : NetD} (h : NetAt lo w v n) (hb : Carries lo w w') : NetAt lo w' v n := by
  obtain ⟨h1, h2, u, hv, ht⟩ := h
  exact ⟨h1, h2, u, hv, ht.keep hb⟩
theorem NetAt.low {lo lo' : Nat} {w : World} {v : Value} {n : NetD} (h : NetAt lo w v n) (hl : lo' ≤ lo) : NetAt lo' w v n := by
  obtain ⟨h1, h2, u, hv, ht⟩ := h
  exact ⟨h1, h2, u, hv, ht.low hl⟩

/-- a call returns a transition, transitions, a net of its own that reads so, and changes nothing that was there -/
def RetTr (w : World) (t : Tr) (e : Ending) (w' : World) : Prop := ∃ v0 v1, e = .returned (.agg #[v0, v1]) ∧ TrAt w.heap.size w' v0 v1 t ∧ Below w.heap.size w w'
def RetTrs (w : World) (ts : List Tr) (e : Ending) (w' : World) : Prop := ∃ v, e = .returned v ∧ TrsAt w.heap.size w' v ts ∧ Below w.heap.size w w'
def RetNet (w : World) (n : NetD) (e : Ending) (w' : World) : Prop := ∃ v, e = .returned v ∧ NetAt w.heap.size w' v n ∧ Below w.heap.size w w'

/-- a call returns a slice of its own of these ints and changes nothing that was there -/
def RetInts (w : World) (zs : List Int) (e : Ending) (w' : World) : Prop := ∃ v, e = .returned v ∧ IntsAt w.heap.size w' v zs ∧ Below w.heap.size w w'
/-- a call returns this value and changes nothing that was there -/
def RetV (w : World) (v : Value) (e : Ending) (w' : World) : Prop := e = .returned v ∧ Below w.heap.size w w'
/-- a call returns this bool and changes nothing that was there -/
abbrev RetB (w : World) (b : Bool) : Ending → World → Prop := RetV w (.bool b)

end Go.Proofs.Ytigkgfdnnfmmmaa
