/- PLAIN PART: conditions (pairs of ints), events (an int and a slice of ints), an unfolding as data. No program is named here. -/
import Derived.Test.YtnmoocgocnjdjaaVPair
namespace Go.Proofs.Ytnmoocgocnjdjaa
open Go.RowKit

/-- a condition: its place, its event -/
abbrev Cnd := Int × Int
def cnP (cs : List Cnd) (i : Nat) : Int := (cs.getD i (0, 0)).1
def cnB (cs : List Cnd) (i : Nat) : Int := (cs.getD i (0, 0)).2
theorem cn_getD {zs : List Cnd} {i : Nat} (h : i < zs.length) : (cnP zs i, cnB zs i) = zs[i] := by simp [cnP, cnB, List.getD, h]
def cnX (cs : List Cnd) (i : Nat) : Value := .int .i64 (cnP cs i)
def cnY (cs : List Cnd) (i : Nat) : Value := .int .i64 (cnB cs i)
def CndsAt (lo : Nat) (w : World) (v : Value) (cs : List Cnd) : Prop := PairsAt lo w v cs.length (fun i => .int .i64 (cnP cs i)) (fun i => .int .i64 (cnB cs i))
theorem CndsAt.keep {lo : Nat} {w w' : World} {v : Value} {ss : List Cnd} (h : CndsAt lo w v ss) (hb : Carries lo w w') : CndsAt lo w' v ss := PairsAt.keep h hb
theorem CndsAt.low {lo lo' : Nat} {w : World} {v : Value} {ss : List Cnd} (h : CndsAt lo w v ss) (hl : lo' ≤ lo) : CndsAt lo' w v ss := PairsAt.low h hl
theorem CndsAt.form {lo : Nat} {w : World} {v : Value} {ss : List Cnd} (h : CndsAt lo w v ss) : ∃ a c, v = .slice a ss.length c := by
  obtain ⟨a, c, rfl, _, _⟩ := h
  exact ⟨a, c, rfl⟩

/-- an event: its transition, its conditions -/
abbrev Ev := Int × List Int
def evT (es : List Ev) (i : Nat) : Int := (es.getD i (0, [])).1
def evP (es : List Ev) (i : Nat) : List Int := (es.getD i (0, [])).2
theorem ev_getD {zs : List Ev} {i : Nat} (h : i < zs.length) : (evT zs i, evP zs i) = zs[i] := by simp [evT, evP, List.getD, h]
/-- what a slice of events reads as -/
def EvsAt (lo : Nat) (w : World) (v : Value) (es : List Ev) : Prop :=
  ∃ (ao : Option Addr) (cap : Nat), v = .slice ao es.length cap ∧ es.length ≤ cap ∧
    (es.length = 0 ∨ ∃ b off, ao = some ⟨b, off, none⟩ ∧ lo ≤ b ∧ ∀ i, i < es.length → ∃ v1, w.cell? ⟨b, off + i * 2, none⟩ = some (.int .i64 (evT es i)) ∧ w.cell? ⟨b, off + i * 2 + 1, none⟩ = some v1 ∧ IntsAt lo w v1 (evP es i))
theorem EvsAt.keep {lo : Nat} {w w' : World} {v : Value} {es : List Ev} (h : EvsAt lo w v es) (hb : Carries lo w w') : EvsAt lo w' v es := by
  obtain ⟨ao, cap, hv, hc, hz⟩ := h
  refine ⟨ao, cap, hv, hc, ?_⟩
  rcases hz with hz | ⟨b, off, ha, hlo, hcell⟩
  · exact Or.inl hz
  · refine Or.inr ⟨b, off, ha, hlo, fun i hi => ?_⟩
    obtain ⟨v1, c0, c1, ht⟩ := hcell i hi
    exact ⟨v1, hb _ _ hlo c0, hb _ _ hlo c1, ht.keep hb⟩
theorem EvsAt.low {lo lo' : Nat} {w : World} {v : Value} {es : List Ev} (h : EvsAt lo w v es) (hl : lo' ≤ lo) : EvsAt lo' w v es := by
  obtain ⟨ao, cap, hv, hc, hz⟩ := h
  refine ⟨ao, cap, hv, hc, ?_⟩
  rcases hz with hz | ⟨b, off, ha, hlo, hcell⟩
  · exact Or.inl hz
  · refine Or.inr ⟨b, off, ha, Nat.le_trans hl hlo, fun i hi => ?_⟩
    obtain ⟨v1, c0, c1, ht⟩ := hcell i hi
    exact ⟨v1, c0, c1, ht.low hl⟩
theorem EvsAt.form {lo : Nat} {w : World} {v : Value} {ss : List Ev} (h : EvsAt lo w v ss) : ∃ a c, v = .slice a ss.length c := by
  obtain ⟨a, c, rfl, _, _⟩ := h
  exact ⟨a, c, rfl⟩

theorem take_succ_of' {α : Type} {zs ys : List α} {k : Nat} (hk : k < zs.length) (hy : k < ys.length) (h : zs.take k = ys.take k) (he : zs[k] = ys[k]) : zs.take (k + 1) = ys.take (k + 1) := by
  rw [List.take_succ_eq_append_getElem hk, List.take_succ_eq_append_getElem hy, h, he]
theorem list_ne_of' {α : Type} {zs ys : List α} {k : Nat} (hk : k < zs.length) (hy : k < ys.length) (he : zs[k] ≠ ys[k]) : zs ≠ ys := by
  rintro rfl; exact he rfl

/-- an unfolding as data -/
structure UnfD where
  cs : List Cnd
  es : List Ev
def UnfAt (lo : Nat) (w : World) (v : Value) (u : UnfD) : Prop := ∃ vc ve, v = .agg #[vc, ve] ∧ CndsAt lo w vc u.cs ∧ EvsAt lo w ve u.es
theorem UnfAt.keep {lo : Nat} {w w' : World} {v : Value} {r : UnfD} (h : UnfAt lo w v r) (hb : Carries lo w w') : UnfAt lo w' v r := by
  obtain ⟨vs, vm, hv, h1, h2⟩ := h
  exact ⟨vs, vm, hv, h1.keep hb, h2.keep hb⟩
theorem UnfAt.low {lo lo' : Nat} {w : World} {v : Value} {r : UnfD} (h : UnfAt lo w v r) (hl : lo' ≤ lo) : UnfAt lo' w v r := by
  obtain ⟨vs, vm, hv, h1, h2⟩ := h
  exact ⟨vs, vm, hv, h1.low hl, h2.low hl⟩
theorem UnfAt.form {lo : Nat} {w : World} {v : Value} {r : UnfD} (h : UnfAt lo w v r) : ∃ a0 c0 a1 c1, v = .agg #[.slice a0 r.cs.length c0, .slice a1 r.es.length c1] ∧ CndsAt lo w (.slice a0 r.cs.length c0) r.cs ∧ EvsAt lo w (.slice a1 r.es.length c1) r.es := by
  obtain ⟨vs, vm, rfl, h1, h2⟩ := h
  obtain ⟨a0, c0, rfl⟩ := h1.form
  obtain ⟨a1, c1, rfl⟩ := h2.form
  exact ⟨a0, c0, a1, c1, rfl, h1, h2⟩
def SmallEvs (es : List Ev) : Prop := es.length ≤ 1048576 ∧ ∀ i, i < es.length → (evP es i).length ≤ 1048576
def SmallUnf (u : UnfD) : Prop := u.cs.length ≤ 1048576 ∧ SmallEvs u.es
def OkEvs (es : List Ev) : Prop := es.length ≤ 9223372036854775807 ∧ ∀ i, i < es.length → (evP es i).length ≤ 9223372036854775807
def OkUnf (u : UnfD) : Prop := u.cs.length ≤ 9223372036854775807 ∧ OkEvs u.es

end Go.Proofs.Ytnmoocgocnjdjaa
