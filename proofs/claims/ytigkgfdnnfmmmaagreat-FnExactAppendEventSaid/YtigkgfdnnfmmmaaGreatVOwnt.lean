/- APPEND of one int at a time: what the row of the numbers that pass a test is; rows that are owned read, and may be written.
   APPEND of a transition onto a row of the call's own; rows of transitions whose lists are owned rows. -/
import Derived.Test.YtigkgfdnnfmmmaaGreatVTyat
import Derived.Test.YtigkgfdnnfmmmaaGreatVOwn
import Derived.Lib.BufferOwn
import Derived.Lib.SmallJoins
import Derived.Test.YtigkgfdnnfmmmaaGreatVSgr
namespace Go.Proofs.YtigkgfdnnfmmmaaGreat
open Go.RowKit

theorem ints_one (w : World) (e : TypeId) (z : Int) : IntsAt 0 (w.alloc (.cells #[.int .i64 z] e)) (.slice (some ⟨w.heap.size, 0, none⟩) 1 1) [z] := by
  refine ⟨_, 1, rfl, Nat.le_refl _, Or.inr ⟨w.heap.size, 0, rfl, Nat.zero_le _, fun i hi => ?_⟩⟩
  have h0 : i = 0 := by simp at hi; omega
  subst h0
  simp

/-- the numbers below k at which f is true -/
def enTo (f : Nat → Bool) (k : Nat) : List Int := ((List.range k).filter f).map Int.ofNat
theorem enTo_zero (f : Nat → Bool) : enTo f 0 = [] := rfl
theorem enTo_true {f : Nat → Bool} {k : Nat} (h : f k = true) : enTo f (k + 1) = enTo f k ++ [(k : Int)] := by
  unfold enTo
  rw [List.range_succ, List.filter_append, List.filter_cons_of_pos h, List.filter_nil, List.map_append]
  rfl
theorem enTo_false {f : Nat → Bool} {k : Nat} (h : f k = false) : enTo f (k + 1) = enTo f k := by
  unfold enTo
  rw [List.range_succ, List.filter_append, List.filter_cons_of_neg (by simp [h]), List.filter_nil, List.append_nil]
theorem enTo_length (f : Nat → Bool) (k : Nat) : (enTo f k).length ≤ k := by
  unfold enTo
  rw [List.length_map]
  exact Nat.le_trans (List.length_filter_le _ _) (by simp)

theorem ow_of_owns {w : World} {base : Nat} {v : Value} {zs : List Int} (h : w.ownsRow base 3 1 v zs.length (intCells zs)) : IntsOw base w v zs := by
  have h0 := h
  rcases h.2 with ⟨rfl, hn⟩ | ⟨g, cap, cur, rfl, hb, hg, hnc, _, _, _⟩
  · have hz : zs = [] := List.eq_nil_of_length_eq_zero hn
    subst hz
    exact ⟨_, _, rfl, Nat.le_refl _, Or.inl rfl⟩
  · refine ⟨_, _, rfl, hnc, Or.inr ⟨g, 0, rfl, hb, fun i hi => ⟨?_, ?_⟩⟩⟩
    · rw [Nat.zero_add, h0.cellAt i (by omega)]
      exact intCells_get hi
    · exact h0.frozenAt _
theorem ow_nil (w : World) (lo : Nat) : IntsOw lo w (.slice none 0 0) [] := ⟨none, 0, rfl, Nat.le_refl _, Or.inl rfl⟩

theorem ints_nil (w : World) (lo : Nat) : IntsAt lo w (.slice none 0 0) [] := ⟨none, 0, rfl, Nat.le_refl _, Or.inl rfl⟩

end Go.Proofs.YtigkgfdnnfmmmaaGreat

namespace Go.Proofs.YtigkgfdnnfmmmaaGreat
open Go.RowKit

theorem run_append_pair (w : World) (ty : TypeId) (base : Nat) (v : Value) (n : Nat) (xs : List Value) (hown : w.ownsRow base 98 2 v n xs) (b : Nat) (u0 u1 : Value)
    (hc0 : w.cell? ⟨b, 0, none⟩ = some u0) (hc1 : w.cell? ⟨b, 1, none⟩ = some u1) (o0 : u0.oneCell' = true) (o1 : u1.oneCell' = true) (hn : n ≤ 1073741824) (hbase : base ≤ w.heap.size) :
    ∃ v' w', (Builtin.append_ #[41, 41] ty #[v, .slice (some ⟨b, 0, none⟩) 1 1]).run Tryz.prog w = .ok v' w' ∧ w'.ownsRow base 98 2 v' (n + 1) (xs ++ [u0, u1]) ∧ w.grownBy w' v.ownBlock := by
  obtain ⟨i, hi, hzz⟩ := Option.map_eq_some_iff.1 Tryz.infoTr
  simp only [Prod.mk.injEq] at hzz
  obtain ⟨hz, hs, hby⟩ := hzz
  obtain ⟨v', w', hr, h2, h3, _⟩ := run_append_own (P := Tryz.prog) w base 41 ty 98 i _ 2 48 Tryz.underlying41 hi hz hs hby rfl (by omega) v n xs hown ⟨b, 0, none⟩ 1 1 [u0, u1]
    rfl (fun j u hj => by
      match j, hj with
      | 0, hj => simp only [List.getElem?_cons_zero, Option.some.injEq] at hj; subst hj; exact hc0
      | 1, hj => simp only [List.getElem?_cons_succ, List.getElem?_cons_zero, Option.some.injEq] at hj; subst hj; exact hc1
      | (j + 2), hj => simp at hj) (fun u hu => by
      simp only [List.mem_cons, List.not_mem_nil, or_false] at hu
      rcases hu with rfl | rfl
      · exact o0
      · exact o1) (by unfold maxLen; omega) (by omega) hbase
  exact ⟨v', w', hr, h2, h3⟩

theorem wp_append_pair {o : Oper} {a : Act} {w : World} {K : Act → World → Prop} {Q : Exit → Act → World → Prop} (s x : Operand)
    (ho : o.op = .call { callee := .builtin .append, args := #[s, x], argTypes := #[41, 41] })
    (base : Nat) (v : Value) (n : Nat) (xs : List Value) (hs : a.eval s = v) (hown : w.ownsRow base 98 2 v n xs) (b : Nat) (u0 u1 : Value) (hx : a.eval x = .slice (some ⟨b, 0, none⟩) 1 1)
    (hc0 : w.cell? ⟨b, 0, none⟩ = some u0) (hc1 : w.cell? ⟨b, 1, none⟩ = some u1) (o0 : u0.oneCell' = true) (o1 : u1.oneCell' = true) (hn : n ≤ 1073741824) (hbase : base ≤ w.heap.size)
    (h : ∀ v' w', w'.ownsRow base 98 2 v' (n + 1) (xs ++ [u0, u1]) → w.grownBy w' v.ownBlock → K (a.put o.dst v') w') : o.wp Tryz.prog a w K Q := by
  obtain ⟨v', w', hr, h2, h3⟩ := run_append_pair w o.type base v n xs hown b u0 u1 hc0 hc1 o0 o1 hn hbase
  unfold Oper.wp execOp
  simp only [ho, resolve, invoke, builtin, Sem.run_bind, Sem.run_pure, Result.andThen_ok, List.map_toArray, List.map_cons, List.map_nil, hs, hx, hr]
  exact h v' w' h2 h3

/-- an int row owned by the call -/
abbrev IRow (B : Nat) (w : World) (v : Value) (zs : List Int) : Prop := w.ownsRow B 3 1 v zs.length (intCells zs)
theorem IRow.form {B : Nat} {w : World} {v : Value} {zs : List Int} (h : IRow B w v zs) : ∃ a c, v = .slice a zs.length c := by
  obtain ⟨a, c, rfl, _⟩ := ints_of_owns h
  exact ⟨a, c, rfl⟩
theorem IRow.low {B B' : Nat} {w : World} {v : Value} {zs : List Int} (h : IRow B w v zs) (hB : B' ≤ B) : IRow B' w v zs := Go.Joins.ownsRow_le h hB
/-- the block of a row of transitions is no block of a row of ints -/
theorem rows_apart {B B' : Nat} {w : World} {v v' : Value} {n n' : Nat} {xs ys : List Value} (h : w.ownsRow B 3 1 v n xs) (h' : w.ownsRow B' 98 2 v' n' ys) : v.ownBlock = none ∨ v.ownBlock ≠ v'.ownBlock := by
  rcases h.2 with ⟨rfl, _⟩ | ⟨g, cap, cur, rfl, _, hg, _⟩
  · exact Or.inl rfl
  · right
    rcases h'.2 with ⟨rfl, _⟩ | ⟨g', cap', cur', rfl, _, hg', _⟩
    · simp [Value.ownBlock]
    · intro e
      simp only [Value.ownBlock, Option.some.injEq] at e
      subst e
      rw [hg] at hg'
      simp at hg'

/-- the cells xs hold k transitions, each list an int row owned by the call -/
def OwnTrs (B : Nat) (w : World) (xs : List Value) (k : Nat) (ts : List Tr) : Prop :=
  xs.length = k * 2 ∧ ∀ i, i < k → ∃ v0 v1, xs[i * 2]? = some v0 ∧ xs[i * 2 + 1]? = some v1 ∧ IRow B w v0 (ts.getD i ([], [])).1 ∧ IRow B w v1 (ts.getD i ([], [])).2
theorem OwnTrs.zero (B : Nat) (w : World) (ts : List Tr) : OwnTrs B w [] 0 ts := ⟨rfl, fun _ h => absurd h (Nat.not_lt_zero _)⟩
theorem OwnTrs.after {B : Nat} {w w' : World} {xs : List Value} {k : Nat} {ts : List Tr} (h : OwnTrs B w xs k ts) (hb : Below w.heap.size w w') : OwnTrs B w' xs k ts := by
  refine ⟨h.1, fun i hi => ?_⟩
  obtain ⟨v0, v1, e0, e1, h0, h1⟩ := h.2 i hi
  exact ⟨v0, v1, e0, e1, owns_after h0 hb, owns_after h1 hb⟩
theorem OwnTrs.grown {B B' : Nat} {w w' : World} {xs ys : List Value} {k n : Nat} {v : Value} {ts : List Tr} (h : OwnTrs B w xs k ts) (hown : w.ownsRow B' 98 2 v n ys) (hg : w.grownBy w' v.ownBlock) : OwnTrs B w' xs k ts := by
  refine ⟨h.1, fun i hi => ?_⟩
  obtain ⟨v0, v1, e0, e1, h0, h1⟩ := h.2 i hi
  exact ⟨v0, v1, e0, e1, h0.kept hg (rows_apart h0 hown), h1.kept hg (rows_apart h1 hown)⟩
theorem OwnTrs.put {B : Nat} {w : World} {xs : List Value} {k : Nat} {ts : List Tr} {u0 u1 : Value} (h : OwnTrs B w xs k ts) (h0 : IRow B w u0 (ts.getD k ([], [])).1) (h1 : IRow B w u1 (ts.getD k ([], [])).2) : OwnTrs B w (xs ++ [u0, u1]) (k + 1) ts := by
  have hl := h.1
  refine ⟨by simp [hl]; omega, fun i hi => ?_⟩
  by_cases e : i = k
  · subst e
    refine ⟨u0, u1, ?_, ?_, h0, h1⟩
    · rw [List.getElem?_append_right (by omega), hl]; simp
    · rw [List.getElem?_append_right (by omega), hl, show i * 2 + 1 - i * 2 = 1 by omega]; rfl
  · obtain ⟨v0, v1, e0, e1, q0, q1⟩ := h.2 i (by omega)
    exact ⟨v0, v1, by rw [List.getElem?_append_left (by omega)]; exact e0, by rw [List.getElem?_append_left (by omega)]; exact e1, q0, q1⟩
theorem OwnTrs.read {B : Nat} {w : World} {xs : List Value} {v : Value} {ts : List Tr} (h : OwnTrs B w xs ts.length ts) (hown : w.ownsRow B 98 2 v ts.length xs) : TrsAt B w v ts := by
  have h0 := hown
  rcases hown.2 with ⟨rfl, hn⟩ | ⟨g, cap, cur, rfl, hb, hg, hnc, _⟩
  · have hz : ts = [] := List.eq_nil_of_length_eq_zero hn
    subst hz
    exact ⟨_, _, rfl, Nat.le_refl _, Or.inl rfl⟩
  · refine ⟨_, _, rfl, hnc, Or.inr ⟨g, 0, rfl, hb, fun i hi => ?_⟩⟩
    obtain ⟨v0, v1, e0, e1, q0, q1⟩ := h.2 i hi
    refine ⟨v0, v1, ?_, ?_, ints_of_owns q0, ints_of_owns q1⟩
    · rw [Nat.zero_add, h0.cellAt (i * 2) (by omega)]; exact e0
    · rw [Nat.zero_add, h0.cellAt (i * 2 + 1) (by omega)]; exact e1

theorem owns_set {B : Nat} {w : World} {e : TypeId} {size n : Nat} {v : Value} {xs : List Value} (h : w.ownsRow B e size v n xs) {p : Addr} (hp : p.block < B) (u : Value) : (w.setCell p u).ownsRow B e size v n xs := by
  refine h.kept (grownBy_set w p u) ?_
  cases hb : v.ownBlock with
  | none => exact Or.inl rfl
  | some g =>
    have := (h.lt g hb).1
    exact Or.inr (by simp; omega)
theorem owns_form {B : Nat} {w : World} {e : TypeId} {size n : Nat} {v : Value} {xs : List Value} (h : w.ownsRow B e size v n xs) : ∃ a c, v = .slice a n c := by
  rcases h.2 with ⟨rfl, rfl⟩ | ⟨g, cap, cur, rfl, _⟩
  · exact ⟨_, _, rfl⟩
  · exact ⟨_, _, rfl⟩
theorem OwnTrs.set {B : Nat} {w : World} {xs : List Value} {k : Nat} {ts : List Tr} (h : OwnTrs B w xs k ts) {p : Addr} (hp : p.block < B) (u : Value) : OwnTrs B (w.setCell p u) xs k ts := by
  refine ⟨h.1, fun i hi => ?_⟩
  obtain ⟨v0, v1, e0, e1, h0, h1⟩ := h.2 i hi
  exact ⟨v0, v1, e0, e1, owns_set h0 hp u, owns_set h1 hp u⟩

/-- a call returns a net that reads so, and this bool -/
def RetNB (w : World) (n : NetD) (b : Bool) (e : Ending) (w' : World) : Prop :=
  ∃ u, e = .returned (.tuple #[.agg #[.int .i64 n.places, u], .bool b]) ∧ TrsAt w.heap.size w' u n.ts ∧ Below w.heap.size w w'

end Go.Proofs.YtigkgfdnnfmmmaaGreat
