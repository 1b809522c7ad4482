/-
  ROWS OF MOVES of the call's own: append of one move; what they read as; boxes, marks.
-/
import Derived.Test.YtjelnlhalpoinaaRgm
import Derived.Test.YtjelnlhalpoinaaOwnt
import Derived.Test.YtjelnlhalpoinaaRgs
namespace Go.Proofs.Ytjelnlhalpoinaa
open Go.RowKit

def mvCells : List Mv → List Value
  | [] => []
  | m :: ms => .int .i64 m.1 :: .int .i64 m.2.1 :: .int .i64 m.2.2 :: mvCells ms
theorem mvCells_length : ∀ ms : List Mv, (mvCells ms).length = ms.length * 3
  | [] => rfl
  | m :: ms => by simp only [mvCells, List.length_cons, mvCells_length ms]; omega
theorem mvCells_append : ∀ a b : List Mv, mvCells (a ++ b) = mvCells a ++ mvCells b
  | [], _ => rfl
  | m :: ms, b => by simp only [List.cons_append, mvCells, mvCells_append ms b]
theorem mvCells_get : ∀ (ms : List Mv) (i : Nat), i < ms.length → (mvCells ms)[i * 3]? = some (.int .i64 (mvF ms i)) ∧ (mvCells ms)[i * 3 + 1]? = some (.int .i64 (mvB ms i)) ∧ (mvCells ms)[i * 3 + 2]? = some (.int .i64 (mvT ms i))
  | [], i, h => absurd h (Nat.not_lt_zero _)
  | m :: ms, 0, _ => ⟨rfl, rfl, rfl⟩
  | m :: ms, i + 1, h => by
    have ih := mvCells_get ms i (by simpa using h)
    have e1 : (i + 1) * 3 = i * 3 + 3 := by omega
    have s1 : mvF (m :: ms) (i + 1) = mvF ms i := by simp [mvF]
    have s2 : mvB (m :: ms) (i + 1) = mvB ms i := by simp [mvB]
    have s3 : mvT (m :: ms) (i + 1) = mvT ms i := by simp [mvT]
    rw [e1, s1, s2, s3]
    exact ⟨ih.1, ih.2.1, ih.2.2⟩

abbrev MRow (B : Nat) (w : World) (v : Value) (ms : List Mv) : Prop := w.ownsRow B 142 3 v ms.length (mvCells ms)
theorem MRow.form {B : Nat} {w : World} {v : Value} {ms : List Mv} (h : MRow B w v ms) : ∃ a c, v = .slice a ms.length c := by
  rcases h.2 with ⟨rfl, hn⟩ | ⟨g, cap, cur, rfl, _⟩
  · exact ⟨none, 0, by rw [hn]⟩
  · exact ⟨_, _, rfl⟩
theorem MRow.at {B : Nat} {w : World} {v : Value} {ms : List Mv} (h : MRow B w v ms) : MovesAt B w v ms := by
  have h0 := h
  rcases h.2 with ⟨rfl, hn⟩ | ⟨g, cap, cur, rfl, hb, hg, hnc, _⟩
  · exact ⟨none, 0, by rw [hn], by omega, Or.inl hn⟩
  · refine ⟨_, _, rfl, hnc, Or.inr ⟨g, 0, rfl, hb, fun i hi => ⟨?_, ?_, ?_⟩⟩⟩
    · rw [Nat.zero_add, h0.cellAt (i * 3) (by omega)]; exact (mvCells_get ms i hi).1
    · rw [Nat.zero_add, h0.cellAt (i * 3 + 1) (by omega)]; exact (mvCells_get ms i hi).2.1
    · rw [Nat.zero_add, h0.cellAt (i * 3 + 2) (by omega)]; exact (mvCells_get ms i hi).2.2
theorem MRow.box {B : Nat} {w : World} {v : Value} {ms : List Mv} (h : MRow B w v ms) : CellBox B w.heap.size w v ms.length 3 := by
  have h0 := h
  rcases h.2 with ⟨rfl, hn⟩ | ⟨g, cap, cur, rfl, hb, hg, hnc, _⟩
  · exact ⟨none, 0, by rw [hn], Or.inl hn⟩
  · refine ⟨_, _, rfl, Or.inr ⟨g, 0, rfl, hb, (Array.getElem?_eq_some_iff.1 hg).1, fun i hi => ⟨?_, ?_⟩⟩⟩
    · rw [Nat.zero_add, h0.cellAt i hi]
      exact ⟨_, List.getElem?_eq_getElem (by rw [mvCells_length]; exact hi)⟩
    · exact h0.frozenAt _
theorem MRow.nil (B : Nat) (w : World) : MRow B w (.slice none 0 0) [] := World.ownsRow_nil _ _ _ _
theorem MRow.low {B B' : Nat} {w : World} {v : Value} {ms : List Mv} (h : MRow B w v ms) (hB : B' ≤ B) : MRow B' w v ms := Go.Joins.ownsRow_le h hB
theorem MRow.stir {B l k : Nat} {w w' : World} {v : Value} {ms : List Mv} (h : MRow B w v ms) (hs : Stir l k w w') (hk : k ≤ B) : MRow B w' v ms := by
  refine ⟨h.1, ?_⟩
  rcases h.2 with hn | ⟨g, cap, cur, rfl, hb, hg, rest⟩
  · exact Or.inl hn
  · exact Or.inr ⟨g, cap, cur, rfl, hb, (hs.block g (Array.getElem?_eq_some_iff.1 hg).1 (Or.inr (by omega))).trans hg, rest⟩
theorem MRow.cap {B : Nat} {w : World} {v : Value} {ms : List Mv} (h : MRow B w v ms) : ∃ a c, v = .slice a ms.length c ∧ ms.length ≤ c := by
  obtain ⟨a, c, rfl, hc, _⟩ := h.at
  exact ⟨a, c, rfl, hc⟩

theorem run_append_mv (w : World) (ty : TypeId) (base : Nat) (v : Value) (n : Nat) (xs : List Value) (hown : w.ownsRow base 142 3 v n xs) (b : Nat) (u0 u1 u2 : Value)
    (hc0 : w.cell? ⟨b, 0, none⟩ = some u0) (hc1 : w.cell? ⟨b, 1, none⟩ = some u1) (hc2 : w.cell? ⟨b, 2, none⟩ = some u2) (o0 : u0.oneCell' = true) (o1 : u1.oneCell' = true) (o2 : u2.oneCell' = true) (hn : n ≤ 1073741824) (hbase : base ≤ w.heap.size) :
    ∃ v' w', (Builtin.append_ #[73, 73] ty #[v, .slice (some ⟨b, 0, none⟩) 1 1]).run Try.prog w = .ok v' w' ∧ w'.ownsRow base 142 3 v' (n + 1) (xs ++ [u0, u1, u2]) ∧ w.grownBy w' v.ownBlock := by
  obtain ⟨i, hi, hzz⟩ := Option.map_eq_some_iff.1 Try.infoMv
  simp only [Prod.mk.injEq] at hzz
  obtain ⟨hz, hs, hby⟩ := hzz
  obtain ⟨v', w', hr, h2, h3, _⟩ := run_append_own (P := Try.prog) w base 73 ty 142 i _ 3 24 Try.underlying73 hi hz hs hby rfl (by omega) v n xs hown ⟨b, 0, none⟩ 1 1 [u0, u1, u2]
    rfl (fun j u hj => by
      match j, hj with
      | 0, hj => simp only [List.getElem?_cons_zero, Option.some.injEq] at hj; subst hj; exact hc0
      | 1, hj => simp only [List.getElem?_cons_succ, List.getElem?_cons_zero, Option.some.injEq] at hj; subst hj; exact hc1
      | 2, hj => simp only [List.getElem?_cons_succ, List.getElem?_cons_zero, Option.some.injEq] at hj; subst hj; exact hc2
      | (j + 3), hj => simp at hj) (fun u hu => by
      simp only [List.mem_cons, List.not_mem_nil, or_false] at hu
      rcases hu with rfl | rfl | rfl
      · exact o0
      · exact o1
      · exact o2) (by unfold maxLen; omega) (by omega) hbase
  exact ⟨v', w', hr, h2, h3⟩

theorem wp_append_mv {o : Oper} {a : Act} {w : World} {K : Act → World → Prop} {Q : Exit → Act → World → Prop} (s x : Operand)
    (ho : o.op = .call { callee := .builtin .append, args := #[s, x], argTypes := #[73, 73] })
    (base : Nat) (v : Value) (ls : List Mv) (hs : a.eval s = v) (hown : MRow base w v ls) (b : Nat) (m : Mv) (hx : a.eval x = .slice (some ⟨b, 0, none⟩) 1 1)
    (hc0 : w.cell? ⟨b, 0, none⟩ = some (.int .i64 m.1)) (hc1 : w.cell? ⟨b, 1, none⟩ = some (.int .i64 m.2.1)) (hc2 : w.cell? ⟨b, 2, none⟩ = some (.int .i64 m.2.2)) (hn : ls.length ≤ 1073741824) (hbase : base ≤ w.heap.size)
    (h : ∀ v' w', MRow base w' v' (ls ++ [m]) → w.grownBy w' v.ownBlock → K (a.put o.dst v') w') : o.wp Try.prog a w K Q := by
  obtain ⟨v', w', hr, h2, h3⟩ := run_append_mv w o.type base v _ _ hown b _ _ _ hc0 hc1 hc2 rfl rfl rfl hn hbase
  unfold Oper.wp execOp
  simp only [ho, resolve, invoke, builtin, Sem.run_bind, Sem.run_pure, Result.andThen_ok, List.map_toArray, List.map_cons, List.map_nil, hs, hx, hr]
  refine h v' w' ?_ h3
  show w'.ownsRow base _ 3 v' (ls ++ [m]).length (mvCells (ls ++ [m]))
  rw [mvCells_append, List.length_append]
  exact h2
theorem wpList_append_mv {ops : Array Oper} {rest : List Oper} {o : Oper} {a : Act} {w : World} {Q : Exit → Act → World → Prop} (hgd : o.guard = none) (s x : Operand)
    (ho : o.op = .call { callee := .builtin .append, args := #[s, x], argTypes := #[73, 73] })
    (base : Nat) (v : Value) (ls : List Mv) (hs : a.eval s = v) (hown : MRow base w v ls) (b : Nat) (m : Mv) (hx : a.eval x = .slice (some ⟨b, 0, none⟩) 1 1)
    (hc0 : w.cell? ⟨b, 0, none⟩ = some (.int .i64 m.1)) (hc1 : w.cell? ⟨b, 1, none⟩ = some (.int .i64 m.2.1)) (hc2 : w.cell? ⟨b, 2, none⟩ = some (.int .i64 m.2.2)) (hn : ls.length ≤ 1073741824) (hbase : base ≤ w.heap.size)
    (h : ∀ v' w', MRow base w' v' (ls ++ [m]) → w.grownBy w' v.ownBlock → wpList Try.prog ops Q rest (a.put o.dst v') w') : wpList Try.prog ops Q (o :: rest) a w :=
  wpList_plain hgd fun _ hK => wp_append_mv s x ho base v ls hs hown b m hx hc0 hc1 hc2 hn hbase fun v' w' h2 h3 => hK _ _ (h v' w' h2 h3)

/-- the marks k, k + 1, .. are written into a row of moves -/
theorem markMoves_row (v : Value) (ms : List Mv) (k : Int) (w : World) (B : Nat) (h : MRow B w v ms) (hn : ms.length ≤ 1048576) (h0 : 0 ≤ k) (h1 : k ≤ 109951162777600) :
    Calls Try.prog 41 #[v, .int .i64 k] w (fun e w' => e = .returned (.int .i64 (k + 3 * (ms.length : Int))) ∧ Stir B w.heap.size w w' ∧ MovesAt B w' v (upMoves k ms.length)) := by
  have hat := h.at
  refine (markMoveS_any v ms.length k w B w.heap.size h.box hn h0 h1).mono fun e w' ⟨he, hs, _, hx⟩ => ⟨he, hs, ?_⟩
  obtain ⟨ao, cap, rfl, hc, hz⟩ := hat
  refine ⟨ao, cap, by rw [upMoves_length], by rw [upMoves_length]; exact hc, ?_⟩
  rw [upMoves_length]
  rcases hz with hz | ⟨b, off, rfl, hlo, hcell⟩
  · exact Or.inl hz
  · refine Or.inr ⟨b, off, rfl, hlo, fun i hi => ?_⟩
    obtain ⟨p0, p1, p2⟩ := upMoves_get (k := k) hi
    dsimp only
    rw [p0, p1, p2]
    exact hx b off cap rfl i hi

theorem MovesAt.bound {lo : Nat} {w : World} {v : Value} {ls : List Mv} (h : MovesAt lo w v ls) : Bound w.heap.size v := by
  intro b off len cap hv hl
  obtain ⟨ao, cp, rfl, _, hz⟩ := h
  injection hv with h1 h2 h3
  rcases hz with hz | ⟨b', off', ha, hlo, hcell⟩
  · omega
  · rw [ha] at h1
    injection h1 with h1
    injection h1 with h1 h4 h5
    have := cell_old (hcell 0 (by omega)).1
    simp at this
    omega
theorem MovesAt.stir {lo hi l k : Nat} {w w' : World} {v : Value} {ls : List Mv} (h : MovesAt lo w v ls) (hB : Bound hi v) (hm : Stir l k w w') (hl : hi ≤ l) : MovesAt lo w' v ls := by
  obtain ⟨ao, cap, rfl, hc, hz⟩ := h
  refine ⟨ao, cap, rfl, hc, ?_⟩
  rcases hz with hz | ⟨b, off, rfl, hlo, hcell⟩
  · exact Or.inl hz
  · by_cases h0 : ls.length = 0
    · exact Or.inl h0
    · have hbl := hB b off _ _ rfl (by omega)
      exact Or.inr ⟨b, off, rfl, hlo, fun i hi => ⟨hm.cell (Or.inl (by simp; omega)) (hcell i hi).1, hm.cell (Or.inl (by simp; omega)) (hcell i hi).2.1, hm.cell (Or.inl (by simp; omega)) (hcell i hi).2.2⟩⟩
theorem selfMoves (L : List Mv) : decide (L = L) = true := decide_eq_true rfl

/-! the moves that leave a marking -/
/-- of the first j moves those that come from x -/
def frTo (ms : List Mv) (x : Int) (j : Nat) : List Mv := (ms.take j).filter (fun m => decide (m.1 = x))
theorem frTo_zero (ms : List Mv) (x : Int) : frTo ms x 0 = [] := by simp [frTo]
theorem frTo_yes {ms : List Mv} {x : Int} {j : Nat} (hj : j < ms.length) (h : mvF ms j = x) : frTo ms x (j + 1) = frTo ms x j ++ [(mvF ms j, mvB ms j, mvT ms j)] := by
  unfold frTo
  rw [List.take_succ_eq_append_getElem hj, List.filter_append, ← mv_getD hj, List.filter_cons_of_pos (by simpa using h), List.filter_nil]
theorem frTo_no {ms : List Mv} {x : Int} {j : Nat} (hj : j < ms.length) (h : ¬ mvF ms j = x) : frTo ms x (j + 1) = frTo ms x j := by
  unfold frTo
  rw [List.take_succ_eq_append_getElem hj, List.filter_append, ← mv_getD hj, List.filter_cons_of_neg (by simpa using h), List.filter_nil, List.append_nil]
theorem frTo_length (ms : List Mv) (x : Int) (j : Nat) : (frTo ms x j).length ≤ j := by
  unfold frTo
  exact Nat.le_trans (List.length_filter_le _ _) (List.length_take_le _ _)
def frL (r : RgD) (x : Int) : List Mv := frTo r.moves x r.moves.length
def mfB (r : RgD) (x : Int) : Bool := goodR r && decide (0 ≤ x ∧ x < (r.marks.length : Int))
def mfL (r : RgD) (x : Int) : List Mv := if mfB r x = true then frL r x else []
theorem mfL_no {r : RgD} {x : Int} (h : mfB r x = false) : mfL r x = [] := by unfold mfL; rw [h]; rfl
theorem mfL_yes {r : RgD} {x : Int} (h : mfB r x = true) : mfL r x = frL r x := by unfold mfL; rw [h]; rfl
theorem mfL_small {r : RgD} {x : Int} (h : SmallRg r) : (mfL r x).length ≤ 1048576 := by
  unfold mfL
  by_cases hb : mfB r x = true
  · rw [if_pos hb]; exact Nat.le_trans (frTo_length _ _ _) h.2
  · rw [if_neg hb]; exact Nat.zero_le _
theorem mf_bad {r : RgD} {x : Int} (h : goodR r = false) : mfB r x = false := by unfold mfB; rw [h]; rfl
theorem mf_out {r : RgD} {x : Int} (h : ¬ (0 ≤ x ∧ x < (r.marks.length : Int))) : mfB r x = false := by unfold mfB; rw [decide_eq_false h, Bool.and_false]
theorem mf_in {r : RgD} {x : Int} (h : goodR r = true) (h2 : 0 ≤ x ∧ x < (r.marks.length : Int)) : mfB r x = true := by unfold mfB; rw [h, decide_eq_true h2]; rfl

/-- a call returns moves of its own, and this bool; moves of its own alone -/
def RetMv (w : World) (l : List Mv) (b : Bool) (e : Ending) (w' : World) : Prop := ∃ v, e = .returned (.tuple #[v, .bool b]) ∧ MRow w.heap.size w' v l ∧ Below w.heap.size w w'
def RetMvO (w : World) (l : List Mv) (e : Ending) (w' : World) : Prop := ∃ v, e = .returned v ∧ MRow w.heap.size w' v l ∧ Below w.heap.size w w'

end Go.Proofs.Ytjelnlhalpoinaa
