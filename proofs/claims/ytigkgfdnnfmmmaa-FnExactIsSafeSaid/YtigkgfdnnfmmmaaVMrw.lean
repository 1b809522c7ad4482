/- ROWS OF MOVES of the call's own: append of one move; what they read as; boxes. -/
import Derived.Test.YtigkgfdnnfmmmaaVRgm
import Derived.Test.YtigkgfdnnfmmmaaVApb
namespace Go.Proofs.Ytigkgfdnnfmmmaa
open Go.RowKit

def mvCells : List Mv → List Value
  | [] => []
  | m :: ms => .int .i64 m.1 :: .int .i64 m.2.1 :: .int .i64 m.2.2 :: mvCells ms
theorem mvCells_length : ∀ ms : List Mv, (mvCells ms).length = ms.length * 3
  | [] => rfl
  | m :: ms => by simp only [mvCells, List.length_cons, mvCells_length ms]; omega
theorem mvCells_append : ∀ a b : List Mv, mvCells (a ++ b) = mvCells a ++ mvCells b
  | [], _ => rfl
  | m :: ms, b => by simp only [List.cons_append, mvCells, mvCells_append ms b]
theorem mvCells_get : ∀ (ms : List Mv) (i : Nat), i < ms.length → (mvCells ms)[i * 3]? = some (.int .i64 (mvF ms i)) ∧ (mvCells ms)[i * 3 + 1]? = some (.int .i64 (mvB ms i)) ∧ (mvCells ms)[i * 3 + 2]? = some (.int .i64 (mvT ms i))
  | [], i, h => absurd h (Nat.not_lt_zero _)
  | m :: ms, 0, _ => ⟨rfl, rfl, rfl⟩
  | m :: ms, i + 1, h => by
    have ih := mvCells_get ms i (by simpa using h)
    have e1 : (i + 1) * 3 = i * 3 + 3 := by omega
    have s1 : mvF (m :: ms) (i + 1) = mvF ms i := by simp [mvF]
    have s2 : mvB (m :: ms) (i + 1) = mvB ms i := by simp [mvB]
    have s3 : mvT (m :: ms) (i + 1) = mvT ms i := by simp [mvT]
    rw [e1, s1, s2, s3]
    exact ⟨ih.1, ih.2.1, ih.2.2⟩

abbrev MRow (B : Nat) (w : World) (v : Value) (ms : List Mv) : Prop := w.ownsRow B 93 3 v ms.length (mvCells ms)
theorem MRow.form {B : Nat} {w : World} {v : Value} {ms : List Mv} (h : MRow B w v ms) : ∃ a c, v = .slice a ms.length c := by
  rcases h.2 with ⟨rfl, hn⟩ | ⟨g, cap, cur, rfl, _⟩
  · exact ⟨none, 0, by rw [hn]⟩
  · exact ⟨_, _, rfl⟩
theorem MRow.at {B : Nat} {w : World} {v : Value} {ms : List Mv} (h : MRow B w v ms) : MovesAt B w v ms := by
  have h0 := h
  rcases h.2 with ⟨rfl, hn⟩ | ⟨g, cap, cur, rfl, hb, hg, hnc, _⟩
  · exact ⟨none, 0, by rw [hn], by omega, Or.inl hn⟩
  · refine ⟨_, _, rfl, hnc, Or.inr ⟨g, 0, rfl, hb, fun i hi => ⟨?_, ?_, ?_⟩⟩⟩
    · rw [Nat.zero_add, h0.cellAt (i * 3) (by omega)]; exact (mvCells_get ms i hi).1
    · rw [Nat.zero_add, h0.cellAt (i * 3 + 1) (by omega)]; exact (mvCells_get ms i hi).2.1
    · rw [Nat.zero_add, h0.cellAt (i * 3 + 2) (by omega)]; exact (mvCells_get ms i hi).2.2
theorem MRow.box {B : Nat} {w : World} {v : Value} {ms : List Mv} (h : MRow B w v ms) : CellBox B w.heap.size w v ms.length 3 := by
  have h0 := h
  rcases h.2 with ⟨rfl, hn⟩ | ⟨g, cap, cur, rfl, hb, hg, hnc, _⟩
  · exact ⟨none, 0, by rw [hn], Or.inl hn⟩
  · refine ⟨_, _, rfl, Or.inr ⟨g, 0, rfl, hb, (Array.getElem?_eq_some_iff.1 hg).1, fun i hi => ⟨?_, ?_⟩⟩⟩
    · rw [Nat.zero_add, h0.cellAt i hi]
      exact ⟨_, List.getElem?_eq_getElem (by rw [mvCells_length]; exact hi)⟩
    · exact h0.frozenAt _
theorem MRow.nil (B : Nat) (w : World) : MRow B w (.slice none 0 0) [] := World.ownsRow_nil _ _ _ _
theorem MRow.low {B B' : Nat} {w : World} {v : Value} {ms : List Mv} (h : MRow B w v ms) (hB : B' ≤ B) : MRow B' w v ms := Go.Joins.ownsRow_le h hB
theorem MRow.stir {B l k : Nat} {w w' : World} {v : Value} {ms : List Mv} (h : MRow B w v ms) (hs : Stir l k w w') (hk : k ≤ B) : MRow B w' v ms := by
  refine ⟨h.1, ?_⟩
  rcases h.2 with hn | ⟨g, cap, cur, rfl, hb, hg, rest⟩
  · exact Or.inl hn
  · exact Or.inr ⟨g, cap, cur, rfl, hb, (hs.block g (Array.getElem?_eq_some_iff.1 hg).1 (Or.inr (by omega))).trans hg, rest⟩
theorem MRow.cap {B : Nat} {w : World} {v : Value} {ms : List Mv} (h : MRow B w v ms) : ∃ a c, v = .slice a ms.length c ∧ ms.length ≤ c := by
  obtain ⟨a, c, rfl, hc, _⟩ := h.at
  exact ⟨a, c, rfl, hc⟩

theorem run_append_mv (w : World) (ty : TypeId) (base : Nat) (v : Value) (n : Nat) (xs : List Value) (hown : w.ownsRow base 93 3 v n xs) (b : Nat) (u0 u1 u2 : Value)
    (hc0 : w.cell? ⟨b, 0, none⟩ = some u0) (hc1 : w.cell? ⟨b, 1, none⟩ = some u1) (hc2 : w.cell? ⟨b, 2, none⟩ = some u2) (o0 : u0.oneCell' = true) (o1 : u1.oneCell' = true) (o2 : u2.oneCell' = true) (hn : n ≤ 1073741824) (hbase : base ≤ w.heap.size) :
    ∃ v' w', (Builtin.append_ #[31, 31] ty #[v, .slice (some ⟨b, 0, none⟩) 1 1]).run Try.prog w = .ok v' w' ∧ w'.ownsRow base 93 3 v' (n + 1) (xs ++ [u0, u1, u2]) ∧ w.grownBy w' v.ownBlock := by
  obtain ⟨i, hi, hzz⟩ := Option.map_eq_some_iff.1 Try.infoMv
  simp only [Prod.mk.injEq] at hzz
  obtain ⟨hz, hs, hby⟩ := hzz
  obtain ⟨v', w', hr, h2, h3, _⟩ := run_append_own (P := Try.prog) w base 31 ty 93 i _ 3 24 Try.underlying31 hi hz hs hby rfl (by omega) v n xs hown ⟨b, 0, none⟩ 1 1 [u0, u1, u2]
    rfl (fun j u hj => by
      match j, hj with
      | 0, hj => simp only [List.getElem?_cons_zero, Option.some.injEq] at hj; subst hj; exact hc0
      | 1, hj => simp only [List.getElem?_cons_succ, List.getElem?_cons_zero, Option.some.injEq] at hj; subst hj; exact hc1
      | 2, hj => simp only [List.getElem?_cons_succ, List.getElem?_cons_zero, Option.some.injEq] at hj; subst hj; exact hc2
      | (j + 3), hj => simp at hj) (fun u hu => by
      simp only [List.mem_cons, List.not_mem_nil, or_false] at hu
      rcases hu with rfl | rfl | rfl
      · exact o0
      · exact o1
      · exact o2) (by unfold maxLen; omega) (by omega) hbase
  exact ⟨v', w', hr, h2, h3⟩

theorem wp_append_mv {o : Oper} {a : Act} {w : World} {K : Act → World → Prop} {Q : Exit → Act → World → Prop} (s x : Operand)
    (ho : o.op = .call { callee := .builtin .append, args := #[s, x], argTypes := #[31, 31] })
    (base : Nat) (v : Value) (ls : List Mv) (hs : a.eval s = v) (hown : MRow base w v ls) (b : Nat) (m : Mv) (hx : a.eval x = .slice (some ⟨b, 0, none⟩) 1 1)
    (hc0 : w.cell? ⟨b, 0, none⟩ = some (.int .i64 m.1)) (hc1 : w.cell? ⟨b, 1, none⟩ = some (.int .i64 m.2.1)) (hc2 : w.cell? ⟨b, 2, none⟩ = some (.int .i64 m.2.2)) (hn : ls.length ≤ 1073741824) (hbase : base ≤ w.heap.size)
    (h : ∀ v' w', MRow base w' v' (ls ++ [m]) → w.grownBy w' v.ownBlock → K (a.put o.dst v') w') : o.wp Try.prog a w K Q := by
  obtain ⟨v', w', hr, h2, h3⟩ := run_append_mv w o.type base v _ _ hown b _ _ _ hc0 hc1 hc2 rfl rfl rfl hn hbase
  unfold Oper.wp execOp
  simp only [ho, resolve, invoke, builtin, Sem.run_bind, Sem.run_pure, Result.andThen_ok, List.map_toArray, List.map_cons, List.map_nil, hs, hx, hr]
  refine h v' w' ?_ h3
  show w'.ownsRow base _ 3 v' (ls ++ [m]).length (mvCells (ls ++ [m]))
  rw [mvCells_append, List.length_append]
  exact h2
theorem wpList_append_mv {ops : Array Oper} {rest : List Oper} {o : Oper} {a : Act} {w : World} {Q : Exit → Act → World → Prop} (hgd : o.guard = none) (s x : Operand)
    (ho : o.op = .call { callee := .builtin .append, args := #[s, x], argTypes := #[31, 31] })
    (base : Nat) (v : Value) (ls : List Mv) (hs : a.eval s = v) (hown : MRow base w v ls) (b : Nat) (m : Mv) (hx : a.eval x = .slice (some ⟨b, 0, none⟩) 1 1)
    (hc0 : w.cell? ⟨b, 0, none⟩ = some (.int .i64 m.1)) (hc1 : w.cell? ⟨b, 1, none⟩ = some (.int .i64 m.2.1)) (hc2 : w.cell? ⟨b, 2, none⟩ = some (.int .i64 m.2.2)) (hn : ls.length ≤ 1073741824) (hbase : base ≤ w.heap.size)
    (h : ∀ v' w', MRow base w' v' (ls ++ [m]) → w.grownBy w' v.ownBlock → wpList Try.prog ops Q rest (a.put o.dst v') w') : wpList Try.prog ops Q (o :: rest) a w :=
  wpList_plain hgd fun _ hK => wp_append_mv s x ho base v ls hs hown b m hx hc0 hc1 hc2 hn hbase fun v' w' h2 h3 => hK _ _ (h v' w' h2 h3)


end Go.Proofs.Ytigkgfdnnfmmmaa
