/- ROWS THAT THE CALL OWNS: of conditions (two ints), of sets of events (one uint64): what they read as, one more. -/
import Derived.Test.YtnmoocgocnjdjaaVUfm
import Derived.Test.YtnmoocgocnjdjaaVApp
import Derived.Deep.AppendLies
namespace Go.Proofs.Ytnmoocgocnjdjaa
open Go.RowKit

theorem Try.infoCnd : (Try.prog.info? 119).map (fun i => (i.zero, i.size, i.bytes)) = some (some (.agg #[.int .i64 0, .int .i64 0]), 2, 16) := by kernel_rfl
theorem Try.infoSet : (Try.prog.info? 161).map (fun i => (i.zero, i.size, i.bytes)) = some (some (.int .u64 0), 1, 8) := by kernel_rfl

def cnCells : List Cnd → List Value
  | [] => []
  | m :: ms => .int .i64 m.1 :: .int .i64 m.2 :: cnCells ms
theorem cnCells_length : ∀ ms : List Cnd, (cnCells ms).length = ms.length * 2
  | [] => rfl
  | m :: ms => by simp only [cnCells, List.length_cons, cnCells_length ms]; omega
theorem cnCells_append : ∀ a b : List Cnd, cnCells (a ++ b) = cnCells a ++ cnCells b
  | [], _ => rfl
  | m :: ms, b => by simp only [List.cons_append, cnCells, cnCells_append ms b]
theorem cnCells_get : ∀ (ms : List Cnd) (i : Nat), i < ms.length → (cnCells ms)[i * 2]? = some (.int .i64 (cnP ms i)) ∧ (cnCells ms)[i * 2 + 1]? = some (.int .i64 (cnB ms i))
  | [], i, h => absurd h (Nat.not_lt_zero _)
  | m :: ms, 0, _ => ⟨rfl, rfl⟩
  | m :: ms, i + 1, h => by
    have ih := cnCells_get ms i (by simpa using h)
    have e1 : (i + 1) * 2 = i * 2 + 2 := by omega
    have s1 : cnP (m :: ms) (i + 1) = cnP ms i := by simp [cnP]
    have s2 : cnB (m :: ms) (i + 1) = cnB ms i := by simp [cnB]
    rw [e1, s1, s2]
    exact ⟨ih.1, ih.2⟩

abbrev CRow (B : Nat) (w : World) (v : Value) (ms : List Cnd) : Prop := w.ownsRow B 119 2 v ms.length (cnCells ms)
theorem CRow.form {B : Nat} {w : World} {v : Value} {ms : List Cnd} (h : CRow B w v ms) : ∃ a c, v = .slice a ms.length c := by
  rcases h.2 with ⟨rfl, hn⟩ | ⟨g, cap, cur, rfl, _⟩
  · exact ⟨none, 0, by rw [hn]⟩
  · exact ⟨_, _, rfl⟩
theorem CRow.at {B : Nat} {w : World} {v : Value} {ms : List Cnd} (h : CRow B w v ms) : CndsAt B w v ms := by
  have h0 := h
  rcases h.2 with ⟨rfl, hn⟩ | ⟨g, cap, cur, rfl, hb, hg, hnc, _⟩
  · exact ⟨none, 0, by rw [hn], by omega, Or.inl hn⟩
  · refine ⟨_, _, rfl, hnc, Or.inr ⟨g, 0, rfl, hb, fun i hi => ⟨?_, ?_⟩⟩⟩
    · rw [Nat.zero_add, h0.cellAt (i * 2) (by omega)]; exact (cnCells_get ms i hi).1
    · rw [Nat.zero_add, h0.cellAt (i * 2 + 1) (by omega)]; exact (cnCells_get ms i hi).2
theorem CRow.box {B : Nat} {w : World} {v : Value} {ms : List Cnd} (h : CRow B w v ms) : PairBox B w.heap.size w v ms.length := by
  have h0 := h
  rcases h.2 with ⟨rfl, hn⟩ | ⟨g, cap, cur, rfl, hb, hg, hnc, _⟩
  · exact ⟨none, 0, by rw [hn], Or.inl hn⟩
  · refine ⟨_, _, rfl, Or.inr ⟨g, 0, rfl, hb, (Array.getElem?_eq_some_iff.1 hg).1, fun i hi => ⟨?_, ?_⟩⟩⟩
    · rw [Nat.zero_add, h0.cellAt i hi]
      exact ⟨_, List.getElem?_eq_getElem (by rw [cnCells_length]; exact hi)⟩
    · exact h0.frozenAt _
theorem CRow.nil (B : Nat) (w : World) : CRow B w (.slice none 0 0) [] := World.ownsRow_nil _ _ _ _
theorem CRow.stir {B l k : Nat} {w w' : World} {v : Value} {ms : List Cnd} (h : CRow B w v ms) (hs : Stir l k w w') (hk : k ≤ B) : CRow B w' v ms := by
  refine ⟨h.1, ?_⟩
  rcases h.2 with hn | ⟨g, cap, cur, rfl, hb, hg, rest⟩
  · exact Or.inl hn
  · exact Or.inr ⟨g, cap, cur, rfl, hb, (hs.block g (Array.getElem?_eq_some_iff.1 hg).1 (Or.inr (by omega))).trans hg, rest⟩
theorem CRow.cap {B : Nat} {w : World} {v : Value} {ms : List Cnd} (h : CRow B w v ms) : ∃ a c, v = .slice a ms.length c ∧ ms.length ≤ c := by
  obtain ⟨a, c, rfl, hc, _⟩ := h.at
  exact ⟨a, c, rfl, hc⟩

/-- sets of events, as numbers -/
def usCells (l : List Nat) : List Value := l.map fun (x : Nat) => Value.int .u64 (x : Int)
theorem usCells_length (l : List Nat) : (usCells l).length = l.length := by simp [usCells]
theorem usCells_append (a b : List Nat) : usCells (a ++ b) = usCells a ++ usCells b := by simp [usCells]
theorem usCells_get {l : List Nat} {i : Nat} (h : i < l.length) : (usCells l)[i]? = some (.int .u64 ((l.getD i 0 : Nat) : Int)) := by simp [usCells, h, List.getD]
abbrev URow (B : Nat) (w : World) (v : Value) (l : List Nat) : Prop := w.ownsRow B 161 1 v l.length (usCells l)
theorem URow.form {B : Nat} {w : World} {v : Value} {ms : List Nat} (h : URow B w v ms) : ∃ a c, v = .slice a ms.length c := by
  rcases h.2 with ⟨rfl, hn⟩ | ⟨g, cap, cur, rfl, _⟩
  · exact ⟨none, 0, by rw [hn]⟩
  · exact ⟨_, _, rfl⟩
theorem URow.nil (B : Nat) (w : World) : URow B w (.slice none 0 0) [] := World.ownsRow_nil _ _ _ _

theorem wpList_append_cnd {ops : Array Oper} {rest : List Oper} {o : Oper} {a : Act} {w : World} {Q : Exit → Act → World → Prop} (hgd : o.guard = none) (s x : Operand)
    (ho : o.op = .call { callee := .builtin .append, args := #[s, x], argTypes := #[36, 36] })
    (base : Nat) (v : Value) (ls : List Cnd) (hs : a.eval s = v) (hown : CRow base w v ls) (b : Nat) (p e : Int) (hx : a.eval x = .slice (some ⟨b, 0, none⟩) 1 1)
    (hc0 : w.cell? ⟨b, 0, none⟩ = some (.int .i64 p)) (hc1 : w.cell? ⟨b, 1, none⟩ = some (.int .i64 e)) (hn : ls.length ≤ 1073741824) (hbase : base ≤ w.heap.size)
    (h : ∀ g cap w', CRow base w' (.slice (some ⟨g, 0, none⟩) (ls.length + 1) cap) (ls ++ [(p, e)]) → w.grownBy w' v.ownBlock → wpList Try.prog ops Q rest (a.put o.dst (.slice (some ⟨g, 0, none⟩) (ls.length + 1) cap)) w') : wpList Try.prog ops Q (o :: rest) a w :=
  wpList_plain hgd fun _ hK => by
    obtain ⟨i, hi, hzz⟩ := Option.map_eq_some_iff.1 Try.infoCnd
    simp only [Prod.mk.injEq] at hzz
    obtain ⟨hz, hsz, hby⟩ := hzz
    obtain ⟨g, cap, w', hr, h2, h3, _, _⟩ := run_append_lies (P := Try.prog) w 36 o.type base 119 i _ 2 16 Try.underlying36 hi hz hsz hby rfl (by omega) v _ _ hown ⟨b, 0, none⟩ 1 1 [.int .i64 p, .int .i64 e]
      rfl (fun j u hj => by
        match j, hj with
        | 0, hj => simp only [List.getElem?_cons_zero, Option.some.injEq] at hj; subst hj; exact hc0
        | 1, hj => simp only [List.getElem?_cons_succ, List.getElem?_cons_zero, Option.some.injEq] at hj; subst hj; exact hc1
        | (j + 2), hj => simp at hj) (fun u hu => by
        simp only [List.mem_cons, List.not_mem_nil, or_false] at hu
        rcases hu with rfl | rfl <;> rfl) (by omega) (by unfold maxLen; omega) (by omega) hbase _ rfl
    unfold Oper.wp execOp
    simp only [ho, resolve, invoke, builtin, Sem.run_bind, Sem.run_pure, Result.andThen_ok, List.map_toArray, List.map_cons, List.map_nil, hs, hx, hr]
    refine hK _ _ (h g cap w' ?_ h3)
    show w'.ownsRow base _ 2 _ (ls ++ [(p, e)]).length (cnCells (ls ++ [(p, e)]))
    rw [cnCells_append, List.length_append]
    exact h2

theorem wpList_append_set {ops : Array Oper} {rest : List Oper} {o : Oper} {a : Act} {w : World} {Q : Exit → Act → World → Prop} (hgd : o.guard = none) (s x : Operand)
    (ho : o.op = .call { callee := .builtin .append, args := #[s, x], argTypes := #[83, 83] })
    (base : Nat) (v : Value) (ls : List Nat) (hs : a.eval s = v) (hown : URow base w v ls) (b : Nat) (m : Nat) (hx : a.eval x = .slice (some ⟨b, 0, none⟩) 1 1)
    (hc0 : w.cell? ⟨b, 0, none⟩ = some (.int .u64 (m : Int))) (hn : ls.length ≤ 1073741824) (hbase : base ≤ w.heap.size)
    (h : ∀ g cap w', URow base w' (.slice (some ⟨g, 0, none⟩) (ls.length + 1) cap) (ls ++ [m]) → w.grownBy w' v.ownBlock → (v.ownBlock = some g ∨ g = w.heap.size) → wpList Try.prog ops Q rest (a.put o.dst (.slice (some ⟨g, 0, none⟩) (ls.length + 1) cap)) w') : wpList Try.prog ops Q (o :: rest) a w :=
  wpList_plain hgd fun _ hK => by
    obtain ⟨i, hi, hzz⟩ := Option.map_eq_some_iff.1 Try.infoSet
    simp only [Prod.mk.injEq] at hzz
    obtain ⟨hz, hsz, hby⟩ := hzz
    obtain ⟨g, cap, w', hr, h2, h3, h4, _⟩ := run_append_lies (P := Try.prog) w 83 o.type base 161 i _ 1 8 Try.underlying83 hi hz hsz hby rfl (by omega) v _ _ hown ⟨b, 0, none⟩ 1 1 [.int .u64 (m : Int)]
      rfl (fun j u hj => by
        match j, hj with
        | 0, hj => simp only [List.getElem?_cons_zero, Option.some.injEq] at hj; subst hj; exact hc0
        | (j + 1), hj => simp at hj) (fun u hu => by
        simp only [List.mem_cons, List.not_mem_nil, or_false] at hu
        subst hu; rfl) (by omega) (by unfold maxLen; omega) (by omega) hbase _ rfl
    unfold Oper.wp execOp
    simp only [ho, resolve, invoke, builtin, Sem.run_bind, Sem.run_pure, Result.andThen_ok, List.map_toArray, List.map_cons, List.map_nil, hs, hx, hr]
    refine hK _ _ (h g cap w' ?_ h3 h4)
    show w'.ownsRow base _ 1 _ (ls ++ [m]).length (usCells (ls ++ [m]))
    rw [usCells_append, List.length_append]
    exact h2

end Go.Proofs.Ytnmoocgocnjdjaa
