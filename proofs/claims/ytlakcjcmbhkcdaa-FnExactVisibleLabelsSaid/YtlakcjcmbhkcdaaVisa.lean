/-
  ROWS OF LABELS of the call's own: append of one label; what they read as; marks written into them, and held.
-/
import Derived.Test.YtlakcjcmbhkcdaaTof
import Derived.Test.YtlakcjcmbhkcdaaStgn
import Derived.Test.YtlakcjcmbhkcdaaOwnt
namespace Go.Proofs.Ytlakcjcmbhkcdaa
open Go.RowKit

def labCells : List Lab → List Value
  | [] => []
  | l :: ls => .int .i64 l.1 :: .bool l.2 :: labCells ls
theorem labCells_length : ∀ ls : List Lab, (labCells ls).length = ls.length * 2
  | [] => rfl
  | l :: ls => by simp only [labCells, List.length_cons, labCells_length ls]; omega
theorem labCells_append : ∀ a b : List Lab, labCells (a ++ b) = labCells a ++ labCells b
  | [], _ => rfl
  | l :: ls, b => by simp only [List.cons_append, labCells, labCells_append ls b]
theorem labCells_get : ∀ (ls : List Lab) (i : Nat), i < ls.length → (labCells ls)[i * 2]? = some (.int .i64 (lbS ls i)) ∧ (labCells ls)[i * 2 + 1]? = some (.bool (lbU ls i))
  | [], i, h => absurd h (Nat.not_lt_zero _)
  | l :: ls, 0, _ => ⟨rfl, rfl⟩
  | l :: ls, i + 1, h => by
    have ih := labCells_get ls i (by simpa using h)
    have e1 : (i + 1) * 2 = i * 2 + 2 := by omega
    have s1 : lbS (l :: ls) (i + 1) = lbS ls i := by simp [lbS]
    have s2 : lbU (l :: ls) (i + 1) = lbU ls i := by simp [lbU]
    rw [e1, s1, s2]
    exact ⟨ih.1, ih.2⟩

abbrev LRow (B : Nat) (w : World) (v : Value) (ls : List Lab) : Prop := w.ownsRow B 111 2 v ls.length (labCells ls)
theorem LRow.form {B : Nat} {w : World} {v : Value} {ls : List Lab} (h : LRow B w v ls) : ∃ a c, v = .slice a ls.length c := by
  rcases h.2 with ⟨rfl, hn⟩ | ⟨g, cap, cur, rfl, _⟩
  · exact ⟨none, 0, by rw [hn]⟩
  · exact ⟨_, _, rfl⟩
theorem LRow.at {B : Nat} {w : World} {v : Value} {ls : List Lab} (h : LRow B w v ls) : LabsAt B w v ls := by
  have h0 := h
  rcases h.2 with ⟨rfl, hn⟩ | ⟨g, cap, cur, rfl, hb, hg, hnc, _⟩
  · exact ⟨none, 0, by rw [hn], by omega, Or.inl hn⟩
  · refine ⟨_, _, rfl, hnc, Or.inr ⟨g, 0, rfl, hb, fun i hi => ⟨?_, ?_⟩⟩⟩
    · rw [Nat.zero_add, h0.cellAt (i * 2) (by omega)]; exact (labCells_get ls i hi).1
    · rw [Nat.zero_add, h0.cellAt (i * 2 + 1) (by omega)]; exact (labCells_get ls i hi).2
theorem LRow.box {B : Nat} {w : World} {v : Value} {ls : List Lab} (h : LRow B w v ls) : PairBox B w.heap.size w v ls.length := by
  have h0 := h
  rcases h.2 with ⟨rfl, hn⟩ | ⟨g, cap, cur, rfl, hb, hg, hnc, _⟩
  · exact ⟨none, 0, by rw [hn], Or.inl hn⟩
  · refine ⟨_, _, rfl, Or.inr ⟨g, 0, rfl, hb, (Array.getElem?_eq_some_iff.1 hg).1, fun i hi => ⟨?_, ?_⟩⟩⟩
    · rw [Nat.zero_add, h0.cellAt i hi]
      exact ⟨_, List.getElem?_eq_getElem (by rw [labCells_length]; exact hi)⟩
    · exact h0.frozenAt _
theorem LRow.nil (B : Nat) (w : World) : LRow B w (.slice none 0 0) [] := World.ownsRow_nil _ _ _ _

theorem run_append_lab (w : World) (ty : TypeId) (base : Nat) (v : Value) (n : Nat) (xs : List Value) (hown : w.ownsRow base 111 2 v n xs) (b : Nat) (u0 u1 : Value)
    (hc0 : w.cell? ⟨b, 0, none⟩ = some u0) (hc1 : w.cell? ⟨b, 1, none⟩ = some u1) (o0 : u0.oneCell' = true) (o1 : u1.oneCell' = true) (hn : n ≤ 1073741824) (hbase : base ≤ w.heap.size) :
    ∃ v' w', (Builtin.append_ #[59, 59] ty #[v, .slice (some ⟨b, 0, none⟩) 1 1]).run Try.prog w = .ok v' w' ∧ w'.ownsRow base 111 2 v' (n + 1) (xs ++ [u0, u1]) ∧ w.grownBy w' v.ownBlock := by
  obtain ⟨i, hi, hzz⟩ := Option.map_eq_some_iff.1 Try.infoLab
  simp only [Prod.mk.injEq] at hzz
  obtain ⟨hz, hs, hby⟩ := hzz
  obtain ⟨v', w', hr, h2, h3, _⟩ := run_append_own (P := Try.prog) w base 59 ty 111 i _ 2 16 Try.underlying59 hi hz hs hby rfl (by omega) v n xs hown ⟨b, 0, none⟩ 1 1 [u0, u1]
    rfl (fun j u hj => by
      match j, hj with
      | 0, hj => simp only [List.getElem?_cons_zero, Option.some.injEq] at hj; subst hj; exact hc0
      | 1, hj => simp only [List.getElem?_cons_succ, List.getElem?_cons_zero, Option.some.injEq] at hj; subst hj; exact hc1
      | (j + 2), hj => simp at hj) (fun u hu => by
      simp only [List.mem_cons, List.not_mem_nil, or_false] at hu
      rcases hu with rfl | rfl
      · exact o0
      · exact o1) (by unfold maxLen; omega) (by omega) hbase
  exact ⟨v', w', hr, h2, h3⟩

theorem wp_append_lab {o : Oper} {a : Act} {w : World} {K : Act → World → Prop} {Q : Exit → Act → World → Prop} (s x : Operand)
    (ho : o.op = .call { callee := .builtin .append, args := #[s, x], argTypes := #[59, 59] })
    (base : Nat) (v : Value) (ls : List Lab) (hs : a.eval s = v) (hown : LRow base w v ls) (b : Nat) (z : Int) (u : Bool) (hx : a.eval x = .slice (some ⟨b, 0, none⟩) 1 1)
    (hc0 : w.cell? ⟨b, 0, none⟩ = some (.int .i64 z)) (hc1 : w.cell? ⟨b, 1, none⟩ = some (.bool u)) (hn : ls.length ≤ 1073741824) (hbase : base ≤ w.heap.size)
    (h : ∀ v' w', LRow base w' v' (ls ++ [(z, u)]) → w.grownBy w' v.ownBlock → K (a.put o.dst v') w') : o.wp Try.prog a w K Q := by
  obtain ⟨v', w', hr, h2, h3⟩ := run_append_lab w o.type base v _ _ hown b _ _ hc0 hc1 rfl rfl hn hbase
  unfold Oper.wp execOp
  simp only [ho, resolve, invoke, builtin, Sem.run_bind, Sem.run_pure, Result.andThen_ok, List.map_toArray, List.map_cons, List.map_nil, hs, hx, hr]
  refine h v' w' ?_ h3
  show w'.ownsRow base _ 2 v' (ls ++ [(z, u)]).length (labCells (ls ++ [(z, u)]))
  rw [labCells_append, List.length_append]
  exact h2
theorem wpList_append_lab {ops : Array Oper} {rest : List Oper} {o : Oper} {a : Act} {w : World} {Q : Exit → Act → World → Prop} (hgd : o.guard = none) (s x : Operand)
    (ho : o.op = .call { callee := .builtin .append, args := #[s, x], argTypes := #[59, 59] })
    (base : Nat) (v : Value) (ls : List Lab) (hs : a.eval s = v) (hown : LRow base w v ls) (b : Nat) (z : Int) (u : Bool) (hx : a.eval x = .slice (some ⟨b, 0, none⟩) 1 1)
    (hc0 : w.cell? ⟨b, 0, none⟩ = some (.int .i64 z)) (hc1 : w.cell? ⟨b, 1, none⟩ = some (.bool u)) (hn : ls.length ≤ 1073741824) (hbase : base ≤ w.heap.size)
    (h : ∀ v' w', LRow base w' v' (ls ++ [(z, u)]) → w.grownBy w' v.ownBlock → wpList Try.prog ops Q rest (a.put o.dst v') w') : wpList Try.prog ops Q (o :: rest) a w :=
  wpList_plain hgd fun _ hK => wp_append_lab s x ho base v ls hs hown b z u hx hc0 hc1 hn hbase fun v' w' h2 h3 => hK _ _ (h v' w' h2 h3)

/-- what the labels hold behind the marks from k on -/
def markedLabs (k : Int) (n : Nat) : List Lab := (List.range n).map fun (i : Nat) => (k + 2 * (i : Int), ((k + 2 * (i : Int) + 1) % 3 == 0))
theorem markedLabs_length (k : Int) (n : Nat) : (markedLabs k n).length = n := by simp [markedLabs]
theorem markedLabs_S {k : Int} {n i : Nat} (h : i < n) : lbS (markedLabs k n) i = k + 2 * (i : Int) := by simp [markedLabs, lbS, List.getD, h]
theorem markedLabs_U {k : Int} {n i : Nat} (h : i < n) : lbU (markedLabs k n) i = ((k + 2 * (i : Int) + 1) % 3 == 0) := by simp [markedLabs, lbU, List.getD, h]

set_option maxRecDepth 100000 in
set_option maxHeartbeats 1000000 in
theorem markLabelS_at (v : Value) (n : Nat) (k : Int) (w : World) (lo hi : Nat) (hv : PairBox lo hi w v n) (hc : ∃ ao cap, v = .slice ao n cap ∧ n ≤ cap) (hn : n ≤ 1048576) (h0 : 0 ≤ k) (h1 : k ≤ 109951162777600) :
    Calls Try.prog 51 #[v, .int .i64 k] w (fun e w' => e = .returned (.int .i64 (k + 2 * (n : Int))) ∧ Stir lo hi w w' ∧ LabsAt lo w' v (markedLabs k n)) := by
  obtain ⟨ao, cap, rfl, hcap⟩ := hc
  have HB := Lib.hid hv; clear hv
  go_enter Try.func51, Try.ntmps51
  go_wp2_with fail
  go_loopw [1, 5] (fun kv i wr => ∃ j : Nat, j ≤ n ∧ i = .int .i64 j ∧ kv = .int .i64 (k + 2 * (j : Int)) ∧ Stir lo hi w wr ∧ Hid (PairBox lo hi wr (.slice ao n cap) n) ∧ Hid (∀ b off, ao = some ⟨b, off, none⟩ → ∀ q, q < j → wr.cell? ⟨b, off + q * 2, none⟩ = some (.int .i64 (lbS (markedLabs k n) q)) ∧ wr.cell? ⟨b, off + q * 2 + 1, none⟩ = some (.bool (lbU (markedLabs k n) q)))) (fun _ i _ => n - (intOf i).toNat)
  case atStart => exact ⟨0, Nat.zero_le _, rfl, by simp, Stir.refl _ _ _, HB.out, fun _ _ _ q hq => absurd hq (Nat.not_lt_zero _)⟩
  case round =>
    obtain ⟨j, hj, rfl, rfl, hm, hbox, hex⟩ := hrel
    by_cases hlt : j < n
    · obtain ⟨a, c, e, hz⟩ := id hbox.out
      simp only [Value.slice.injEq, true_and] at e
      obtain ⟨rfl, rfl⟩ := e
      rcases hz with h | ⟨b, off, rfl, hlo, hhi, hcell⟩
      · omega
      obtain ⟨⟨u0, c0⟩, f0⟩ := hcell (j * 2) (by omega)
      obtain ⟨⟨u1, c1⟩, f1⟩ := hcell (j * 2 + 1) (by omega)
      rw [← Nat.add_assoc] at c1 f1
      clear hcell
      have HM3 := Lib.hid (fun (u : Value) => (hm.set (p := ⟨b, off + j * 2, none⟩) hlo hhi (.int .i64 (k + 2 * (j : Int)))).set (p := ⟨b, off + j * 2 + 1, none⟩) hlo hhi u)
      have HB3 := Lib.hid (fun (u : Value) => (hbox.out.set ⟨b, off + j * 2, none⟩ (.int .i64 (k + 2 * (j : Int)))).set ⟨b, off + j * 2 + 1, none⟩ u)
      have HE3 : Hid (∀ u, u = ((k + 2 * (j : Int) + 1) % 3 == 0) → ∀ b' off', some (⟨b, off, none⟩ : Addr) = some ⟨b', off', none⟩ → ∀ q, q < j + 1 → ((wr.setCell ⟨b, off + j * 2, none⟩ (.int .i64 (k + 2 * (j : Int)))).setCell ⟨b, off + j * 2 + 1, none⟩ (.bool u)).cell? ⟨b', off' + q * 2, none⟩ = some (.int .i64 (lbS (markedLabs k n) q)) ∧ ((wr.setCell ⟨b, off + j * 2, none⟩ (.int .i64 (k + 2 * (j : Int)))).setCell ⟨b, off + j * 2 + 1, none⟩ (.bool u)).cell? ⟨b', off' + q * 2 + 1, none⟩ = some (.bool (lbU (markedLabs k n) q))) := by
        intro u hu b' off' he q hq
        obtain ⟨rfl, rfl⟩ : b = b' ∧ off = off' := by simpa using he
        have m1 : (wr.setCell ⟨b, off + j * 2, none⟩ (.int .i64 (k + 2 * (j : Int)))).cell? ⟨b, off + j * 2 + 1, none⟩ = some u1 := (World.cell?_setCell_other _ _ _ _ (by intro h; injection h with h1 h2 h3; omega)).trans c1
        by_cases e : q = j
        · subst e
          rw [markedLabs_S hlt, markedLabs_U hlt, ← hu]
          exact ⟨(World.cell?_setCell_other _ _ _ _ (by intro h; injection h with h1 h2 h3; omega)).trans (World.cell?_setCell_same _ _ _ c0), World.cell?_setCell_same _ _ _ m1⟩
        · obtain ⟨q0, q1⟩ := hex.out b off rfl q (by omega)
          exact ⟨(World.cell?_setCell_other _ _ _ _ (by intro h; injection h with h1 h2 h3; omega)).trans ((World.cell?_setCell_other _ _ _ _ (by intro h; injection h with h1 h2 h3; omega)).trans q0),
            (World.cell?_setCell_other _ _ _ _ (by intro h; injection h with h1 h2 h3; omega)).trans ((World.cell?_setCell_other _ _ _ _ (by intro h; injection h with h1 h2 h3; omega)).trans q1)⟩
      clear hm hbox hex
      go_wp2_with fail
      go_roundw
      case rel =>
        exact ⟨j + 1, by omega, by go_num, by simp; omega, HM3.out _, HB3.out _, HE3.out _ rfl⟩
      case measure => simp [intOf]; omega
    · have hjj : j = n := by omega
      subst hjj
      have HX := Lib.hid hex.out; clear hex
      have HBB := Lib.hid hbox.out; clear hbox
      go_wp2_with fail
      go_ret
      refine ⟨rfl, hm, ao, cap, by rw [markedLabs_length], by rw [markedLabs_length]; exact hcap, ?_⟩
      rw [markedLabs_length]
      obtain ⟨a, c, e, hz⟩ := HBB.out
      simp only [Value.slice.injEq, true_and] at e
      obtain ⟨rfl, rfl⟩ := e
      rcases hz with h | ⟨b, off, rfl, hlo, hhi, _⟩
      · exact Or.inl h
      · exact Or.inr ⟨b, off, rfl, hlo, fun i hi => HX.out b off rfl i hi⟩

set_option maxRecDepth 100000 in
set_option maxHeartbeats 1000000 in
theorem heldLabelS_any (v : Value) (n : Nat) (k : Int) (w : World) (lo : Nat) (hv : LabsAt lo w v (markedLabs k n)) (hn : n ≤ 1048576) (h0 : 0 ≤ k) (h1 : k ≤ 109951162777600) :
    Calls Try.prog 52 #[v, .int .i64 k] w (RetV w (.int .i64 (k + 2 * (n : Int)))) := by
  obtain ⟨ao, cap, rfl, hc, hz⟩ := hv
  rw [markedLabs_length] at hz hc ⊢
  have HF := Lib.hid hz; clear hz hc
  go_enter Try.func52, Try.ntmps52
  go_wp2_with fail
  go_loopw [1, 5] (fun kv i wr => ∃ j : Nat, j ≤ n ∧ i = .int .i64 j ∧ kv = .int .i64 (k + 2 * (j : Int)) ∧ Below w.heap.size w wr) (fun _ i _ => n - (intOf i).toNat)
  case atStart => exact ⟨0, Nat.zero_le _, rfl, by simp, Below.refl _ _⟩
  case round =>
    obtain ⟨j, hj, rfl, rfl, hb1⟩ := hrel
    by_cases hlt : j < n
    · rcases HF.out with h | ⟨b, off, rfl, hlo, hcell⟩
      · omega
      obtain ⟨c0, c1⟩ := hcell j hlt
      try dsimp only at c0 c1
      rw [markedLabs_S hlt] at c0
      rw [markedLabs_U hlt] at c1
      have d0 := Carries.of lo hb1 _ _ hlo c0
      have d1 := Carries.of lo hb1 _ _ hlo c1
      clear hcell c0 c1
      have hne : (k + 2 * (j : Int) != k + 2 * (j : Int)) = false := by simp
      go_wp2_with fail
      go_roundw
      case rel => exact ⟨j + 1, by omega, by go_num, by simp; omega, by first | exact hb1 | exact below_drewN hb1 _ | exact hb1.drew⟩
      case measure => simp [intOf]; omega
    · have hjj : j = n := by omega
      subst hjj
      go_wp2_with fail
      go_ret
      exact ⟨rfl, hb1⟩

end Go.Proofs.Ytlakcjcmbhkcdaa
