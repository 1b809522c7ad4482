/- ROWS OF ARCS of the call's own: append of one arc; what they read as; boxes, marks. -/
import Derived.Test.YtfipnlehaklepaaVSgm
import Derived.Test.YtfipnlehaklepaaVSgp
import Derived.Deep.RegionHeld3
namespace Go.Proofs.Ytfipnlehaklepaa
open Go.RowKit

def arCells : List Ar → List Value
  | [] => []
  | m :: ms => .int .i64 m.1 :: .int .i64 m.2.1 :: .bool m.2.2.1 :: .int .i64 m.2.2.2 :: arCells ms
theorem arCells_length : ∀ ms : List Ar, (arCells ms).length = ms.length * 4
  | [] => rfl
  | m :: ms => by simp only [arCells, List.length_cons, arCells_length ms]; omega
theorem arCells_append : ∀ a b : List Ar, arCells (a ++ b) = arCells a ++ arCells b
  | [], _ => rfl
  | m :: ms, b => by simp only [List.cons_append, arCells, arCells_append ms b]
theorem arCells_get : ∀ (ms : List Ar) (i : Nat), i < ms.length → (arCells ms)[i * 4]? = some (.int .i64 (arF ms i)) ∧ (arCells ms)[i * 4 + 1]? = some (.int .i64 (arS ms i)) ∧ (arCells ms)[i * 4 + 2]? = some (.bool (arU ms i)) ∧ (arCells ms)[i * 4 + 3]? = some (.int .i64 (arT ms i))
  | [], i, h => absurd h (Nat.not_lt_zero _)
  | m :: ms, 0, _ => ⟨rfl, rfl, rfl, rfl⟩
  | m :: ms, i + 1, h => by
    have ih := arCells_get ms i (by simpa using h)
    have e1 : (i + 1) * 4 = i * 4 + 4 := by omega
    have s1 : arF (m :: ms) (i + 1) = arF ms i := by simp [arF]
    have s2 : arS (m :: ms) (i + 1) = arS ms i := by simp [arS]
    have s3 : arU (m :: ms) (i + 1) = arU ms i := by simp [arU]
    have s4 : arT (m :: ms) (i + 1) = arT ms i := by simp [arT]
    rw [e1, s1, s2, s3, s4]
    exact ⟨ih.1, ih.2.1, ih.2.2.1, ih.2.2.2⟩

abbrev ARow (B : Nat) (w : World) (v : Value) (ms : List Ar) : Prop := w.ownsRow B 101 4 v ms.length (arCells ms)
theorem ARow.form {B : Nat} {w : World} {v : Value} {ms : List Ar} (h : ARow B w v ms) : ∃ a c, v = .slice a ms.length c := by
  rcases h.2 with ⟨rfl, hn⟩ | ⟨g, cap, cur, rfl, _⟩
  · exact ⟨none, 0, by rw [hn]⟩
  · exact ⟨_, _, rfl⟩
theorem ARow.at {B : Nat} {w : World} {v : Value} {ms : List Ar} (h : ARow B w v ms) : ArcsAt B w v ms := by
  have h0 := h
  rcases h.2 with ⟨rfl, hn⟩ | ⟨g, cap, cur, rfl, hb, hg, hnc, _⟩
  · exact ⟨none, 0, by rw [hn], by omega, Or.inl hn⟩
  · refine ⟨_, _, rfl, hnc, Or.inr ⟨g, 0, rfl, hb, fun i hi => ⟨?_, ?_, ?_, ?_⟩⟩⟩
    · rw [Nat.zero_add, h0.cellAt (i * 4) (by omega)]; exact (arCells_get ms i hi).1
    · rw [Nat.zero_add, h0.cellAt (i * 4 + 1) (by omega)]; exact (arCells_get ms i hi).2.1
    · rw [Nat.zero_add, h0.cellAt (i * 4 + 2) (by omega)]; exact (arCells_get ms i hi).2.2.1
    · rw [Nat.zero_add, h0.cellAt (i * 4 + 3) (by omega)]; exact (arCells_get ms i hi).2.2.2
theorem ARow.box {B : Nat} {w : World} {v : Value} {ms : List Ar} (h : ARow B w v ms) : CellBox B w.heap.size w v ms.length 4 := by
  have h0 := h
  rcases h.2 with ⟨rfl, hn⟩ | ⟨g, cap, cur, rfl, hb, hg, hnc, _⟩
  · exact ⟨none, 0, by rw [hn], Or.inl hn⟩
  · refine ⟨_, _, rfl, Or.inr ⟨g, 0, rfl, hb, (Array.getElem?_eq_some_iff.1 hg).1, fun i hi => ⟨?_, ?_⟩⟩⟩
    · rw [Nat.zero_add, h0.cellAt i hi]
      exact ⟨_, List.getElem?_eq_getElem (by rw [arCells_length]; exact hi)⟩
    · exact h0.frozenAt _
theorem ARow.nil (B : Nat) (w : World) : ARow B w (.slice none 0 0) [] := World.ownsRow_nil _ _ _ _
theorem ARow.stir {B l k : Nat} {w w' : World} {v : Value} {ms : List Ar} (h : ARow B w v ms) (hs : Stir l k w w') (hk : k ≤ B) : ARow B w' v ms := by
  refine ⟨h.1, ?_⟩
  rcases h.2 with hn | ⟨g, cap, cur, rfl, hb, hg, rest⟩
  · exact Or.inl hn
  · exact Or.inr ⟨g, cap, cur, rfl, hb, (hs.block g (Array.getElem?_eq_some_iff.1 hg).1 (Or.inr (by omega))).trans hg, rest⟩
theorem ARow.cap {B : Nat} {w : World} {v : Value} {ms : List Ar} (h : ARow B w v ms) : ∃ a c, v = .slice a ms.length c ∧ ms.length ≤ c := by
  obtain ⟨a, c, rfl, hc, _⟩ := h.at
  exact ⟨a, c, rfl, hc⟩
theorem ARow.low {B B' : Nat} {w : World} {v : Value} {ms : List Ar} (h : ARow B w v ms) (hB : B' ≤ B) : ARow B' w v ms := by
  refine ⟨h.1, ?_⟩
  rcases h.2 with hn | ⟨g, cap, cur, rfl, hb, rest⟩
  · exact Or.inl hn
  · exact Or.inr ⟨g, cap, cur, rfl, Nat.le_trans hB hb, rest⟩

theorem run_append_ar (w : World) (ty : TypeId) (base : Nat) (v : Value) (n : Nat) (xs : List Value) (hown : w.ownsRow base 101 4 v n xs) (b : Nat) (u0 u1 u2 u3 : Value)
    (hc0 : w.cell? ⟨b, 0, none⟩ = some u0) (hc1 : w.cell? ⟨b, 1, none⟩ = some u1) (hc2 : w.cell? ⟨b, 2, none⟩ = some u2) (hc3 : w.cell? ⟨b, 3, none⟩ = some u3) (o0 : u0.oneCell' = true) (o1 : u1.oneCell' = true) (o2 : u2.oneCell' = true) (o3 : u3.oneCell' = true) (hn : n ≤ 1073741824) (hbase : base ≤ w.heap.size) :
    ∃ v' w', (Builtin.append_ #[30, 30] ty #[v, .slice (some ⟨b, 0, none⟩) 1 1]).run Try.prog w = .ok v' w' ∧ w'.ownsRow base 101 4 v' (n + 1) (xs ++ [u0, u1, u2, u3]) ∧ w.grownBy w' v.ownBlock := by
  obtain ⟨i, hi, hzz⟩ := Option.map_eq_some_iff.1 Try.infoAr
  simp only [Prod.mk.injEq] at hzz
  obtain ⟨hz, hs, hby⟩ := hzz
  obtain ⟨v', w', hr, h2, h3, _⟩ := run_append_own (P := Try.prog) w base 30 ty 101 i _ 4 32 Try.underlying30 hi hz hs hby rfl (by omega) v n xs hown ⟨b, 0, none⟩ 1 1 [u0, u1, u2, u3]
    rfl (fun j u hj => by
      match j, hj with
      | 0, hj => simp only [List.getElem?_cons_zero, Option.some.injEq] at hj; subst hj; exact hc0
      | 1, hj => simp only [List.getElem?_cons_succ, List.getElem?_cons_zero, Option.some.injEq] at hj; subst hj; exact hc1
      | 2, hj => simp only [List.getElem?_cons_succ, List.getElem?_cons_zero, Option.some.injEq] at hj; subst hj; exact hc2
      | 3, hj => simp only [List.getElem?_cons_succ, List.getElem?_cons_zero, Option.some.injEq] at hj; subst hj; exact hc3
      | (j + 4), hj => simp at hj) (fun u hu => by
      simp only [List.mem_cons, List.not_mem_nil, or_false] at hu
      rcases hu with rfl | rfl | rfl | rfl
      · exact o0
      · exact o1
      · exact o2
      · exact o3) (by unfold maxLen; omega) (by omega) hbase
  exact ⟨v', w', hr, h2, h3⟩

theorem wp_append_ar {o : Oper} {a : Act} {w : World} {K : Act → World → Prop} {Q : Exit → Act → World → Prop} (s x : Operand)
    (ho : o.op = .call { callee := .builtin .append, args := #[s, x], argTypes := #[30, 30] })
    (base : Nat) (v : Value) (ls : List Ar) (hs : a.eval s = v) (hown : ARow base w v ls) (b : Nat) (m : Ar) (hx : a.eval x = .slice (some ⟨b, 0, none⟩) 1 1)
    (hc0 : w.cell? ⟨b, 0, none⟩ = some (.int .i64 m.1)) (hc1 : w.cell? ⟨b, 1, none⟩ = some (.int .i64 m.2.1)) (hc2 : w.cell? ⟨b, 2, none⟩ = some (.bool m.2.2.1)) (hc3 : w.cell? ⟨b, 3, none⟩ = some (.int .i64 m.2.2.2)) (hn : ls.length ≤ 1073741824) (hbase : base ≤ w.heap.size)
    (h : ∀ v' w', ARow base w' v' (ls ++ [m]) → w.grownBy w' v.ownBlock → K (a.put o.dst v') w') : o.wp Try.prog a w K Q := by
  obtain ⟨v', w', hr, h2, h3⟩ := run_append_ar w o.type base v _ _ hown b _ _ _ _ hc0 hc1 hc2 hc3 rfl rfl rfl rfl hn hbase
  unfold Oper.wp execOp
  simp only [ho, resolve, invoke, builtin, Sem.run_bind, Sem.run_pure, Result.andThen_ok, List.map_toArray, List.map_cons, List.map_nil, hs, hx, hr]
  refine h v' w' ?_ h3
  show w'.ownsRow base _ 4 v' (ls ++ [m]).length (arCells (ls ++ [m]))
  rw [arCells_append, List.length_append]
  exact h2
theorem wpList_append_ar {ops : Array Oper} {rest : List Oper} {o : Oper} {a : Act} {w : World} {Q : Exit → Act → World → Prop} (hgd : o.guard = none) (s x : Operand)
    (ho : o.op = .call { callee := .builtin .append, args := #[s, x], argTypes := #[30, 30] })
    (base : Nat) (v : Value) (ls : List Ar) (hs : a.eval s = v) (hown : ARow base w v ls) (b : Nat) (m : Ar) (hx : a.eval x = .slice (some ⟨b, 0, none⟩) 1 1)
    (hc0 : w.cell? ⟨b, 0, none⟩ = some (.int .i64 m.1)) (hc1 : w.cell? ⟨b, 1, none⟩ = some (.int .i64 m.2.1)) (hc2 : w.cell? ⟨b, 2, none⟩ = some (.bool m.2.2.1)) (hc3 : w.cell? ⟨b, 3, none⟩ = some (.int .i64 m.2.2.2)) (hn : ls.length ≤ 1073741824) (hbase : base ≤ w.heap.size)
    (h : ∀ v' w', ARow base w' v' (ls ++ [m]) → w.grownBy w' v.ownBlock → wpList Try.prog ops Q rest (a.put o.dst v') w') : wpList Try.prog ops Q (o :: rest) a w :=
  wpList_plain hgd fun _ hK => wp_append_ar s x ho base v ls hs hown b m hx hc0 hc1 hc2 hc3 hn hbase fun v' w' h2 h3 => hK _ _ (h v' w' h2 h3)

/-- the marks k, k + 1, .. are written into a row of arcs -/
theorem markArcs_row (v : Value) (ms : List Ar) (k : Int) (w : World) (B : Nat) (h : ARow B w v ms) (hn : ms.length ≤ 1048576) (h0 : 0 ≤ k) (h1 : k ≤ 109951162777600) :
    Calls Try.prog 21 #[v, .int .i64 k] w (fun e w' => e = .returned (.int .i64 (k + 4 * (ms.length : Int))) ∧ Stir B w.heap.size w w' ∧ ArcsAt B w' v (upArcs k ms.length)) := by
  have hat := h.at
  refine (markArcS_any v ms.length k w B w.heap.size h.box hn h0 h1).mono fun e w' ⟨he, hs, hx⟩ => ⟨he, hs, ?_⟩
  obtain ⟨ao, cap, rfl, hc, hz⟩ := hat
  refine ⟨ao, cap, by rw [upArcs_length], by rw [upArcs_length]; exact hc, ?_⟩
  rw [upArcs_length]
  rcases hz with hz | ⟨b, off, rfl, hlo, hcell⟩
  · exact Or.inl hz
  · exact Or.inr ⟨b, off, rfl, hlo, fun i hi => hx b off cap rfl i hi⟩

set_option maxRecDepth 100000 in
set_option maxHeartbeats 1000000 in
theorem heldArcS_any (v : Value) (n : Nat) (k : Int) (w : World) (lo : Nat) (hv : ArcsAt lo w v (upArcs k n)) (hn : n ≤ 1048576) (h0 : 0 ≤ k) (h1 : k ≤ 109951162777600) :
    Calls Try.prog 22 #[v, .int .i64 k] w (RetV w (.int .i64 (k + 4 * (n : Int)))) := by
  obtain ⟨ao, cap, rfl, hc, hz⟩ := hv
  rw [upArcs_length] at hz ⊢
  have HF := Lib.hid hz; clear hz hc
  go_enter Try.func22, Try.ntmps22
  go_wp2_with fail
  go_loopw [1, 5] (fun kv i wr => ∃ j : Nat, j ≤ n ∧ i = .int .i64 j ∧ kv = .int .i64 (k + 4 * (j : Int)) ∧ Below w.heap.size w wr) (fun _ i _ => n - (intOf i).toNat)
  case atStart => exact ⟨0, Nat.zero_le _, rfl, by simp, Below.refl _ _⟩
  case round =>
    obtain ⟨j, hj, rfl, rfl, hb1⟩ := hrel
    by_cases hlt : j < n
    · rcases HF.out with h | ⟨b, off, rfl, hlo, hcell⟩
      · omega
      obtain ⟨q0, q1, q2, q3⟩ := hcell j hlt
      obtain ⟨p0, p1, p2, p3⟩ := upArcs_get (k := k) hlt
      simp only [p0] at q0
      simp only [p1] at q1
      simp only [p2] at q2
      simp only [p3] at q3
      have c0 := Carries.of lo hb1 _ _ hlo q0
      have c1 := Carries.of lo hb1 _ _ hlo q1
      have c2 := Carries.of lo hb1 _ _ hlo q2
      have c3 := Carries.of lo hb1 _ _ hlo q3
      have t0 : (k + 4 * (j : Int) != k + 4 * (j : Int)) = false := by simp
      have t1 : (k + 4 * (j : Int) + 1 != k + 4 * (j : Int) + 1) = false := by simp
      have t3 : (k + 4 * (j : Int) + 1 + 1 + 1 != k + 4 * (j : Int) + 1 + 1 + 1) = false := by simp
      have e2 : (k + 4 * (j : Int) + 1 + 1).tmod 3 = (k + 4 * (j : Int) + 1 + 1) % 3 := Int.tmod_eq_emod_of_nonneg (by omega)
      clear hcell q0 q1 q2 q3 p0 p1 p2 p3
      go_wp2_with fail
      go_roundw
      case rel => exact ⟨j + 1, by omega, by go_num, by simp; omega, by first | exact hb1 | (repeat' (first | (with_reducible exact Below.refl _ _) | (with_reducible assumption) | (with_reducible refine Below.alloc ?_ ?_ _) | (with_reducible refine Below.drew ?_) | (with_reducible refine below_drewN ?_ _) | (with_reducible refine Below.setCell ?_ ?_ _) | go_size)) | exact below_drewN hb1 _⟩
      case measure => simp [intOf]; omega
    · have hjj : j = n := by omega
      subst hjj
      go_wp2_with fail
      go_ret
      exact ⟨rfl, hb1⟩

theorem ArcsAt.bound {lo : Nat} {w : World} {v : Value} {ls : List Ar} (h : ArcsAt lo w v ls) : Bound w.heap.size v := by
  intro b off len cap hv hl
  obtain ⟨ao, cp, rfl, _, hz⟩ := h
  injection hv with h1 h2 h3
  rcases hz with hz | ⟨b', off', ha, hlo, hcell⟩
  · omega
  · rw [ha] at h1
    injection h1 with h1
    injection h1 with h1 h4 h5
    have := cell_old (hcell 0 (by omega)).1
    simp at this
    omega
theorem ArcsAt.stir {lo hi l k : Nat} {w w' : World} {v : Value} {ls : List Ar} (h : ArcsAt lo w v ls) (hB : Bound hi v) (hm : Stir l k w w') (hl : hi ≤ l) : ArcsAt lo w' v ls := by
  obtain ⟨ao, cap, rfl, hc, hz⟩ := h
  refine ⟨ao, cap, rfl, hc, ?_⟩
  rcases hz with hz | ⟨b, off, rfl, hlo, hcell⟩
  · exact Or.inl hz
  · by_cases h0 : ls.length = 0
    · exact Or.inl h0
    · have hbl := hB b off _ _ rfl (by omega)
      exact Or.inr ⟨b, off, rfl, hlo, fun i hi => ⟨hm.cell (Or.inl (by simp; omega)) (hcell i hi).1, hm.cell (Or.inl (by simp; omega)) (hcell i hi).2.1, hm.cell (Or.inl (by simp; omega)) (hcell i hi).2.2.1, hm.cell (Or.inl (by simp; omega)) (hcell i hi).2.2.2⟩⟩
theorem selfArcs (L : List Ar) : decide (L = L) = true := decide_eq_true rfl

/-! the arcs that leave a state -/
/-- of the first j arcs those that come from x -/
def leTo (ms : List Ar) (x : Int) (j : Nat) : List Ar := (ms.take j).filter (fun m => decide (m.1 = x))
theorem leTo_zero (ms : List Ar) (x : Int) : leTo ms x 0 = [] := by simp [leTo]
theorem leTo_yes {ms : List Ar} {x : Int} {j : Nat} (hj : j < ms.length) (h : arF ms j = x) : leTo ms x (j + 1) = leTo ms x j ++ [(arF ms j, arS ms j, arU ms j, arT ms j)] := by
  unfold leTo
  rw [List.take_succ_eq_append_getElem hj, List.filter_append, ← ar_getD hj, List.filter_cons_of_pos (by simpa using h), List.filter_nil]
theorem leTo_no {ms : List Ar} {x : Int} {j : Nat} (hj : j < ms.length) (h : ¬ arF ms j = x) : leTo ms x (j + 1) = leTo ms x j := by
  unfold leTo
  rw [List.take_succ_eq_append_getElem hj, List.filter_append, ← ar_getD hj, List.filter_cons_of_neg (by simpa using h), List.filter_nil, List.append_nil]
theorem leTo_length (ms : List Ar) (x : Int) (j : Nat) : (leTo ms x j).length ≤ j := by
  unfold leTo
  exact Nat.le_trans (List.length_filter_le _ _) (List.length_take_le _ _)
def leL (r : SgD) (x : Int) : List Ar := leTo r.arcs x r.arcs.length
def afB (r : SgD) (x : Int) : Bool := goodG r && decide (0 ≤ x ∧ x < (r.codes.length : Int))
def afL (r : SgD) (x : Int) : List Ar := if afB r x = true then leL r x else []
theorem afL_no {r : SgD} {x : Int} (h : afB r x = false) : afL r x = [] := by unfold afL; rw [h]; rfl
theorem afL_yes {r : SgD} {x : Int} (h : afB r x = true) : afL r x = leL r x := by unfold afL; rw [h]; rfl
theorem afL_small {r : SgD} {x : Int} (h : SmallSg r) : (afL r x).length ≤ 1048576 := by
  unfold afL
  by_cases hb : afB r x = true
  · rw [if_pos hb]; exact Nat.le_trans (leTo_length _ _ _) h.2.2
  · rw [if_neg hb]; exact Nat.zero_le _

/-- a call returns arcs of its own, and this bool; arcs of its own alone -/
def RetAr (w : World) (l : List Ar) (b : Bool) (e : Ending) (w' : World) : Prop := ∃ v, e = .returned (.tuple #[v, .bool b]) ∧ ARow w.heap.size w' v l ∧ Below w.heap.size w w'
def RetArO (w : World) (l : List Ar) (e : Ending) (w' : World) : Prop := ∃ v, e = .returned v ∧ ARow w.heap.size w' v l ∧ Below w.heap.size w w'

end Go.Proofs.Ytfipnlehaklepaa
