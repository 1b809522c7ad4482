/- ROWS OF VIOLATIONS (three ints each): eqPersistencyViolation(S), rows that the call owns, one more, marks. The texts on moves, turned by program (gpv.py).
   WALKS: cmp.Or of three ints, cmp.Compare of ints, compareViolations: two violations compared place by place.
   PLAIN PART: slices of quadruples of cells (arcs), a row of them that is filled from the front; a state graph as data. No program is named here. -/
import Derived.StillTailTactics
import Derived.Test.YtnmoocgocnjdjaaGreatVRgbt
import Derived.Test.YtnmoocgocnjdjaaGreatVOvk
import Derived.Test.YtnmoocgocnjdjaaGreatVApb
import Derived.Sort.Grow
import Derived.Test.YtnmoocgocnjdjaaGreatVSrt
import Derived.Test.YtnmoocgocnjdjaaGreatVNetb
import Derived.Test.YtnmoocgocnjdjaaGreatVSteps
namespace Go.Proofs.YtnmoocgocnjdjaaGreat
open Go.RowKit

theorem Tryz.infoPv : (Tryz.prog.info? 82).map (fun i => (i.zero, i.size, i.bytes)) = some (some (.agg #[.int .i64 0, .int .i64 0, .int .i64 0]), 3, 24) := by kernel_rfl

def pvCells : List Mv → List Value
  | [] => []
  | m :: ms => .int .i64 m.1 :: .int .i64 m.2.1 :: .int .i64 m.2.2 :: pvCells ms

theorem pvCells_length : ∀ ms : List Mv, (pvCells ms).length = ms.length * 3
  | [] => rfl
  | m :: ms => by simp only [pvCells, List.length_cons, pvCells_length ms]; omega

theorem pvCells_append : ∀ a b : List Mv, pvCells (a ++ b) = pvCells a ++ pvCells b
  | [], _ => rfl
  | m :: ms, b => by simp only [List.cons_append, pvCells, pvCells_append ms b]

theorem pvCells_get : ∀ (ms : List Mv) (i : Nat), i < ms.length → (pvCells ms)[i * 3]? = some (.int .i64 (mvF ms i)) ∧ (pvCells ms)[i * 3 + 1]? = some (.int .i64 (mvB ms i)) ∧ (pvCells ms)[i * 3 + 2]? = some (.int .i64 (mvT ms i))
  | [], i, h => absurd h (Nat.not_lt_zero _)
  | m :: ms, 0, _ => ⟨rfl, rfl, rfl⟩
  | m :: ms, i + 1, h => by
    have ih := pvCells_get ms i (by simpa using h)
    have e1 : (i + 1) * 3 = i * 3 + 3 := by omega
    have s1 : mvF (m :: ms) (i + 1) = mvF ms i := by simp [mvF]
    have s2 : mvB (m :: ms) (i + 1) = mvB ms i := by simp [mvB]
    have s3 : mvT (m :: ms) (i + 1) = mvT ms i := by simp [mvT]
    rw [e1, s1, s2, s3]
    exact ⟨ih.1, ih.2.1, ih.2.2⟩

abbrev PRow (B : Nat) (w : World) (v : Value) (ms : List Mv) : Prop := w.ownsRow B 82 3 v ms.length (pvCells ms)

theorem PRow.form {B : Nat} {w : World} {v : Value} {ms : List Mv} (h : PRow B w v ms) : ∃ a c, v = .slice a ms.length c := by
  rcases h.2 with ⟨rfl, hn⟩ | ⟨g, cap, cur, rfl, _⟩
  · exact ⟨none, 0, by rw [hn]⟩
  · exact ⟨_, _, rfl⟩

theorem PRow.at {B : Nat} {w : World} {v : Value} {ms : List Mv} (h : PRow B w v ms) : MovesAt B w v ms := by
  have h0 := h
  rcases h.2 with ⟨rfl, hn⟩ | ⟨g, cap, cur, rfl, hb, hg, hnc, _⟩
  · exact ⟨none, 0, by rw [hn], by omega, Or.inl hn⟩
  · refine ⟨_, _, rfl, hnc, Or.inr ⟨g, 0, rfl, hb, fun i hi => ⟨?_, ?_, ?_⟩⟩⟩
    · rw [Nat.zero_add, h0.cellAt (i * 3) (by omega)]; exact (pvCells_get ms i hi).1
    · rw [Nat.zero_add, h0.cellAt (i * 3 + 1) (by omega)]; exact (pvCells_get ms i hi).2.1
    · rw [Nat.zero_add, h0.cellAt (i * 3 + 2) (by omega)]; exact (pvCells_get ms i hi).2.2

theorem PRow.box {B : Nat} {w : World} {v : Value} {ms : List Mv} (h : PRow B w v ms) : CellBox B w.heap.size w v ms.length 3 := by
  have h0 := h
  rcases h.2 with ⟨rfl, hn⟩ | ⟨g, cap, cur, rfl, hb, hg, hnc, _⟩
  · exact ⟨none, 0, by rw [hn], Or.inl hn⟩
  · refine ⟨_, _, rfl, Or.inr ⟨g, 0, rfl, hb, (Array.getElem?_eq_some_iff.1 hg).1, fun i hi => ⟨?_, ?_⟩⟩⟩
    · rw [Nat.zero_add, h0.cellAt i hi]
      exact ⟨_, List.getElem?_eq_getElem (by rw [pvCells_length]; exact hi)⟩
    · exact h0.frozenAt _

theorem PRow.nil (B : Nat) (w : World) : PRow B w (.slice none 0 0) [] := World.ownsRow_nil _ _ _ _

theorem PRow.low {B B' : Nat} {w : World} {v : Value} {ms : List Mv} (h : PRow B w v ms) (hB : B' ≤ B) : PRow B' w v ms := Go.Joins.ownsRow_le h hB

theorem PRow.stir {B l k : Nat} {w w' : World} {v : Value} {ms : List Mv} (h : PRow B w v ms) (hs : Stir l k w w') (hk : k ≤ B) : PRow B w' v ms := by
  refine ⟨h.1, ?_⟩
  rcases h.2 with hn | ⟨g, cap, cur, rfl, hb, hg, rest⟩
  · exact Or.inl hn
  · exact Or.inr ⟨g, cap, cur, rfl, hb, (hs.block g (Array.getElem?_eq_some_iff.1 hg).1 (Or.inr (by omega))).trans hg, rest⟩

theorem PRow.cap {B : Nat} {w : World} {v : Value} {ms : List Mv} (h : PRow B w v ms) : ∃ a c, v = .slice a ms.length c ∧ ms.length ≤ c := by
  obtain ⟨a, c, rfl, hc, _⟩ := h.at
  exact ⟨a, c, rfl, hc⟩

theorem run_append_pv (w : World) (ty : TypeId) (base : Nat) (v : Value) (n : Nat) (xs : List Value) (hown : w.ownsRow base 82 3 v n xs) (b : Nat) (u0 u1 u2 : Value)
    (hc0 : w.cell? ⟨b, 0, none⟩ = some u0) (hc1 : w.cell? ⟨b, 1, none⟩ = some u1) (hc2 : w.cell? ⟨b, 2, none⟩ = some u2) (o0 : u0.oneCell' = true) (o1 : u1.oneCell' = true) (o2 : u2.oneCell' = true) (hn : n ≤ 1073741824) (hbase : base ≤ w.heap.size) :
    ∃ v' w', (Builtin.append_ #[133, 133] ty #[v, .slice (some ⟨b, 0, none⟩) 1 1]).run Tryz.prog w = .ok v' w' ∧ w'.ownsRow base 82 3 v' (n + 1) (xs ++ [u0, u1, u2]) ∧ w.grownBy w' v.ownBlock := by
  obtain ⟨i, hi, hzz⟩ := Option.map_eq_some_iff.1 Tryz.infoPv
  simp only [Prod.mk.injEq] at hzz
  obtain ⟨hz, hs, hby⟩ := hzz
  obtain ⟨v', w', hr, h2, h3, _⟩ := run_append_own (P := Tryz.prog) w base 133 ty 82 i _ 3 24 Tryz.underlying133 hi hz hs hby rfl (by omega) v n xs hown ⟨b, 0, none⟩ 1 1 [u0, u1, u2]
    rfl (fun j u hj => by
      match j, hj with
      | 0, hj => simp only [List.getElem?_cons_zero, Option.some.injEq] at hj; subst hj; exact hc0
      | 1, hj => simp only [List.getElem?_cons_succ, List.getElem?_cons_zero, Option.some.injEq] at hj; subst hj; exact hc1
      | 2, hj => simp only [List.getElem?_cons_succ, List.getElem?_cons_zero, Option.some.injEq] at hj; subst hj; exact hc2
      | (j + 3), hj => simp at hj) (fun u hu => by
      simp only [List.mem_cons, List.not_mem_nil, or_false] at hu
      rcases hu with rfl | rfl | rfl
      · exact o0
      · exact o1
      · exact o2) (by unfold maxLen; omega) (by omega) hbase
  exact ⟨v', w', hr, h2, h3⟩

theorem wp_append_pv {o : Oper} {a : Act} {w : World} {K : Act → World → Prop} {Q : Exit → Act → World → Prop} (s x : Operand)
    (ho : o.op = .call { callee := .builtin .append, args := #[s, x], argTypes := #[133, 133] })
    (base : Nat) (v : Value) (ls : List Mv) (hs : a.eval s = v) (hown : PRow base w v ls) (b : Nat) (m : Mv) (hx : a.eval x = .slice (some ⟨b, 0, none⟩) 1 1)
    (hc0 : w.cell? ⟨b, 0, none⟩ = some (.int .i64 m.1)) (hc1 : w.cell? ⟨b, 1, none⟩ = some (.int .i64 m.2.1)) (hc2 : w.cell? ⟨b, 2, none⟩ = some (.int .i64 m.2.2)) (hn : ls.length ≤ 1073741824) (hbase : base ≤ w.heap.size)
    (h : ∀ v' w', PRow base w' v' (ls ++ [m]) → w.grownBy w' v.ownBlock → K (a.put o.dst v') w') : o.wp Tryz.prog a w K Q := by
  obtain ⟨v', w', hr, h2, h3⟩ := run_append_pv w o.type base v _ _ hown b _ _ _ hc0 hc1 hc2 rfl rfl rfl hn hbase
  unfold Oper.wp execOp
  simp only [ho, resolve, invoke, builtin, Sem.run_bind, Sem.run_pure, Result.andThen_ok, List.map_toArray, List.map_cons, List.map_nil, hs, hx, hr]
  refine h v' w' ?_ h3
  show w'.ownsRow base _ 3 v' (ls ++ [m]).length (pvCells (ls ++ [m]))
  rw [pvCells_append, List.length_append]
  exact h2

theorem wpList_append_pv {ops : Array Oper} {rest : List Oper} {o : Oper} {a : Act} {w : World} {Q : Exit → Act → World → Prop} (hgd : o.guard = none) (s x : Operand)
    (ho : o.op = .call { callee := .builtin .append, args := #[s, x], argTypes := #[133, 133] })
    (base : Nat) (v : Value) (ls : List Mv) (hs : a.eval s = v) (hown : PRow base w v ls) (b : Nat) (m : Mv) (hx : a.eval x = .slice (some ⟨b, 0, none⟩) 1 1)
    (hc0 : w.cell? ⟨b, 0, none⟩ = some (.int .i64 m.1)) (hc1 : w.cell? ⟨b, 1, none⟩ = some (.int .i64 m.2.1)) (hc2 : w.cell? ⟨b, 2, none⟩ = some (.int .i64 m.2.2)) (hn : ls.length ≤ 1073741824) (hbase : base ≤ w.heap.size)
    (h : ∀ v' w', PRow base w' v' (ls ++ [m]) → w.grownBy w' v.ownBlock → wpList Tryz.prog ops Q rest (a.put o.dst v') w') : wpList Tryz.prog ops Q (o :: rest) a w :=
  wpList_plain hgd fun _ hK => wp_append_pv s x ho base v ls hs hown b m hx hc0 hc1 hc2 hn hbase fun v' w' h2 h3 => hK _ _ (h v' w' h2 h3)

/-- (k, k + 1, k + 2), (k + 3, ..), .. -/
def upPVs (k : Int) (n : Nat) : List Mv := (List.range n).map fun (i : Nat) => (k + 3 * (i : Int), k + 3 * (i : Int) + 1, k + 3 * (i : Int) + 1 + 1)

theorem upPVs_length (k : Int) (n : Nat) : (upPVs k n).length = n := by simp [upPVs]

theorem upPVs_get {k : Int} {n i : Nat} (h : i < n) : mvF (upPVs k n) i = k + 3 * (i : Int) ∧ mvB (upPVs k n) i = k + 3 * (i : Int) + 1 ∧ mvT (upPVs k n) i = k + 3 * (i : Int) + 1 + 1 := by
  simp [mvF, mvB, mvT, upPVs, List.getD, h]

theorem PVsAt_bound {lo : Nat} {w : World} {v : Value} {ls : List Mv} (h : MovesAt lo w v ls) : Bound w.heap.size v := by
  intro b off len cap hv hl
  obtain ⟨ao, cp, rfl, _, hz⟩ := h
  injection hv with h1 h2 h3
  rcases hz with hz | ⟨b', off', ha, hlo, hcell⟩
  · omega
  · rw [ha] at h1
    injection h1 with h1
    injection h1 with h1 h4 h5
    have := cell_old (hcell 0 (by omega)).1
    simp at this
    omega

theorem PVsAt_stir {lo hi l k : Nat} {w w' : World} {v : Value} {ls : List Mv} (h : MovesAt lo w v ls) (hB : Bound hi v) (hm : Stir l k w w') (hl : hi ≤ l) : MovesAt lo w' v ls := by
  obtain ⟨ao, cap, rfl, hc, hz⟩ := h
  refine ⟨ao, cap, rfl, hc, ?_⟩
  rcases hz with hz | ⟨b, off, rfl, hlo, hcell⟩
  · exact Or.inl hz
  · by_cases h0 : ls.length = 0
    · exact Or.inl h0
    · have hbl := hB b off _ _ rfl (by omega)
      exact Or.inr ⟨b, off, rfl, hlo, fun i hi => ⟨hm.cell (Or.inl (by simp; omega)) (hcell i hi).1, hm.cell (Or.inl (by simp; omega)) (hcell i hi).2.1, hm.cell (Or.inl (by simp; omega)) (hcell i hi).2.2⟩⟩

theorem selfPVs (L : List Mv) : decide (L = L) = true := decide_eq_true rfl

end Go.Proofs.YtnmoocgocnjdjaaGreat

namespace Go.Proofs.YtnmoocgocnjdjaaGreat
open Go.RowKit Go.Sort

def cmI (x y : Int) : Int := if x < y then -1 else if y < x then 1 else 0
def orV (x y z : Int) : Int := if x ≠ 0 then x else if y ≠ 0 then y else z
def cfV (p q : Mv) : Int := orV (cmI p.1 q.1) (cmI p.2.1 q.2.1) (cmI p.2.2 q.2.2)

set_option maxHeartbeats 1000000 in
theorem cmpCompare_same (x y : Int) (w : World) : Calls Tryz.prog 193 #[.int .i64 x, .int .i64 y] w (fun e w' => e = .returned (.int .i64 (cmI x y)) ∧ w' = w) := by
  have n1 : (x != x) = false := by simp
  have n2 : (y != y) = false := by simp
  have hnan : ∀ (z : Int) (w : World), Calls Tryz.prog 228 #[.int .i64 z] w (fun e w' => e = .returned (.bool false) ∧ w' = w) := fun z w => by
    have n1 : (z != z) = false := by simp
    go_enter Tryz.func228, Tryz.ntmps228
    go_wp2_with fail
    go_ret
    exact ⟨rfl, rfl⟩
  have HN := Lib.hid hnan; clear hnan
  by_cases h1 : x < y
  · have e : cmI x y = -1 := by unfold cmI; rw [if_pos h1]
    rw [e]; clear e
    go_enter Tryz.func193, Tryz.ntmps193
    go_wp2_with (go_at_call 228; refine (HN.out _ _).mono ?_; rintro e w' ⟨rfl, rfl⟩)
    go_ret
    exact ⟨rfl, rfl⟩
  · by_cases h2 : y < x
    · have e : cmI x y = 1 := by unfold cmI; rw [if_neg h1, if_pos h2]
      rw [e]; clear e
      go_enter Tryz.func193, Tryz.ntmps193
      go_wp2_with (go_at_call 228; refine (HN.out _ _).mono ?_; rintro e w' ⟨rfl, rfl⟩)
      go_ret
      exact ⟨rfl, rfl⟩
    · have e : cmI x y = 0 := by unfold cmI; rw [if_neg h1, if_neg h2]
      rw [e]; clear e
      go_enter Tryz.func193, Tryz.ntmps193
      go_wp2_with (go_at_call 228; refine (HN.out _ _).mono ?_; rintro e w' ⟨rfl, rfl⟩)
      go_ret
      exact ⟨rfl, rfl⟩

set_option maxHeartbeats 1000000 in
theorem cmpOr3_same (b : Nat) (x y z : Int) (w : World) (h0 : w.cell? ⟨b, 0, none⟩ = some (.int .i64 x)) (h1 : w.cell? ⟨b, 1, none⟩ = some (.int .i64 y)) (h2 : w.cell? ⟨b, 2, none⟩ = some (.int .i64 z)) :
    Calls Tryz.prog 192 #[.slice (some ⟨b, 0, none⟩) 3 3] w (fun e w' => e = .returned (.int .i64 (orV x y z)) ∧ w' = w) := by
  obtain ⟨V, hV⟩ : ∃ V : Nat → Int, V = fun i => if i = 0 then x else if i = 1 then y else z := ⟨_, rfl⟩
  have hc : ∀ i, i < 3 → w.cell? ⟨b, 0 + i, none⟩ = some (.int .i64 (V i)) := fun i hi => by
    rw [hV]
    match i, hi with
    | 0, _ => exact h0
    | 1, _ => exact h1
    | 2, _ => exact h2
  have hres : ∀ i, i < 3 → (∀ j, j < i → V j = 0) → V i ≠ 0 → orV x y z = V i := fun i hi hb hn => by
    have hb0 := hb 0
    have hb1 := hb 1
    rw [hV] at hn hb0 hb1 ⊢
    unfold orV
    match i, hi with
    | 0, _ => simp at hn; simp [hn]
    | 1, _ =>
      have q : x = 0 := by simpa using hb0 (by decide)
      simp at hn
      simp [q, hn]
    | 2, _ =>
      have q : x = 0 := by simpa using hb0 (by decide)
      have q' : y = 0 := by simpa using hb1 (by decide)
      simp [q, q']
  have hnone : (∀ j, j < 3 → V j = 0) → orV x y z = 0 := fun hb => by
    have q := hb 0 (by decide)
    have q' := hb 1 (by decide)
    have q2 := hb 2 (by decide)
    rw [hV] at q q' q2
    simp at q q' q2
    simp [orV, q, q', q2]
  obtain ⟨R, hR⟩ : ∃ R, R = orV x y z := ⟨_, rfl⟩
  rw [← hR] at hres hnone ⊢
  have HC := Lib.hid hc
  have HR := Lib.hid hres
  have HN := Lib.hid hnone
  clear hc hres hnone hR hV h0 h1 h2
  go_enter Tryz.func192, Tryz.ntmps192
  go_wp2_with fail
  go_loopw [8] (fun c wr => ∃ i : Nat, i ≤ 3 ∧ c = .int .i64 i ∧ Hid (∀ j, j < i → V j = 0) ∧ wr = w) (fun c _ => 3 - (intOf c).toNat)
  case atStart => exact ⟨0, by omega, rfl, fun j hj => absurd hj (Nat.not_lt_zero _), rfl⟩
  case round =>
    obtain ⟨i, hi, rfl, hz, rfl⟩ := hrel
    by_cases hlt : i < 3
    · have d0 := HC.out i hlt
      rw [Nat.zero_add] at d0
      by_cases hv : V i = 0
      · have t0 : (V i != 0) = false := by simp [hv]
        have hz2 : Hid (∀ j, j < i + 1 → V j = 0) := fun j hj => by
          by_cases e : j = i
          · subst e; exact hv
          · exact hz.out j (by omega)
        clear hv
        generalize V i = vi at d0 t0
        go_wp2_with fail
        go_roundw
        case rel => exact ⟨i + 1, by omega, by go_num, hz2, trivial⟩
        case measure => simp [intOf]; omega
      · have t0 : (V i != 0) = true := by simp [hv]
        have e := HR.out i hlt hz.out hv
        clear hv
        generalize V i = vi at d0 t0 e
        subst e
        go_wp2_with fail
        go_ret
        exact ⟨rfl, rfl⟩
    · have e := HN.out (fun j hj => hz.out j (by omega))
      obtain rfl : i = 3 := by omega
      subst e
      go_wp2_with fail
      go_ret
      exact ⟨rfl, rfl⟩

set_option maxRecDepth 100000 in
set_option maxHeartbeats 2000000 in
/-- in whatever world: three blocks are laid -/
theorem compareViolations_any (p q : Mv) (W : World) :
    Calls Tryz.prog 154 #[.agg #[.int .i64 p.1, .int .i64 p.2.1, .int .i64 p.2.2], .agg #[.int .i64 q.1, .int .i64 q.2.1, .int .i64 q.2.2]] W (fun e w' => e = .returned (.int .i64 (cfV p q)) ∧ ∃ n os, w' = grow (W.drewN n) os) := by
  obtain ⟨p0, p1, p2⟩ := p
  obtain ⟨q0, q1, q2⟩ := q
  unfold cfV
  simp only
  obtain ⟨W1, hW1⟩ : ∃ W1, W1 = (W.alloc (.cells #[.int .i64 p0, .int .i64 p1, .int .i64 p2] 82)).alloc (.cells #[.int .i64 q0, .int .i64 q1, .int .i64 q2] 82) := ⟨_, rfl⟩
  have hg : W1 = grow W #[.cells #[.int .i64 p0, .int .i64 p1, .int .i64 p2] 82, .cells #[.int .i64 q0, .int .i64 q1, .int .i64 q2] 82] := by
    rw [hW1, alloc_eq_grow, alloc_eq_grow, grow_grow]; rfl
  have HG := Lib.hid hg; clear hg
  have H0 := Lib.hid (cmpCompare_same p0 q0)
  have H1 := Lib.hid (cmpCompare_same p1 q1)
  have H2 := Lib.hid (cmpCompare_same p2 q2)
  generalize cmI p0 q0 = c0 at H0 ⊢
  generalize cmI p1 q1 = c1 at H1 ⊢
  generalize cmI p2 q2 = c2 at H2 ⊢
  go_enter Tryz.func154, Tryz.ntmps154
  go_wp2_with fail
  rw [← hW1]
  have a0 : W1.cell? ⟨W.heap.size, 0, none⟩ = some (.int .i64 p0) := by rw [hW1]; simp
  have a1 : W1.cell? ⟨W.heap.size, 1, none⟩ = some (.int .i64 p1) := by rw [hW1]; simp
  have a2 : W1.cell? ⟨W.heap.size, 2, none⟩ = some (.int .i64 p2) := by rw [hW1]; simp
  have b0 : W1.cell? ⟨W.heap.size + 1, 0, none⟩ = some (.int .i64 q0) := by rw [hW1]; simp
  have b1 : W1.cell? ⟨W.heap.size + 1, 1, none⟩ = some (.int .i64 q1) := by rw [hW1]; simp
  have b2 : W1.cell? ⟨W.heap.size + 1, 2, none⟩ = some (.int .i64 q2) := by rw [hW1]; simp
  clear hW1
  refine wp_region_still_tail 15 (by kernel_rfl) (by kernel_rfl) ?_
  simp only [List.take_succ_cons, List.take_zero, List.drop_succ_cons, List.drop_zero]
  repeat still_step
  still_call (H0.out _)
  repeat still_step
  still_call (H1.out _)
  repeat still_step
  still_call (H2.out _)
  repeat still_step
  try refine wpStill_nil ?_
  change wpList _ _ _ _ _ W1.drew
  go_wp2_with fail
  have e0 : ((W1.alloc (.cells #[.int .i64 c0, .int .i64 c1, .int .i64 c2] 3)).drew).cell? ⟨W1.heap.size, 0, none⟩ = some (.int .i64 c0) := by simp
  have e1 : ((W1.alloc (.cells #[.int .i64 c0, .int .i64 c1, .int .i64 c2] 3)).drew).cell? ⟨W1.heap.size, 1, none⟩ = some (.int .i64 c1) := by simp
  have e2 : ((W1.alloc (.cells #[.int .i64 c0, .int .i64 c1, .int .i64 c2] 3)).drew).cell? ⟨W1.heap.size, 2, none⟩ = some (.int .i64 c2) := by simp
  refine (cmpOr3_same _ c0 c1 c2 _ e0 e1 e2).mono ?_
  rintro e w' ⟨rfl, rfl⟩
  go_wp2_with fail
  go_ret
  refine ⟨rfl, 1, #[.cells #[.int .i64 p0, .int .i64 p1, .int .i64 p2] 82, .cells #[.int .i64 q0, .int .i64 q1, .int .i64 q2] 82, .cells #[.int .i64 c0, .int .i64 c1, .int .i64 c2] 3], ?_⟩
  rw [HG.out, alloc_eq_grow, grow_grow]
  rfl

end Go.Proofs.YtnmoocgocnjdjaaGreat

namespace Go.Proofs.YtnmoocgocnjdjaaGreat
open Go.RowKit

/-- what a slice of n quadruples reads as; its cells lie from block lo on -/
def QuadsAt (lo : Nat) (w : World) (v : Value) (n : Nat) (x y z t : Nat → Value) : Prop :=
  ∃ (ao : Option Addr) (cap : Nat), v = .slice ao n cap ∧ n ≤ cap ∧
    (n = 0 ∨ ∃ b off, ao = some ⟨b, off, none⟩ ∧ lo ≤ b ∧ ∀ i, i < n → w.cell? ⟨b, off + i * 4, none⟩ = some (x i) ∧ w.cell? ⟨b, off + i * 4 + 1, none⟩ = some (y i) ∧ w.cell? ⟨b, off + i * 4 + 2, none⟩ = some (z i) ∧ w.cell? ⟨b, off + i * 4 + 3, none⟩ = some (t i))
theorem QuadsAt.keep {lo : Nat} {w w' : World} {v : Value} {n : Nat} {x y z t : Nat → Value} (h : QuadsAt lo w v n x y z t) (hb : Carries lo w w') : QuadsAt lo w' v n x y z t := by
  obtain ⟨ao, cap, hv, hc, hz⟩ := h
  refine ⟨ao, cap, hv, hc, ?_⟩
  rcases hz with hz | ⟨b, off, ha, hlo, hcell⟩
  · exact Or.inl hz
  · exact Or.inr ⟨b, off, ha, hlo, fun i hi => ⟨hb _ _ hlo (hcell i hi).1, hb _ _ hlo (hcell i hi).2.1, hb _ _ hlo (hcell i hi).2.2.1, hb _ _ hlo (hcell i hi).2.2.2⟩⟩
theorem QuadsAt.low {lo lo' : Nat} {w : World} {v : Value} {n : Nat} {x y z t : Nat → Value} (h : QuadsAt lo w v n x y z t) (hl : lo' ≤ lo) : QuadsAt lo' w v n x y z t := by
  obtain ⟨ao, cap, hv, hc, hz⟩ := h
  refine ⟨ao, cap, hv, hc, ?_⟩
  rcases hz with hz | ⟨b, off, ha, hlo, hcell⟩
  · exact Or.inl hz
  · exact Or.inr ⟨b, off, ha, Nat.le_trans hl hlo, hcell⟩
/-- the first k quadruples of the row b of n quadruples are there -/
def QuadRow (b : Nat) (t : TypeId) (w : World) (n k : Nat) (x y z u : Nat → Value) : Prop := ∃ f, w.rowIs b t (n * 4) f ∧ ∀ i, i < k → f (i * 4) = x i ∧ f (i * 4 + 1) = y i ∧ f (i * 4 + 2) = z i ∧ f (i * 4 + 3) = u i
theorem QuadRow.keep {b : Nat} {t : TypeId} {w w' : World} {n k : Nat} {x y z u : Nat → Value} (h : QuadRow b t w n k x y z u) (hb : w'.heap[b]? = w.heap[b]?) : QuadRow b t w' n k x y z u := by
  obtain ⟨f, hr, ht⟩ := h
  exact ⟨f, hr.of_block hb, ht⟩
theorem QuadRow.cells {b : Nat} {t : TypeId} {w : World} {n k : Nat} {x y z u : Nat → Value} (h : QuadRow b t w n k x y z u) {i : Nat} (hi : i < n) : ∃ v0 v1 v2 v3, w.cell? ⟨b, i * 4, none⟩ = some v0 ∧ w.cell? ⟨b, i * 4 + 1, none⟩ = some v1 ∧ w.cell? ⟨b, i * 4 + 2, none⟩ = some v2 ∧ w.cell? ⟨b, i * 4 + 3, none⟩ = some v3 ∧ w.frozen? ⟨b, i * 4, none⟩ = false ∧ w.frozen? ⟨b, i * 4 + 1, none⟩ = false ∧ w.frozen? ⟨b, i * 4 + 2, none⟩ = false ∧ w.frozen? ⟨b, i * 4 + 3, none⟩ = false := by
  obtain ⟨f, hr, ht⟩ := h
  exact ⟨_, _, _, _, hr.cell (by omega), hr.cell (by omega), hr.cell (by omega), hr.cell (by omega), hr.frozen _, hr.frozen _, hr.frozen _, hr.frozen _⟩
theorem QuadRow.put {b : Nat} {t : TypeId} {w : World} {n k : Nat} {x y z u : Nat → Value} (h : QuadRow b t w n k x y z u) {v0 v1 v2 v3 : Value} (hk : k < n) (h0 : v0 = x k) (h1 : v1 = y k) (h2 : v2 = z k) (h3 : v3 = u k) :
    QuadRow b t ((((w.setCell ⟨b, k * 4, none⟩ v0).setCell ⟨b, k * 4 + 1, none⟩ v1).setCell ⟨b, k * 4 + 2, none⟩ v2).setCell ⟨b, k * 4 + 3, none⟩ v3) n (k + 1) x y z u := by
  obtain ⟨f, hr, hx⟩ := h
  refine ⟨_, (((hr.set (k * 4) v0).set (k * 4 + 1) v1).set (k * 4 + 2) v2).set (k * 4 + 3) v3, fun i hi => ?_⟩
  by_cases e : i = k
  · subst e
    simp [show ¬ i * 4 = i * 4 + 1 by omega, show ¬ i * 4 = i * 4 + 2 by omega, show ¬ i * 4 = i * 4 + 3 by omega, h0, h1, h2, h3]
  · have hne : ∀ p q : Nat, p < 4 → q < 4 → ¬ i * 4 + p = k * 4 + q := fun p q hp hq => by omega
    have z0 : ∀ q : Nat, q < 4 → ¬ i * 4 = k * 4 + q := fun q hq => by omega
    have a0 : ∀ p : Nat, p < 4 → ¬ i * 4 + p = k * 4 := fun p hp => by omega
    have aa : ¬ i * 4 = k * 4 := by omega
    simp only [if_neg (hne 1 1 (by omega) (by omega)), if_neg (hne 1 2 (by omega) (by omega)), if_neg (hne 1 3 (by omega) (by omega)), if_neg (hne 2 1 (by omega) (by omega)), if_neg (hne 2 2 (by omega) (by omega)), if_neg (hne 2 3 (by omega) (by omega)), if_neg (hne 3 1 (by omega) (by omega)), if_neg (hne 3 2 (by omega) (by omega)), if_neg (hne 3 3 (by omega) (by omega)), if_neg (z0 1 (by omega)), if_neg (z0 2 (by omega)), if_neg (z0 3 (by omega)), if_neg (a0 1 (by omega)), if_neg (a0 2 (by omega)), if_neg (a0 3 (by omega)), if_neg aa]
    exact hx i (by omega)
theorem QuadRow.read {b : Nat} {t : TypeId} {w : World} {n : Nat} {x y z u : Nat → Value} (h : QuadRow b t w n n x y z u) : QuadsAt b w (.slice (some ⟨b, 0, none⟩) n n) n x y z u := by
  obtain ⟨f, hr, ht⟩ := h
  refine ⟨_, _, rfl, Nat.le_refl _, Or.inr ⟨b, 0, rfl, Nat.le_refl _, fun i hi => ⟨?_, ?_, ?_, ?_⟩⟩⟩
  · rw [Nat.zero_add, hr.cell (by omega), (ht i hi).1]
  · rw [Nat.zero_add, hr.cell (by omega), (ht i hi).2.1]
  · rw [Nat.zero_add, hr.cell (by omega), (ht i hi).2.2.1]
  · rw [Nat.zero_add, hr.cell (by omega), (ht i hi).2.2.2]

/-- an arc: from, signal, up, to -/
abbrev Ar := Int × Int × Bool × Int
def arF (ms : List Ar) (i : Nat) : Int := (ms.getD i (0, 0, false, 0)).1
def arS (ms : List Ar) (i : Nat) : Int := (ms.getD i (0, 0, false, 0)).2.1
def arU (ms : List Ar) (i : Nat) : Bool := (ms.getD i (0, 0, false, 0)).2.2.1
def arT (ms : List Ar) (i : Nat) : Int := (ms.getD i (0, 0, false, 0)).2.2.2
theorem ar_getD {zs : List Ar} {i : Nat} (h : i < zs.length) : (arF zs i, arS zs i, arU zs i, arT zs i) = zs[i] := by simp [arF, arS, arU, arT, List.getD, h]
def ArcsAt (lo : Nat) (w : World) (v : Value) (ms : List Ar) : Prop := QuadsAt lo w v ms.length (fun i => .int .i64 (arF ms i)) (fun i => .int .i64 (arS ms i)) (fun i => .bool (arU ms i)) (fun i => .int .i64 (arT ms i))
theorem ArcsAt.keep {lo : Nat} {w w' : World} {v : Value} {ss : List Ar} (h : ArcsAt lo w v ss) (hb : Carries lo w w') : ArcsAt lo w' v ss := QuadsAt.keep h hb
theorem ArcsAt.low {lo lo' : Nat} {w : World} {v : Value} {ss : List Ar} (h : ArcsAt lo w v ss) (hl : lo' ≤ lo) : ArcsAt lo' w v ss := QuadsAt.low h hl
theorem ArcsAt.form {lo : Nat} {w : World} {v : Value} {ss : List Ar} (h : ArcsAt lo w v ss) : ∃ a c, v = .slice a ss.length c := by
  obtain ⟨a, c, rfl, _, _⟩ := h
  exact ⟨a, c, rfl⟩
def RetArcs (w : World) (ms : List Ar) (e : Ending) (w' : World) : Prop := ∃ v, e = .returned v ∧ ArcsAt w.heap.size w' v ms ∧ Below w.heap.size w w'

/-- a state graph as data -/
structure SgD where
  sigs : List Sig
  codes : List ByteArray
  arcs : List Ar

/-- numbers that fit, names and codes that are no longer than any string -/
def OkArcs (ms : List Ar) : Prop := ms.length ≤ 9223372036854775807 ∧ ∀ i, i < ms.length → (-9223372036854775808 ≤ arF ms i ∧ arF ms i ≤ 9223372036854775807) ∧ (-9223372036854775808 ≤ arS ms i ∧ arS ms i ≤ 9223372036854775807) ∧ (-9223372036854775808 ≤ arT ms i ∧ arT ms i ≤ 9223372036854775807)
def OkSg (r : SgD) : Prop := OkSigs r.sigs ∧ OkTexts r.codes ∧ OkArcs r.arcs
def SmallSg (r : SgD) : Prop := SmallSigs r.sigs ∧ SmallTexts r.codes ∧ r.arcs.length ≤ 1048576

def SgAt (lo : Nat) (w : World) (v : Value) (r : SgD) : Prop := ∃ vg vs vm, v = .agg #[vg, vs, vm] ∧ SigsAt lo w vg r.sigs ∧ TextsAt lo w vs r.codes ∧ ArcsAt lo w vm r.arcs
theorem SgAt.keep {lo : Nat} {w w' : World} {v : Value} {r : SgD} (h : SgAt lo w v r) (hb : Carries lo w w') : SgAt lo w' v r := by
  obtain ⟨vg, vs, vm, hv, h0, h1, h2⟩ := h
  exact ⟨vg, vs, vm, hv, h0.keep hb, h1.keep hb, h2.keep hb⟩
theorem SgAt.low {lo lo' : Nat} {w : World} {v : Value} {r : SgD} (h : SgAt lo w v r) (hl : lo' ≤ lo) : SgAt lo' w v r := by
  obtain ⟨vg, vs, vm, hv, h0, h1, h2⟩ := h
  exact ⟨vg, vs, vm, hv, h0.low hl, h1.low hl, h2.low hl⟩
theorem SgAt.form {lo : Nat} {w : World} {v : Value} {r : SgD} (h : SgAt lo w v r) : ∃ a0 c0 a1 c1 a2 c2, v = .agg #[.slice a0 r.sigs.length c0, .slice a1 r.codes.length c1, .slice a2 r.arcs.length c2] ∧ SigsAt lo w (.slice a0 r.sigs.length c0) r.sigs ∧ TextsAt lo w (.slice a1 r.codes.length c1) r.codes ∧ ArcsAt lo w (.slice a2 r.arcs.length c2) r.arcs := by
  obtain ⟨vg, vs, vm, rfl, h0, h1, h2⟩ := h
  obtain ⟨a0, c0, rfl⟩ := h0.form
  obtain ⟨a1, c1, rfl⟩ := h1.form
  obtain ⟨a2, c2, rfl⟩ := h2.form
  exact ⟨a0, c0, a1, c1, a2, c2, rfl, h0, h1, h2⟩
def RetSg (w : World) (r : SgD) (e : Ending) (w' : World) : Prop := ∃ v, e = .returned v ∧ SgAt w.heap.size w' v r ∧ Below w.heap.size w w'

end Go.Proofs.YtnmoocgocnjdjaaGreat
