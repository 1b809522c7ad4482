/- WALKS: what may be written in a reachability graph: markStringS, markMoveS, heldMoveS, toReachabilityGraph once more, markReachabilityGraph. Boxes of cells that may be written.
   ROWS OF MOVES of the call's own: append of one move; what they read as; boxes.
   WALK: l5Moves of the model. -/
import Derived.Test.YtnmoocgocnjdjaaGreatVOvk
import Derived.Test.YtnmoocgocnjdjaaGreatVApb
import Derived.Test.YtnmoocgocnjdjaaGreatVSpd
namespace Go.Proofs.YtnmoocgocnjdjaaGreat
open Go.RowKit

/-- (k, k + 1, k + 2), (k + 3, ..), .. -/
def upMoves (k : Int) (n : Nat) : List Mv := (List.range n).map fun (i : Nat) => (k + 3 * (i : Int), k + 3 * (i : Int) + 1, k + 3 * (i : Int) + 1 + 1)
theorem upMoves_length (k : Int) (n : Nat) : (upMoves k n).length = n := by simp [upMoves]
theorem upMoves_get {k : Int} {n i : Nat} (h : i < n) : mvF (upMoves k n) i = k + 3 * (i : Int) ∧ mvB (upMoves k n) i = k + 3 * (i : Int) + 1 ∧ mvT (upMoves k n) i = k + 3 * (i : Int) + 1 + 1 := by
  simp [mvF, mvB, mvT, upMoves, List.getD, h]

/-- an answer of toReachabilityGraph: what it reads as; its parts lie one behind the other, and may be written -/
def RgOw (B : Nat) (w : World) (v : Value) (r : RgD) : Prop :=
  ∃ (m : Nat) (vs vm : Value), v = .agg #[vs, vm] ∧ B ≤ m ∧ m ≤ w.heap.size ∧ CellBox B m w vs r.marks.length 1 ∧ CellBox m w.heap.size w vm r.moves.length 3 ∧ RgAt B w v r
theorem RgOw.at {B : Nat} {w : World} {v : Value} {r : RgD} (h : RgOw B w v r) : RgAt B w v r := by
  obtain ⟨_, _, _, _, _, _, _, _, h⟩ := h
  exact h

end Go.Proofs.YtnmoocgocnjdjaaGreat

namespace Go.Proofs.YtnmoocgocnjdjaaGreat
open Go.RowKit

def mvCells : List Mv → List Value
  | [] => []
  | m :: ms => .int .i64 m.1 :: .int .i64 m.2.1 :: .int .i64 m.2.2 :: mvCells ms
theorem mvCells_length : ∀ ms : List Mv, (mvCells ms).length = ms.length * 3
  | [] => rfl
  | m :: ms => by simp only [mvCells, List.length_cons, mvCells_length ms]; omega
theorem mvCells_append : ∀ a b : List Mv, mvCells (a ++ b) = mvCells a ++ mvCells b
  | [], _ => rfl
  | m :: ms, b => by simp only [List.cons_append, mvCells, mvCells_append ms b]
theorem mvCells_get : ∀ (ms : List Mv) (i : Nat), i < ms.length → (mvCells ms)[i * 3]? = some (.int .i64 (mvF ms i)) ∧ (mvCells ms)[i * 3 + 1]? = some (.int .i64 (mvB ms i)) ∧ (mvCells ms)[i * 3 + 2]? = some (.int .i64 (mvT ms i))
  | [], i, h => absurd h (Nat.not_lt_zero _)
  | m :: ms, 0, _ => ⟨rfl, rfl, rfl⟩
  | m :: ms, i + 1, h => by
    have ih := mvCells_get ms i (by simpa using h)
    have e1 : (i + 1) * 3 = i * 3 + 3 := by omega
    have s1 : mvF (m :: ms) (i + 1) = mvF ms i := by simp [mvF]
    have s2 : mvB (m :: ms) (i + 1) = mvB ms i := by simp [mvB]
    have s3 : mvT (m :: ms) (i + 1) = mvT ms i := by simp [mvT]
    rw [e1, s1, s2, s3]
    exact ⟨ih.1, ih.2.1, ih.2.2⟩

abbrev MRow (B : Nat) (w : World) (v : Value) (ms : List Mv) : Prop := w.ownsRow B 189 3 v ms.length (mvCells ms)
theorem MRow.form {B : Nat} {w : World} {v : Value} {ms : List Mv} (h : MRow B w v ms) : ∃ a c, v = .slice a ms.length c := by
  rcases h.2 with ⟨rfl, hn⟩ | ⟨g, cap, cur, rfl, _⟩
  · exact ⟨none, 0, by rw [hn]⟩
  · exact ⟨_, _, rfl⟩
theorem MRow.at {B : Nat} {w : World} {v : Value} {ms : List Mv} (h : MRow B w v ms) : MovesAt B w v ms := by
  have h0 := h
  rcases h.2 with ⟨rfl, hn⟩ | ⟨g, cap, cur, rfl, hb, hg, hnc, _⟩
  · exact ⟨none, 0, by rw [hn], by omega, Or.inl hn⟩
  · refine ⟨_, _, rfl, hnc, Or.inr ⟨g, 0, rfl, hb, fun i hi => ⟨?_, ?_, ?_⟩⟩⟩
    · rw [Nat.zero_add, h0.cellAt (i * 3) (by omega)]; exact (mvCells_get ms i hi).1
    · rw [Nat.zero_add, h0.cellAt (i * 3 + 1) (by omega)]; exact (mvCells_get ms i hi).2.1
    · rw [Nat.zero_add, h0.cellAt (i * 3 + 2) (by omega)]; exact (mvCells_get ms i hi).2.2
theorem MRow.box {B : Nat} {w : World} {v : Value} {ms : List Mv} (h : MRow B w v ms) : CellBox B w.heap.size w v ms.length 3 := by
  have h0 := h
  rcases h.2 with ⟨rfl, hn⟩ | ⟨g, cap, cur, rfl, hb, hg, hnc, _⟩
  · exact ⟨none, 0, by rw [hn], Or.inl hn⟩
  · refine ⟨_, _, rfl, Or.inr ⟨g, 0, rfl, hb, (Array.getElem?_eq_some_iff.1 hg).1, fun i hi => ⟨?_, ?_⟩⟩⟩
    · rw [Nat.zero_add, h0.cellAt i hi]
      exact ⟨_, List.getElem?_eq_getElem (by rw [mvCells_length]; exact hi)⟩
    · exact h0.frozenAt _
theorem MRow.nil (B : Nat) (w : World) : MRow B w (.slice none 0 0) [] := World.ownsRow_nil _ _ _ _
theorem MRow.low {B B' : Nat} {w : World} {v : Value} {ms : List Mv} (h : MRow B w v ms) (hB : B' ≤ B) : MRow B' w v ms := Go.Joins.ownsRow_le h hB
theorem MRow.stir {B l k : Nat} {w w' : World} {v : Value} {ms : List Mv} (h : MRow B w v ms) (hs : Stir l k w w') (hk : k ≤ B) : MRow B w' v ms := by
  refine ⟨h.1, ?_⟩
  rcases h.2 with hn | ⟨g, cap, cur, rfl, hb, hg, rest⟩
  · exact Or.inl hn
  · exact Or.inr ⟨g, cap, cur, rfl, hb, (hs.block g (Array.getElem?_eq_some_iff.1 hg).1 (Or.inr (by omega))).trans hg, rest⟩
theorem MRow.cap {B : Nat} {w : World} {v : Value} {ms : List Mv} (h : MRow B w v ms) : ∃ a c, v = .slice a ms.length c ∧ ms.length ≤ c := by
  obtain ⟨a, c, rfl, hc, _⟩ := h.at
  exact ⟨a, c, rfl, hc⟩

theorem run_append_mv (w : World) (ty : TypeId) (base : Nat) (v : Value) (n : Nat) (xs : List Value) (hown : w.ownsRow base 189 3 v n xs) (b : Nat) (u0 u1 u2 : Value)
    (hc0 : w.cell? ⟨b, 0, none⟩ = some u0) (hc1 : w.cell? ⟨b, 1, none⟩ = some u1) (hc2 : w.cell? ⟨b, 2, none⟩ = some u2) (o0 : u0.oneCell' = true) (o1 : u1.oneCell' = true) (o2 : u2.oneCell' = true) (hn : n ≤ 1073741824) (hbase : base ≤ w.heap.size) :
    ∃ v' w', (Builtin.append_ #[183, 183] ty #[v, .slice (some ⟨b, 0, none⟩) 1 1]).run Tryz.prog w = .ok v' w' ∧ w'.ownsRow base 189 3 v' (n + 1) (xs ++ [u0, u1, u2]) ∧ w.grownBy w' v.ownBlock := by
  obtain ⟨i, hi, hzz⟩ := Option.map_eq_some_iff.1 Tryz.infoMv
  simp only [Prod.mk.injEq] at hzz
  obtain ⟨hz, hs, hby⟩ := hzz
  obtain ⟨v', w', hr, h2, h3, _⟩ := run_append_own (P := Tryz.prog) w base 183 ty 189 i _ 3 24 Tryz.underlying183 hi hz hs hby rfl (by omega) v n xs hown ⟨b, 0, none⟩ 1 1 [u0, u1, u2]
    rfl (fun j u hj => by
      match j, hj with
      | 0, hj => simp only [List.getElem?_cons_zero, Option.some.injEq] at hj; subst hj; exact hc0
      | 1, hj => simp only [List.getElem?_cons_succ, List.getElem?_cons_zero, Option.some.injEq] at hj; subst hj; exact hc1
      | 2, hj => simp only [List.getElem?_cons_succ, List.getElem?_cons_zero, Option.some.injEq] at hj; subst hj; exact hc2
      | (j + 3), hj => simp at hj) (fun u hu => by
      simp only [List.mem_cons, List.not_mem_nil, or_false] at hu
      rcases hu with rfl | rfl | rfl
      · exact o0
      · exact o1
      · exact o2) (by unfold maxLen; omega) (by omega) hbase
  exact ⟨v', w', hr, h2, h3⟩

theorem wp_append_mv {o : Oper} {a : Act} {w : World} {K : Act → World → Prop} {Q : Exit → Act → World → Prop} (s x : Operand)
    (ho : o.op = .call { callee := .builtin .append, args := #[s, x], argTypes := #[183, 183] })
    (base : Nat) (v : Value) (ls : List Mv) (hs : a.eval s = v) (hown : MRow base w v ls) (b : Nat) (m : Mv) (hx : a.eval x = .slice (some ⟨b, 0, none⟩) 1 1)
    (hc0 : w.cell? ⟨b, 0, none⟩ = some (.int .i64 m.1)) (hc1 : w.cell? ⟨b, 1, none⟩ = some (.int .i64 m.2.1)) (hc2 : w.cell? ⟨b, 2, none⟩ = some (.int .i64 m.2.2)) (hn : ls.length ≤ 1073741824) (hbase : base ≤ w.heap.size)
    (h : ∀ v' w', MRow base w' v' (ls ++ [m]) → w.grownBy w' v.ownBlock → K (a.put o.dst v') w') : o.wp Tryz.prog a w K Q := by
  obtain ⟨v', w', hr, h2, h3⟩ := run_append_mv w o.type base v _ _ hown b _ _ _ hc0 hc1 hc2 rfl rfl rfl hn hbase
  unfold Oper.wp execOp
  simp only [ho, resolve, invoke, builtin, Sem.run_bind, Sem.run_pure, Result.andThen_ok, List.map_toArray, List.map_cons, List.map_nil, hs, hx, hr]
  refine h v' w' ?_ h3
  show w'.ownsRow base _ 3 v' (ls ++ [m]).length (mvCells (ls ++ [m]))
  rw [mvCells_append, List.length_append]
  exact h2
theorem wpList_append_mv {ops : Array Oper} {rest : List Oper} {o : Oper} {a : Act} {w : World} {Q : Exit → Act → World → Prop} (hgd : o.guard = none) (s x : Operand)
    (ho : o.op = .call { callee := .builtin .append, args := #[s, x], argTypes := #[183, 183] })
    (base : Nat) (v : Value) (ls : List Mv) (hs : a.eval s = v) (hown : MRow base w v ls) (b : Nat) (m : Mv) (hx : a.eval x = .slice (some ⟨b, 0, none⟩) 1 1)
    (hc0 : w.cell? ⟨b, 0, none⟩ = some (.int .i64 m.1)) (hc1 : w.cell? ⟨b, 1, none⟩ = some (.int .i64 m.2.1)) (hc2 : w.cell? ⟨b, 2, none⟩ = some (.int .i64 m.2.2)) (hn : ls.length ≤ 1073741824) (hbase : base ≤ w.heap.size)
    (h : ∀ v' w', MRow base w' v' (ls ++ [m]) → w.grownBy w' v.ownBlock → wpList Tryz.prog ops Q rest (a.put o.dst v') w') : wpList Tryz.prog ops Q (o :: rest) a w :=
  wpList_plain hgd fun _ hK => wp_append_mv s x ho base v ls hs hown b m hx hc0 hc1 hc2 hn hbase fun v' w' h2 h3 => hK _ _ (h v' w' h2 h3)


end Go.Proofs.YtnmoocgocnjdjaaGreat

namespace Go.Proofs.YtnmoocgocnjdjaaGreat
open Go.RowKit

def mvTo (ls : List Ar) (k : Nat) : List Mv := (List.range k).map (fun i => (arF ls i, (i : Int), arT ls i))
theorem mvTo_succ (ls : List Ar) (k : Nat) : mvTo ls (k + 1) = mvTo ls k ++ [(arF ls k, (k : Int), arT ls k)] := by
  unfold mvTo
  rw [List.range_succ, List.map_append]
  rfl
theorem mvTo_length (ls : List Ar) (k : Nat) : (mvTo ls k).length = k := by simp [mvTo]
/-- the reachability graph of a state graph's places -/
def rgOf (r : SgD) : RgD := ⟨List.replicate r.codes.length ByteArray.empty, mvsOf r.arcs⟩

set_option maxRecDepth 100000 in
set_option maxHeartbeats 4000000 in
theorem l5Moves_any (v : Value) (r : SgD) (w : World) (lo : Nat) (hv : SgAt lo w v r) (hs : SmallSg r) :
    Calls Tryz.prog 141 #[v] w (RetRg w (rgOf r)) := by
  obtain ⟨a0, c0, a1, c1, a2, c2, rfl, h_0, h_1, hl⟩ := hv.form
  clear hv h_0 h_1
  have K1 := hs.2.1.1
  have K2 := hs.2.2
  clear hs
  obtain ⟨gs, ss, ls⟩ := r
  unfold rgOf
  simp only at hl K1 K2 ⊢
  obtain ⟨n, hnn⟩ : ∃ n, n = ss.length := ⟨_, rfl⟩
  rw [← hnn] at K1 ⊢
  clear hnn
  obtain ⟨ao, cap, hvv, hc, hz⟩ := hl
  injection hvv with e1 e2 e3
  subst e1; subst e3; clear e2
  have HF := Lib.hid hz; clear hz
  have hmk := run_make_row' (P := Tryz.prog) 69 9 (.string ByteArray.empty) 16 Tryz.underlying69 Tryz.infoStr rfl .i64 .i64 n (by omega) (by omega)
  go_enter Tryz.func141, Tryz.ntmps141
  go_wp2_with fail
  have R2 : Hid (((((w.alloc (.cells #[.slice a0 gs.length c0, .slice a1 n c1, .slice a2 ls.length c2] 80)).alloc (.cells #[.slice none 0 0, .slice none 0 0] 185)).alloc (.cells (madeCells #[.string ByteArray.empty] n) 9)).alloc (.cells #[.slice (some ⟨w.heap.size + 1 + 1, 0, none⟩) n n, .slice none 0 0] 185)).rowIs (w.heap.size + 1) 185 2 (fun _ => .slice none 0 0)) := by
    have h := World.rowIs_alloc (w.alloc (.cells #[.slice a0 gs.length c0, .slice a1 n c1, .slice a2 ls.length c2] 80)) #[.slice none 0 0, .slice none 0 0] 185 (fun _ => .slice none 0 0) (fun i hi => by
      have hi : i < 2 := hi
      have : i = 0 ∨ i = 1 := by omega
      rcases this with rfl | rfl <;> rfl)
    rw [World.size_alloc] at h
    exact (h.alloc _).alloc _
  have RS : Hid (((((w.alloc (.cells #[.slice a0 gs.length c0, .slice a1 n c1, .slice a2 ls.length c2] 80)).alloc (.cells #[.slice none 0 0, .slice none 0 0] 185)).alloc (.cells (madeCells #[.string ByteArray.empty] n) 9)).alloc (.cells #[.slice (some ⟨w.heap.size + 1 + 1, 0, none⟩) n n, .slice none 0 0] 185)).rowIs (w.heap.size + 1 + 1) 9 n (fun _ => .string ByteArray.empty)) := by
    have h := World.rowIs_made ((w.alloc (.cells #[.slice a0 gs.length c0, .slice a1 n c1, .slice a2 ls.length c2] 80)).alloc (.cells #[.slice none 0 0, .slice none 0 0] 185)) (.string ByteArray.empty) n 9
    rw [World.size_alloc, World.size_alloc] at h
    exact h.alloc _
  have R3 : Hid (((((w.alloc (.cells #[.slice a0 gs.length c0, .slice a1 n c1, .slice a2 ls.length c2] 80)).alloc (.cells #[.slice none 0 0, .slice none 0 0] 185)).alloc (.cells (madeCells #[.string ByteArray.empty] n) 9)).alloc (.cells #[.slice (some ⟨w.heap.size + 1 + 1, 0, none⟩) n n, .slice none 0 0] 185)).rowIs (w.heap.size + 1 + 1 + 1) 185 2 (fun j => if j = 0 then .slice (some ⟨w.heap.size + 1 + 1, 0, none⟩) n n else .slice none 0 0)) := by
    have h := World.rowIs_alloc (((w.alloc (.cells #[.slice a0 gs.length c0, .slice a1 n c1, .slice a2 ls.length c2] 80)).alloc (.cells #[.slice none 0 0, .slice none 0 0] 185)).alloc (.cells (madeCells #[.string ByteArray.empty] n) 9)) #[.slice (some ⟨w.heap.size + 1 + 1, 0, none⟩) n n, .slice none 0 0] 185 (fun j => if j = 0 then .slice (some ⟨w.heap.size + 1 + 1, 0, none⟩) n n else .slice none 0 0) (fun i hi => by
      have hi : i < 2 := hi
      have : i = 0 ∨ i = 1 := by omega
      rcases this with rfl | rfl <;> rfl)
    rw [World.size_alloc, World.size_alloc, World.size_alloc] at h
    exact h
  have hw0 : Below w.heap.size w ((((w.alloc (.cells #[.slice a0 gs.length c0, .slice a1 n c1, .slice a2 ls.length c2] 80)).alloc (.cells #[.slice none 0 0, .slice none 0 0] 185)).alloc (.cells (madeCells #[.string ByteArray.empty] n) 9)).alloc (.cells #[.slice (some ⟨w.heap.size + 1 + 1, 0, none⟩) n n, .slice none 0 0] 185)) := by (repeat' (first | (with_reducible exact Below.refl _ _) | (with_reducible assumption) | (with_reducible refine Below.alloc ?_ ?_ _) | (with_reducible refine Below.drew ?_) | (with_reducible refine below_drewN ?_ _) | (with_reducible refine Below.setCell ?_ ?_ _) | go_size))
  have z0 : ((((w.alloc (.cells #[.slice a0 gs.length c0, .slice a1 n c1, .slice a2 ls.length c2] 80)).alloc (.cells #[.slice none 0 0, .slice none 0 0] 185)).alloc (.cells (madeCells #[.string ByteArray.empty] n) 9)).alloc (.cells #[.slice (some ⟨w.heap.size + 1 + 1, 0, none⟩) n n, .slice none 0 0] 185)).heap.size = w.heap.size + 1 + 1 + 1 + 1 := by simp
  generalize ((((w.alloc (.cells #[.slice a0 gs.length c0, .slice a1 n c1, .slice a2 ls.length c2] 80)).alloc (.cells #[.slice none 0 0, .slice none 0 0] 185)).alloc (.cells (madeCells #[.string ByteArray.empty] n) 9)).alloc (.cells #[.slice (some ⟨w.heap.size + 1 + 1, 0, none⟩) n n, .slice none 0 0] 185)) = W at R2 RS R3 hw0 z0 ⊢
  go_loopw [14] (fun iv wr => ∃ (i : Nat) (lv : Value), i ≤ ls.length ∧ iv = .int .i64 i ∧ Hid (wr.rowIs (w.heap.size + 1) 185 2 (fun _ => .slice none 0 0)) ∧ Hid (wr.rowIs (w.heap.size + 1 + 1) 9 n (fun _ => .string ByteArray.empty)) ∧
      Hid (wr.rowIs (w.heap.size + 1 + 1 + 1) 185 2 (fun j => if j = 0 then .slice (some ⟨w.heap.size + 1 + 1, 0, none⟩) n n else lv)) ∧ Hid (MRow (w.heap.size + 1 + 1 + 1 + 1) wr lv (mvTo ls i)) ∧ Below w.heap.size w wr ∧ w.heap.size + 1 + 1 + 1 < wr.heap.size) (fun iv _ => ls.length - (intOf iv).toNat)
  case atStart => exact ⟨0, .slice none 0 0, Nat.zero_le _, rfl, R2.out, RS.out, R3.out, MRow.nil _ _, hw0, by omega⟩
  case round =>
    clear R2 RS R3 hw0 z0
    obtain ⟨i, lv, hi, rfl, r2, rs, r3, hmv, hb1, zr⟩ := hrel
    obtain ⟨la, lc, hlv⟩ := hmv.out.form
    rw [mvTo_length] at hlv
    by_cases hil : i < ls.length
    · rcases HF.out with h0 | ⟨b, off, rfl, hlo, hcell⟩
      · omega
      obtain ⟨q0, q1, q2, q3⟩ := hcell i hil
      have d0 := Carries.of lo hb1 _ _ hlo q0
      have d1 := Carries.of lo hb1 _ _ hlo q1
      have d2 := Carries.of lo hb1 _ _ hlo q2
      have d3 := Carries.of lo hb1 _ _ hlo q3
      clear hcell q0 q1 q2 q3
      try dsimp only at d0 d1 d2 d3
      have hsucc := mvTo_succ ls i
      generalize arF ls i = xf at d0 hsucc
      generalize arS ls i = xs at d1
      generalize arU ls i = xu at d2
      generalize arT ls i = xt at d3 hsucc
      have HSU := Lib.hid hsucc; clear hsucc
      have x31 : wr.cell? ⟨w.heap.size + 1 + 1 + 1, 1, none⟩ = some lv := by have h := r3.out.cell (i := 1) (by omega); simpa using h
      have HML := Lib.hid (mvTo_length ls i)
      subst hlv
      have HA := Lib.hid ((World.ownsRow.alloc hmv.out (.cells #[.int .i64 xf, .int .i64 xs, .bool xu, .int .i64 xt] 138)).alloc (.cells #[.int .i64 xf, .int .i64 (i : Int), .int .i64 xt] 189))
      have hg0 := Lib.hid hmv.out.lt
      clear hmv
      go_wp2_with (refine wpList_append_mv rfl (.tmp 20) (.tmp 27) rfl (w.heap.size + 1 + 1 + 1 + 1) _ (mvTo ls i) rfl HA.out (wr.heap.size + 1) (xf, (i : Int), xt) rfl (by simp) (by simp) (by simp) (by rw [HML.out]; omega) (by simp; omega) ?_; intro v' w' hown' hgrow; obtain ⟨va, vc, hva⟩ := MRow.form hown'; rw [show (mvTo ls i ++ [(xf, (i : Int), xt)]).length = i + 1 by rw [List.length_append, HML.out]; rfl] at hva; subst hva; have hR3 := ((r3.out.alloc (.cells #[.int .i64 xf, .int .i64 xs, .bool xu, .int .i64 xt] 138)).alloc (.cells #[.int .i64 xf, .int .i64 (i : Int), .int .i64 xt] 189)).of_block (hgrow.block _ (by simp; omega) (fun h => by have := (hg0.out _ h.symm).1; omega)); have c31 := hR3.cell (i := 1) (by omega); have f31 := hR3.frozen 1)
      have hbw : Below w.heap.size w ((wr.alloc (.cells #[.int .i64 xf, .int .i64 xs, .bool xu, .int .i64 xt] 138)).alloc (.cells #[.int .i64 xf, .int .i64 (i : Int), .int .i64 xt] 189)) := (hb1.alloc hb1.size _).alloc (by simp; have := hb1.size; omega) _
      have hw4 : Below w.heap.size w w' := hbw.grown hgrow (by simp; omega) (fun g hg => by have := (hg0.out g hg).1; omega)
      have hR2 := Lib.hid (((r2.out.alloc (.cells #[.int .i64 xf, .int .i64 xs, .bool xu, .int .i64 xt] 138)).alloc (.cells #[.int .i64 xf, .int .i64 (i : Int), .int .i64 xt] 189)).of_block (hgrow.block _ (by simp; omega) (fun h => by have := (hg0.out _ h.symm).1; omega)))
      have hRS := Lib.hid (((rs.out.alloc (.cells #[.int .i64 xf, .int .i64 xs, .bool xu, .int .i64 xt] 138)).alloc (.cells #[.int .i64 xf, .int .i64 (i : Int), .int .i64 xt] 189)).of_block (hgrow.block _ (by simp; omega) (fun h => by have := (hg0.out _ h.symm).1; omega)))
      have z4 : w.heap.size + 1 + 1 + 1 < w'.heap.size := hR3.lt
      have N2 := Lib.hid (hR2.out.setOther (a := ⟨w.heap.size + 1 + 1 + 1, 1, none⟩) (by show w.heap.size + 1 ≠ w.heap.size + 1 + 1 + 1; omega) (.slice va (i + 1) vc))
      have NS := Lib.hid (hRS.out.setOther (a := ⟨w.heap.size + 1 + 1 + 1, 1, none⟩) (by show w.heap.size + 1 + 1 ≠ w.heap.size + 1 + 1 + 1; omega) (.slice va (i + 1) vc))
      have N3 : Hid ((w'.setCell ⟨w.heap.size + 1 + 1 + 1, 1, none⟩ (.slice va (i + 1) vc)).rowIs (w.heap.size + 1 + 1 + 1) 185 2 (fun j => if j = 0 then .slice (some ⟨w.heap.size + 1 + 1, 0, none⟩) n n else (.slice va (i + 1) vc))) := (hR3.set 1 (.slice va (i + 1) vc)).congr (fun j hj => by
        have : j = 0 ∨ j = 1 := by omega
        rcases this with rfl | rfl <;> rfl)
      have NM : Hid (MRow (w.heap.size + 1 + 1 + 1 + 1) (w'.setCell ⟨w.heap.size + 1 + 1 + 1, 1, none⟩ (.slice va (i + 1) vc)) (.slice va (i + 1) vc) (mvTo ls (i + 1))) := by
        rw [HSU.out]
        exact ownsRow_keep hown' (fun b hb _ => Below.heap_setCell _ _ _ _ (by have := ownsRow_ge hown' hb; show b ≠ w.heap.size + 1 + 1 + 1; omega))
      have NB : Hid (Below w.heap.size w (w'.setCell ⟨w.heap.size + 1 + 1 + 1, 1, none⟩ (.slice va (i + 1) vc))) := hw4.setCell (p := ⟨w.heap.size + 1 + 1 + 1, 1, none⟩) (by show w.heap.size ≤ w.heap.size + 1 + 1 + 1; omega) _
      clear hown' hgrow hbw hw4 hR2 hRS HA
      go_wp2_with fail
      go_roundw
      case rel => exact ⟨i + 1, _, by omega, by go_num, N2.out, NS.out, N3.out, NM.out, NB.out, by simpa using z4⟩
      case measure => simp [intOf]; omega
    · have hii : i = ls.length := by omega
      subst hii
      have x30 : wr.cell? ⟨w.heap.size + 1 + 1 + 1, 0, none⟩ = some (.slice (some ⟨w.heap.size + 1 + 1, 0, none⟩) n n) := by have h := r3.out.cell (i := 0) (by omega); simpa using h
      have x31 : wr.cell? ⟨w.heap.size + 1 + 1 + 1, 1, none⟩ = some lv := by have h := r3.out.cell (i := 1) (by omega); simpa using h
      have y0 := r2.out.cell (i := 0) (by omega)
      have y1 := r2.out.cell (i := 1) (by omega)
      have f0 := r2.out.frozen 0
      have f1 := r2.out.frozen 1
      have g2 := (r2.out.set 0 (.slice (some ⟨w.heap.size + 1 + 1, 0, none⟩) n n)).set 1 lv
      have u0 := g2.cell (i := 0) (by omega)
      have u1 := g2.cell (i := 1) (by omega)
      simp only [if_true, Nat.zero_ne_one, if_false] at u0 u1
      have hRS := Lib.hid ((rs.out.setOther (a := ⟨w.heap.size + 1, 0, none⟩) (by show w.heap.size + 1 + 1 ≠ w.heap.size + 1; omega) (.slice (some ⟨w.heap.size + 1 + 1, 0, none⟩) n n)).setOther (a := ⟨w.heap.size + 1, 1, none⟩) (by show w.heap.size + 1 + 1 ≠ w.heap.size + 1; omega) lv)
      have hNM : Hid (MRow (w.heap.size + 1 + 1 + 1 + 1) ((wr.setCell ⟨w.heap.size + 1, 0, none⟩ (.slice (some ⟨w.heap.size + 1 + 1, 0, none⟩) n n)).setCell ⟨w.heap.size + 1, 1, none⟩ lv) lv (mvTo ls ls.length)) :=
        ownsRow_keep (ownsRow_keep hmv.out (fun b hb _ => Below.heap_setCell _ _ _ _ (by have := ownsRow_ge hmv.out hb; show b ≠ w.heap.size + 1; omega))) (fun b hb _ => Below.heap_setCell _ _ _ _ (by have := ownsRow_ge hmv.out hb; show b ≠ w.heap.size + 1; omega))
      have hBF : Hid (Below w.heap.size w ((wr.setCell ⟨w.heap.size + 1, 0, none⟩ (.slice (some ⟨w.heap.size + 1 + 1, 0, none⟩) n n)).setCell ⟨w.heap.size + 1, 1, none⟩ lv)) := (hb1.setCell (p := ⟨w.heap.size + 1, 0, none⟩) (by show w.heap.size ≤ w.heap.size + 1; omega) _).setCell (p := ⟨w.heap.size + 1, 1, none⟩) (by show w.heap.size ≤ w.heap.size + 1; omega) _
      subst hlv
      clear g2 r2 rs r3 hmv hb1
      go_wp2_with fail
      refine bodyPost_ret (v := .agg #[.slice (some ⟨w.heap.size + 1 + 1, 0, none⟩) n n, .slice la ls.length lc]) (by simp [results, Tryz.results141, go_sem, u0, u1]) rfl ?_
      refine ⟨_, rfl, ⟨_, _, rfl, ?_, ?_⟩, hBF.out⟩
      · have h := texts_of_row (ss := List.replicate n ByteArray.empty) (by rw [List.length_replicate]; exact hRS.out) (fun i hi => by
          rw [List.length_replicate] at hi
          simp [stN, List.getD, hi])
        rw [List.length_replicate] at h
        exact h.low (by omega)
      · have h := hNM.out.at
        exact MovesAt.low h (by omega)

end Go.Proofs.YtnmoocgocnjdjaaGreat
