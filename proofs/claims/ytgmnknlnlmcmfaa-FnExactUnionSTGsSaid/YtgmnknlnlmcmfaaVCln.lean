/- APPEND of pairs of cells (signals, labels) onto a slice of the call's own; slices.Clone of signals and of labels. -/
import Derived.Test.YtgmnknlnlmcmfaaVStga
import Derived.Test.YtgmnknlnlmcmfaaVApb
import Derived.Laws.AppendOwnNone
import Derived.Lib.BufferMore
namespace Go.Proofs.Ytgmnknlnlmcmfaa
open Go.RowKit

/-- the cells of n pairs -/
def pairCells (x y : Nat → Value) : Nat → List Value
  | 0 => []
  | n + 1 => pairCells x y n ++ [x n, y n]
theorem pairCells_length (x y : Nat → Value) : ∀ n, (pairCells x y n).length = n * 2
  | 0 => rfl
  | n + 1 => by simp [pairCells, pairCells_length x y n]; omega
theorem pairCells_get (x y : Nat → Value) : ∀ n i, i < n → (pairCells x y n)[i * 2]? = some (x i) ∧ (pairCells x y n)[i * 2 + 1]? = some (y i)
  | 0, i, h => absurd h (Nat.not_lt_zero _)
  | n + 1, i, h => by
    have hl := pairCells_length x y n
    unfold pairCells
    by_cases e : i = n
    · subst e
      constructor
      · rw [List.getElem?_append_right (by omega), hl]; simp
      · rw [List.getElem?_append_right (by omega), hl, show i * 2 + 1 - i * 2 = 1 by omega]; rfl
    · obtain ⟨h0, h1⟩ := pairCells_get x y n i (by omega)
      exact ⟨by rw [List.getElem?_append_left (by omega)]; exact h0, by rw [List.getElem?_append_left (by omega)]; exact h1⟩
theorem pairCells_mem (x y : Nat → Value) : ∀ n u, u ∈ pairCells x y n → ∃ i, i < n ∧ (u = x i ∨ u = y i)
  | 0, u, h => by simp [pairCells] at h
  | n + 1, u, h => by
    unfold pairCells at h
    simp only [List.mem_append, List.mem_cons, List.not_mem_nil, or_false] at h
    rcases h with h | h
    · obtain ⟨i, hi, e⟩ := pairCells_mem x y n u h
      exact ⟨i, by omega, e⟩
    · exact ⟨n, Nat.lt_succ_self _, h⟩

theorem pairs_of_owns {w : World} {base : Nat} {e : TypeId} {v : Value} {n : Nat} {x y : Nat → Value} (h : w.ownsRow base e 2 v n (pairCells x y n)) : PairsAt base w v n x y := by
  have h0 := h
  rcases h.2 with ⟨rfl, hn⟩ | ⟨g, cap, cur, rfl, hb, hg, hnc, _, _, _⟩
  · exact ⟨_, _, by rw [hn], Nat.le_of_eq hn, Or.inl hn⟩
  · refine ⟨_, _, rfl, hnc, Or.inr ⟨g, 0, rfl, hb, fun i hi => ?_⟩⟩
    obtain ⟨e0, e1⟩ := pairCells_get x y n i hi
    exact ⟨by rw [Nat.zero_add, h0.cellAt (i * 2) (by omega)]; exact e0, by rw [Nat.zero_add, h0.cellAt (i * 2 + 1) (by omega)]; exact e1⟩

theorem run_append_pairs (T e : TypeId) (z : Value) (bytes : Nat) (hu : Try.prog.underlying T = some (.slice e)) (hinfo : (Try.prog.info? e).map (fun i => (i.zero, i.size, i.bytes)) = some (some z, 2, bytes)) (hzc : z.cells.size = 2) (hb48 : bytes ≤ 48)
    (w : World) (ty : TypeId) (base lo : Nat) (v : Value) (n : Nat) (xs : List Value) (hown : w.ownsRow base e 2 v n xs) (src : Value) (m : Nat) (x y : Nat → Value) (hsrc : PairsAt lo w src m x y)
    (hx : ∀ i, (x i).oneCell' = true) (hy : ∀ i, (y i).oneCell' = true) (hlen : n + m ≤ 1073741824) (hbase : base ≤ w.heap.size) :
    ∃ v' w', (Builtin.append_ #[T, T] ty #[v, src]).run Try.prog w = .ok v' w' ∧ w'.ownsRow base e 2 v' (n + m) (xs ++ pairCells x y m) ∧ w.grownBy w' v.ownBlock := by
  obtain ⟨i, hi, hzz⟩ := Option.map_eq_some_iff.1 hinfo
  simp only [Prod.mk.injEq] at hzz
  obtain ⟨hz, hs, hby⟩ := hzz
  obtain ⟨ao, cap, rfl, hc, hcase⟩ := hsrc
  rcases hcase with rfl | ⟨b, off, rfl, _, hcell⟩
  · have hrun : (Builtin.append_ #[T, T] ty #[v, .slice ao 0 cap]).run Try.prog w = .ok v w := by
      rcases hown.2 with ⟨rfl, rfl⟩ | ⟨g, cap', cur, rfl, _, _, hnc, _⟩
      · cases ao <;> simp [Builtin.append_, run_underlying hu, sizeOf, typeInfo, hi, Builtin.lenOf, Builtin.firstCells, loadCells, loadCellsFrom]
      · cases ao <;> simp [Builtin.append_, run_underlying hu, sizeOf, typeInfo, hi, Builtin.lenOf, Builtin.firstCells, hnc, storeCells, loadCells, loadCellsFrom]
    exact ⟨v, w, hrun, by simpa [pairCells] using hown, ⟨rfl, rfl, rfl, Nat.le_refl _, fun _ _ _ => rfl⟩⟩
  · obtain ⟨v', w', hr, h2, h3, _⟩ := run_append_own (P := Try.prog) w base T ty e i _ 2 bytes hu hi hz hs hby hzc (by omega) v n xs hown ⟨b, off, none⟩ m cap (pairCells x y m)
      (pairCells_length x y m) (fun j u hj => by
        have hjl : j < m * 2 := by rw [← pairCells_length x y m]; exact (List.getElem?_eq_some_iff.1 hj).1
        obtain ⟨e0, e1⟩ := pairCells_get x y m (j / 2) (by omega)
        obtain ⟨q0, q1⟩ := hcell (j / 2) (by omega)
        rw [Addr.add_mid]
        rcases Nat.mod_two_eq_zero_or_one j with hm | hm
        · rw [show j / 2 * 2 = j by omega] at e0 q0
          rw [q0, ← e0]; exact hj
        · rw [Nat.add_assoc, show j / 2 * 2 + 1 = j by omega] at q1
          rw [show j / 2 * 2 + 1 = j by omega] at e1
          rw [q1, ← e1]; exact hj) (fun u hu => by
        obtain ⟨k, _, h | h⟩ := pairCells_mem x y m u hu
        · rw [h]; exact hx k
        · rw [h]; exact hy k) (by unfold maxLen; omega) (by
        have : (n + m) * bytes ≤ 1073741824 * 48 := Nat.mul_le_mul hlen hb48
        omega) hbase
    exact ⟨v', w', hr, h2, h3⟩

/-- a call returns a row of its own of these pairs -/
def RetPairs (w : World) (e : TypeId) (n : Nat) (x y : Nat → Value) (en : Ending) (w' : World) : Prop := ∃ v, en = .returned v ∧ w'.ownsRow w.heap.size e 2 v n (pairCells x y n) ∧ Below w.heap.size w w'

theorem run_append_sigs (w : World) (ty : TypeId) (base lo : Nat) (v : Value) (n : Nat) (xs : List Value) (hown : w.ownsRow base 118 2 v n xs) (src : Value) (ss : List Sig) (hsrc : SigsAt lo w src ss) (hlen : n + ss.length ≤ 1073741824) (hbase : base ≤ w.heap.size) :
    ∃ v' w', (Builtin.append_ #[31, 31] ty #[v, src]).run Try.prog w = .ok v' w' ∧ w'.ownsRow base 118 2 v' (n + ss.length) (xs ++ pairCells (fun i => .string (sgN ss i)) (fun i => .int .i64 (sgK ss i)) ss.length) ∧ w.grownBy w' v.ownBlock :=
  run_append_pairs _ _ _ 24 Try.underlying31 Try.infoSig rfl (by omega) w ty base lo v n xs hown src ss.length _ _ hsrc (fun _ => rfl) (fun _ => rfl) hlen hbase
theorem run_append_labs (w : World) (ty : TypeId) (base lo : Nat) (v : Value) (n : Nat) (xs : List Value) (hown : w.ownsRow base 113 2 v n xs) (src : Value) (ls : List Lab) (hsrc : LabsAt lo w src ls) (hlen : n + ls.length ≤ 1073741824) (hbase : base ≤ w.heap.size) :
    ∃ v' w', (Builtin.append_ #[61, 61] ty #[v, src]).run Try.prog w = .ok v' w' ∧ w'.ownsRow base 113 2 v' (n + ls.length) (xs ++ pairCells (fun i => .int .i64 (lbS ls i)) (fun i => .bool (lbU ls i)) ls.length) ∧ w.grownBy w' v.ownBlock :=
  run_append_pairs _ _ _ 16 Try.underlying61 Try.infoLab rfl (by omega) w ty base lo v n xs hown src ls.length _ _ hsrc (fun _ => rfl) (fun _ => rfl) hlen hbase

theorem wp_append_sigs {o : Oper} {a : Act} {w : World} {K : Act → World → Prop} {Q : Exit → Act → World → Prop} (s x : Operand)
    (ho : o.op = .call { callee := .builtin .append, args := #[s, x], argTypes := #[31, 31] })
    (base lo : Nat) (v : Value) (n : Nat) (xs : List Value) (hs : a.eval s = v) (hown : w.ownsRow base 118 2 v n xs) (src : Value) (ss : List Sig) (hx : a.eval x = src) (hsrc : SigsAt lo w src ss)
    (hlen : n + ss.length ≤ 1073741824) (hbase : base ≤ w.heap.size)
    (h : ∀ v' w', w'.ownsRow base 118 2 v' (n + ss.length) (xs ++ (pairCells (fun i => .string (sgN ss i)) (fun i => .int .i64 (sgK ss i)) ss.length)) → w.grownBy w' v.ownBlock → K (a.put o.dst v') w') : o.wp Try.prog a w K Q := by
  obtain ⟨v', w', hr, h2, h3⟩ := run_append_sigs w o.type base lo v n xs hown src ss hsrc hlen hbase
  unfold Oper.wp execOp
  simp only [ho, resolve, invoke, builtin, Sem.run_bind, Sem.run_pure, Result.andThen_ok, List.map_toArray, List.map_cons, List.map_nil, hs, hx, hr]
  exact h v' w' h2 h3
theorem wpList_append_sigs {ops : Array Oper} {rest : List Oper} {o : Oper} {a : Act} {w : World} {Q : Exit → Act → World → Prop} (hgd : o.guard = none) (s x : Operand)
    (ho : o.op = .call { callee := .builtin .append, args := #[s, x], argTypes := #[31, 31] })
    (base lo : Nat) (v : Value) (n : Nat) (xs : List Value) (hs : a.eval s = v) (hown : w.ownsRow base 118 2 v n xs) (src : Value) (ss : List Sig) (hx : a.eval x = src) (hsrc : SigsAt lo w src ss)
    (hlen : n + ss.length ≤ 1073741824) (hbase : base ≤ w.heap.size)
    (h : ∀ v' w', w'.ownsRow base 118 2 v' (n + ss.length) (xs ++ (pairCells (fun i => .string (sgN ss i)) (fun i => .int .i64 (sgK ss i)) ss.length)) → w.grownBy w' v.ownBlock → wpList Try.prog ops Q rest (a.put o.dst v') w') : wpList Try.prog ops Q (o :: rest) a w :=
  wpList_plain hgd fun _ hK => wp_append_sigs s x ho base lo v n xs hs hown src ss hx hsrc hlen hbase fun v' w' h2 h3 => hK _ _ (h v' w' h2 h3)

theorem wp_append_labs {o : Oper} {a : Act} {w : World} {K : Act → World → Prop} {Q : Exit → Act → World → Prop} (s x : Operand)
    (ho : o.op = .call { callee := .builtin .append, args := #[s, x], argTypes := #[61, 61] })
    (base lo : Nat) (v : Value) (n : Nat) (xs : List Value) (hs : a.eval s = v) (hown : w.ownsRow base 113 2 v n xs) (src : Value) (ls : List Lab) (hx : a.eval x = src) (hsrc : LabsAt lo w src ls)
    (hlen : n + ls.length ≤ 1073741824) (hbase : base ≤ w.heap.size)
    (h : ∀ v' w', w'.ownsRow base 113 2 v' (n + ls.length) (xs ++ (pairCells (fun i => .int .i64 (lbS ls i)) (fun i => .bool (lbU ls i)) ls.length)) → w.grownBy w' v.ownBlock → K (a.put o.dst v') w') : o.wp Try.prog a w K Q := by
  obtain ⟨v', w', hr, h2, h3⟩ := run_append_labs w o.type base lo v n xs hown src ls hsrc hlen hbase
  unfold Oper.wp execOp
  simp only [ho, resolve, invoke, builtin, Sem.run_bind, Sem.run_pure, Result.andThen_ok, List.map_toArray, List.map_cons, List.map_nil, hs, hx, hr]
  exact h v' w' h2 h3
theorem wpList_append_labs {ops : Array Oper} {rest : List Oper} {o : Oper} {a : Act} {w : World} {Q : Exit → Act → World → Prop} (hgd : o.guard = none) (s x : Operand)
    (ho : o.op = .call { callee := .builtin .append, args := #[s, x], argTypes := #[61, 61] })
    (base lo : Nat) (v : Value) (n : Nat) (xs : List Value) (hs : a.eval s = v) (hown : w.ownsRow base 113 2 v n xs) (src : Value) (ls : List Lab) (hx : a.eval x = src) (hsrc : LabsAt lo w src ls)
    (hlen : n + ls.length ≤ 1073741824) (hbase : base ≤ w.heap.size)
    (h : ∀ v' w', w'.ownsRow base 113 2 v' (n + ls.length) (xs ++ (pairCells (fun i => .int .i64 (lbS ls i)) (fun i => .bool (lbU ls i)) ls.length)) → w.grownBy w' v.ownBlock → wpList Try.prog ops Q rest (a.put o.dst v') w') : wpList Try.prog ops Q (o :: rest) a w :=
  wpList_plain hgd fun _ hK => wp_append_labs s x ho base lo v n xs hs hown src ls hx hsrc hlen hbase fun v' w' h2 h3 => hK _ _ (h v' w' h2 h3)

set_option maxRecDepth 100000 in
set_option maxHeartbeats 400000 in
theorem clonelabs_any (v : Value) (ls : List Lab) (w : World) (lo : Nat) (hv : LabsAt lo w v ls) (hn : ls.length ≤ 4194304) :
    Calls Try.prog 149 #[v] w (RetPairs w 113 ls.length (fun i => .int .i64 (lbS ls i)) (fun i => .bool (lbU ls i))) := by
  have hv' := hv
  obtain ⟨ao, cap, rfl, _, hz⟩ := hv'
  cases ao with
  | none =>
    have h0 : ls.length = 0 := by
      rcases hz with h | ⟨_, _, h, _⟩
      · exact h
      · cases h
    unfold RetPairs
    rw [h0]
    clear hv hz
    have hnil : ∀ (w : World) c, (binOp .eql 61 (.slice none 0 c) (.slice none 0 0)).run Try.prog w = .ok (.bool true) w := fun w c => Lib.run_eql_slice_nil_nil w 0 c Try.underlying61
    go_enter Try.func149, Try.ntmps149
    go_wp2_with fail
    go_ret
    exact ⟨_, rfl, World.ownsRow_nil _ _ _ _, by (repeat' (first | (with_reducible exact Below.refl _ _) | (with_reducible assumption) | (with_reducible refine Below.alloc ?_ ?_ _) | (with_reducible refine Below.drew ?_) | (with_reducible refine below_drewN ?_ _) | (with_reducible refine Below.setCell ?_ ?_ _) | go_size))⟩
  | some aa =>
    clear hz
    have HV := Lib.hid hv; clear hv
    have hnil : ∀ (w : World) n c, (binOp .eql 61 (.slice (some aa) n c) (.slice none 0 0)).run Try.prog w = .ok (.bool false) w := fun w n c => Lib.run_eql_slice_some_nil w aa n c Try.underlying61
    go_enter Try.func149, Try.ntmps149
    have hown : (w.alloc (.cells #[] 113)).ownsRow w.heap.size 113 2 (.slice (some ⟨w.heap.size, 0, none⟩) 0 0) 0 [] :=
      ⟨rfl, Or.inr ⟨w.heap.size, 0, #[], rfl, Nat.le_refl _, heap_alloc_new w _, Nat.le_refl _, Nat.zero_le _, rfl, rfl⟩⟩
    have HO := Lib.hid hown; clear hown
    have hsrc := Lib.hid (HV.out.keep (Carries.alloc (Carries.refl lo w) (.cells #[] 113)))
    go_wp2_with (refine wpList_append_labs rfl (.tmp 5) (.tmp 6) rfl w.heap.size lo _ 0 [] rfl HO.out _ ls rfl hsrc.out (by omega) (by simp) ?_; intro v' w' hown' hgrow)
    go_ret
    refine ⟨_, rfl, ?_, ?_⟩
    · simpa using hown'
    · exact ((Below.refl _ _).alloc (Nat.le_refl _) _).grown hgrow (by simp) (fun k hk => by cases hk; exact Nat.le_refl _)

end Go.Proofs.Ytgmnknlnlmcmfaa
