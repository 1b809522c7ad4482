/- UNION OF GRAPHS, the model: the block of the result while labels are appended to its field; append of one label. -/
import Derived.Test.YtgmnknlnlmcmfaaVUnse
import Derived.Test.YtgmnknlnlmcmfaaVUng
namespace Go.Proofs.Ytgmnknlnlmcmfaa
open Go.RowKit

theorem run_append_lab1 (w : World) (ty : TypeId) (base : Nat) (v : Value) (n : Nat) (xs : List Value) (hown : w.ownsRow base 113 2 v n xs) (b : Nat) (u0 u1 : Value)
    (hc0 : w.cell? ⟨b, 0, none⟩ = some u0) (hc1 : w.cell? ⟨b, 1, none⟩ = some u1) (o0 : u0.oneCell' = true) (o1 : u1.oneCell' = true) (hn : n ≤ 1073741824) (hbase : base ≤ w.heap.size) :
    ∃ v' w', (Builtin.append_ #[61, 61] ty #[v, .slice (some ⟨b, 0, none⟩) 1 1]).run Try.prog w = .ok v' w' ∧ w'.ownsRow base 113 2 v' (n + 1) (xs ++ [u0, u1]) ∧ w.grownBy w' v.ownBlock := by
  obtain ⟨i, hi, hzz⟩ := Option.map_eq_some_iff.1 Try.infoLab
  simp only [Prod.mk.injEq] at hzz
  obtain ⟨hz, hs, hby⟩ := hzz
  obtain ⟨v', w', hr, h2, h3, _⟩ := run_append_own (P := Try.prog) w base 61 ty 113 i _ 2 16 Try.underlying61 hi hz hs hby rfl (by omega) v n xs hown ⟨b, 0, none⟩ 1 1 [u0, u1]
    rfl (fun j u hj => by
      match j, hj with
      | 0, hj => simp only [List.getElem?_cons_zero, Option.some.injEq] at hj; subst hj; exact hc0
      | 1, hj => simp only [List.getElem?_cons_succ, List.getElem?_cons_zero, Option.some.injEq] at hj; subst hj; exact hc1
      | (j + 2), hj => simp at hj) (fun u hu => by
      simp only [List.mem_cons, List.not_mem_nil, or_false] at hu
      rcases hu with rfl | rfl
      · exact o0
      · exact o1) (by unfold maxLen; omega) (by omega) hbase
  exact ⟨v', w', hr, h2, h3⟩

theorem wp_append_lab1 {o : Oper} {a : Act} {w : World} {K : Act → World → Prop} {Q : Exit → Act → World → Prop} (s x : Operand)
    (ho : o.op = .call { callee := .builtin .append, args := #[s, x], argTypes := #[61, 61] })
    (base : Nat) (v : Value) (n : Nat) (xs : List Value) (hs : a.eval s = v) (hown : w.ownsRow base 113 2 v n xs) (b : Nat) (z : Int) (u : Bool) (hx : a.eval x = .slice (some ⟨b, 0, none⟩) 1 1)
    (hc0 : w.cell? ⟨b, 0, none⟩ = some (.int .i64 z)) (hc1 : w.cell? ⟨b, 1, none⟩ = some (.bool u)) (hn : n ≤ 1073741824) (hbase : base ≤ w.heap.size)
    (h : ∀ v' w', w'.ownsRow base 113 2 v' (n + 1) (xs ++ [.int .i64 z, .bool u]) → w.grownBy w' v.ownBlock → K (a.put o.dst v') w') : o.wp Try.prog a w K Q := by
  obtain ⟨v', w', hr, h2, h3⟩ := run_append_lab1 w o.type base v _ _ hown b _ _ hc0 hc1 rfl rfl hn hbase
  unfold Oper.wp execOp
  simp only [ho, resolve, invoke, builtin, Sem.run_bind, Sem.run_pure, Result.andThen_ok, List.map_toArray, List.map_cons, List.map_nil, hs, hx, hr]
  exact h v' w' h2 h3
theorem wpList_append_lab1 {ops : Array Oper} {rest : List Oper} {o : Oper} {a : Act} {w : World} {Q : Exit → Act → World → Prop} (hgd : o.guard = none) (s x : Operand)
    (ho : o.op = .call { callee := .builtin .append, args := #[s, x], argTypes := #[61, 61] })
    (base : Nat) (v : Value) (n : Nat) (xs : List Value) (hs : a.eval s = v) (hown : w.ownsRow base 113 2 v n xs) (b : Nat) (z : Int) (u : Bool) (hx : a.eval x = .slice (some ⟨b, 0, none⟩) 1 1)
    (hc0 : w.cell? ⟨b, 0, none⟩ = some (.int .i64 z)) (hc1 : w.cell? ⟨b, 1, none⟩ = some (.bool u)) (hn : n ≤ 1073741824) (hbase : base ≤ w.heap.size)
    (h : ∀ v' w', w'.ownsRow base 113 2 v' (n + 1) (xs ++ [.int .i64 z, .bool u]) → w.grownBy w' v.ownBlock → wpList Try.prog ops Q rest (a.put o.dst v') w') : wpList Try.prog ops Q (o :: rest) a w :=
  wpList_plain hgd fun _ hK => wp_append_lab1 s x ho base v n xs hs hown b z u hx hc0 hc1 hn hbase fun v' w' h2 h3 => hK _ _ (h v' w' h2 h3)

/-- the graph's block while its labels grow -/
def UnOut (B tb : Nat) (P : Int) (vt vs : Value) (ns : Nat) (xs : List Value) (st : ByteArray) (L : List Lab) (m : Nat) (v7 : Value) (w : World) : Prop :=
  (w.cell? ⟨tb, 0, none⟩ = some (.int .i64 P) ∧ w.cell? ⟨tb, 1, none⟩ = some vt ∧ w.cell? ⟨tb, 2, none⟩ = some vs ∧ w.cell? ⟨tb, 3, none⟩ = some v7 ∧ w.cell? ⟨tb, 4, none⟩ = some (.string st)) ∧
  w.frozen? ⟨tb, 3, none⟩ = false ∧ TyAt w tb 63 ∧ w.ownsRow B 118 2 vs ns xs ∧ w.ownsRow B 113 2 v7 m (pairCells (lbX L) (lbY L) m)
theorem UnOut.after {B tb : Nat} {P : Int} {vt vs : Value} {ns : Nat} {xs : List Value} {st : ByteArray} {L : List Lab} {m : Nat} {v7 : Value} {w w' : World} (h : UnOut B tb P vt vs ns xs st L m v7 w) (hb : Below w.heap.size w w') : UnOut B tb P vt vs ns xs st L m v7 w' := by
  obtain ⟨⟨h0, h1, h2, h3, h4⟩, hf, hT, hs, hl⟩ := h
  have C := Carries.of 0 hb
  exact ⟨⟨cell_carry h0 C, cell_carry h1 C, cell_carry h2 C, cell_carry h3 C, cell_carry h4 C⟩, (hb.frozen (p := ⟨tb, 3, none⟩) hT.lt).trans hf, hT.keep hb, owns_after hs hb, owns_after hl hb⟩
theorem UnOut.mid {B tb : Nat} {P : Int} {vt vs : Value} {ns : Nat} {xs : List Value} {st : ByteArray} {L : List Lab} {m : Nat} {v7 : Value} {w w' : World} (h : UnOut B tb P vt vs ns xs st L m v7 w) (hg : w.grownBy w' v7.ownBlock) : w'.cell? ⟨tb, 3, none⟩ = some v7 ∧ w'.frozen? ⟨tb, 3, none⟩ = false := by
  obtain ⟨⟨h0, h1, h2, h3, h4⟩, hf, hT, hs, hl⟩ := h
  have hne := owns_ne hl hT (by decide)
  exact ⟨hg.cell h3 hne, (World.frozen?_of_block (a := ⟨tb, 3, none⟩) (hg.block tb hT.lt hne)).trans hf⟩
theorem UnOut.push {B tb : Nat} {P : Int} {vt vs : Value} {ns : Nat} {xs : List Value} {st : ByteArray} {L : List Lab} {m : Nat} {v7 v' : Value} {w w' : World} (h : UnOut B tb P vt vs ns xs st L m v7 w) (hg : w.grownBy w' v7.ownBlock)
    (hown : w'.ownsRow B 113 2 v' (m + 1) (pairCells (lbX L) (lbY L) (m + 1))) : UnOut B tb P vt vs ns xs st L (m + 1) v' (w'.setCell ⟨tb, 3, none⟩ v') := by
  obtain ⟨g3, gf⟩ := h.mid hg
  obtain ⟨⟨h0, h1, h2, h3, h4⟩, hf, hT, hs, hl⟩ := h
  have hne := owns_ne hl hT (by decide)
  have hT' := hT.grown hg hne
  refine ⟨⟨?_, ?_, ?_, World.cell?_setCell_same _ _ _ g3, ?_⟩, ?_, hT'.set _ _, ?_, owns_setT hown (p := ⟨tb, 3, none⟩) hT' (by decide) _⟩
  · exact (World.cell?_setCell_other _ _ _ _ (by simp)).trans (hg.cell h0 hne)
  · exact (World.cell?_setCell_other _ _ _ _ (by simp)).trans (hg.cell h1 hne)
  · exact (World.cell?_setCell_other _ _ _ _ (by simp)).trans (hg.cell h2 hne)
  · exact (World.cell?_setCell_other _ _ _ _ (by simp)).trans (hg.cell h4 hne)
  · rw [World.frozen?_setCell]; exact gf
  · exact owns_setT (hs.kept hg (rows_apartT hs hl (by decide))) (p := ⟨tb, 3, none⟩) hT' (by decide) _

/-- a graph's block as it was made -/
def Tb5 (tb : Nat) (w : World) : Prop :=
  (w.cell? ⟨tb, 0, none⟩ = some (.int .i64 0) ∧ w.cell? ⟨tb, 1, none⟩ = some (.slice none 0 0) ∧ w.cell? ⟨tb, 2, none⟩ = some (.slice none 0 0) ∧ w.cell? ⟨tb, 3, none⟩ = some (.slice none 0 0) ∧ w.cell? ⟨tb, 4, none⟩ = some (.string ⟨#[]⟩)) ∧
  (w.frozen? ⟨tb, 0, none⟩ = false ∧ w.frozen? ⟨tb, 1, none⟩ = false ∧ w.frozen? ⟨tb, 2, none⟩ = false ∧ w.frozen? ⟨tb, 3, none⟩ = false ∧ w.frozen? ⟨tb, 4, none⟩ = false) ∧ TyAt w tb 63
theorem Tb5.after {tb : Nat} {w w' : World} (h : Tb5 tb w) (hb : Below w.heap.size w w') : Tb5 tb w' := by
  obtain ⟨⟨h0, h1, h2, h3, h4⟩, ⟨f0, f1, f2, f3, f4⟩, hT⟩ := h
  have C := Carries.of 0 hb
  have F : ∀ i, w'.frozen? ⟨tb, i, none⟩ = w.frozen? ⟨tb, i, none⟩ := fun i => hb.frozen (p := ⟨tb, i, none⟩) hT.lt
  exact ⟨⟨cell_carry h0 C, cell_carry h1 C, cell_carry h2 C, cell_carry h3 C, cell_carry h4 C⟩, ⟨(F 0).trans f0, (F 1).trans f1, (F 2).trans f2, (F 3).trans f3, (F 4).trans f4⟩, hT.keep hb⟩
theorem Tb5.grown {tb B size n : Nat} {e : TypeId} {v : Value} {xs : List Value} {w w' : World} (h : Tb5 tb w) (hown : w.ownsRow B e size v n xs) (hg : w.grownBy w' v.ownBlock) (hne : e ≠ 63) : Tb5 tb w' := by
  obtain ⟨⟨h0, h1, h2, h3, h4⟩, ⟨f0, f1, f2, f3, f4⟩, hT⟩ := h
  have hn := owns_ne hown hT hne
  have F : ∀ i, w'.frozen? ⟨tb, i, none⟩ = w.frozen? ⟨tb, i, none⟩ := fun i => World.frozen?_of_block (a := ⟨tb, i, none⟩) (hg.block tb hT.lt hn)
  exact ⟨⟨hg.cell h0 hn, hg.cell h1 hn, hg.cell h2 hn, hg.cell h3 hn, hg.cell h4 hn⟩, ⟨(F 0).trans f0, (F 1).trans f1, (F 2).trans f2, (F 3).trans f3, (F 4).trans f4⟩, hT.grown hg hn⟩

theorem uniL_zero (s u : List Lab) : pairCells (lbX s) (lbY s) s.length = pairCells (lbX (s ++ u)) (lbY (s ++ u)) s.length :=
  pairCells_congr _ fun i hi => by simp [lbX, lbY, lbS_app, lbU_app, hi]
theorem uniL_at {s u : List Lab} {n j : Nat} (hj : j < u.length) : lbX (s ++ movL n u.length u) (s.length + j) = .int .i64 (movA n (lbS u j) (lbU u j)) ∧ lbY (s ++ movL n u.length u) (s.length + j) = .bool (lbU u j) := by
  have h1 : ¬ s.length + j < s.length := by omega
  have h2 : s.length + j - s.length = j := by omega
  constructor
  · show Value.int .i64 (lbS _ _) = _
    rw [lbS_app, if_neg h1, h2, movL_S hj, if_pos hj]
  · show Value.bool (lbU _ _) = _
    rw [lbU_app, if_neg h1, h2, movL_U hj]
theorem goodS_mov {s : StgD} (h : goodS s = true) {i : Nat} (hi : i < s.labs.length) (d : Nat) : (0 ≤ lbS s.labs i → movA d (lbS s.labs i) (lbU s.labs i) = lbS s.labs i + d) ∧ (¬ 0 ≤ lbS s.labs i → movA d (lbS s.labs i) (lbU s.labs i) = lbS s.labs i) ∧ lbS s.labs i ≤ 8 := by
  have h8 := (goodS_lab h hi).2
  unfold goodS labsB at h
  simp only [Bool.and_eq_true, decide_eq_true_eq] at h
  refine ⟨fun h0 => ?_, fun h0 => ?_, h8⟩
  · unfold movA; rw [if_neg (by rintro ⟨q, _⟩; omega)]
  · rcases h.2.2.1 i hi with h | h
    · omega
    · unfold movA; rw [if_pos (by first | exact h | exact ⟨h.1, by simpa using h.2⟩)]
theorem uni_at {s0 s1 : StgD} {n0 n1 l0 l1 M B B1 : Nat} {P : Int} {t0 t1 : ByteArray} {W : World} {ua a5 a7 : Option Addr} {uc k5 k7 : Nat}
    (en0 : n0 = s0.sigs.length) (en1 : n1 = s1.sigs.length) (el0 : l0 = s0.labs.length) (el1 : l1 = s1.labs.length) (et0 : t0 = s0.start) (et1 : t1 = s1.start) (eP : P = (unN s0.net s1.net).places) (eM : M = (unN s0.net s1.net).ts.length)
    (hp : -9223372036854775808 ≤ P ∧ P ≤ 9223372036854775807)
    (hat : TrsAt B W (.slice ua M uc) (unN s0.net s1.net).ts)
    (hrs : W.ownsRow B1 118 2 (.slice a5 (n0 + n1) k5) (n0 + n1) (pairCells (sgX (s0.sigs ++ s1.sigs)) (sgY (s0.sigs ++ s1.sigs)) (n0 + n1))) (h1 : B ≤ B1)
    (hrl : W.ownsRow B1 113 2 (.slice a7 (l0 + l1) k7) (l0 + l1) (pairCells (lbX (s0.labs ++ movL n0 l1 s1.labs)) (lbY (s0.labs ++ movL n0 l1 s1.labs)) (l0 + l1))) :
    StgAt B W (.agg #[.int .i64 P, .slice ua M uc, .slice a5 (n0 + n1) k5, .slice a7 (l0 + l1) k7, .string (t0 ++ t1)]) (uniS s0 s1) := by
  have es : (uniS s0 s1).sigs.length = n0 + n1 := by rw [en0, en1]; simp [uniS]
  have el : (uniS s0 s1).labs.length = l0 + l1 := by rw [el0, el1]; simp [uniS, movL_length]
  have eL : (uniS s0 s1).labs = s0.labs ++ movL n0 l1 s1.labs := by rw [en0, el1]; rfl
  have eP' : (uniS s0 s1).net.places = P := eP.symm
  refine ⟨.slice ua M uc, .slice a5 (n0 + n1) k5, .slice a7 (l0 + l1) k7, ?_, ⟨?_, ?_, _, rfl, hat⟩, ?_, ?_⟩
  · rw [eP, et0, et1]; rfl
  · rw [eP']; exact hp.1
  · rw [eP']; exact hp.2
  · have h2 := PairsAt.low (pairs_of_owns hrs) h1
    show PairsAt B W _ (uniS s0 s1).sigs.length (sgX (uniS s0 s1).sigs) (sgY (uniS s0 s1).sigs)
    rw [es]; exact h2
  · have h2 := PairsAt.low (pairs_of_owns hrl) h1
    show PairsAt B W _ (uniS s0 s1).labs.length (lbX (uniS s0 s1).labs) (lbY (uniS s0 s1).labs)
    rw [el, eL]; exact h2

end Go.Proofs.Ytgmnknlnlmcmfaa
