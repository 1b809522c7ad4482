/- ROWS OF VIOLATIONS (three ints each): eqPersistencyViolation(S), rows that the call owns, one more, marks. The texts on moves, turned by program (gpv.py). -/
import Derived.StillTailTactics
import Derived.Test.YtgmnknlnlmcmfaaVRgbt
import Derived.Test.YtgmnknlnlmcmfaaVTrp
import Derived.Test.YtgmnknlnlmcmfaaVApb
import Derived.Test.YtgmnknlnlmcmfaaVOvk
namespace Go.Proofs.Ytgmnknlnlmcmfaa
open Go.RowKit

theorem Try.infoPv : (Try.prog.info? 106).map (fun i => (i.zero, i.size, i.bytes)) = some (some (.agg #[.int .i64 0, .int .i64 0, .int .i64 0]), 3, 24) := by kernel_rfl

set_option maxRecDepth 100000 in
set_option maxHeartbeats 400000 in
theorem eqPV_any (a b c a' b' c' : Int) (w : World) :
    Calls Try.prog 77 #[.agg #[.int .i64 a, .int .i64 b, .int .i64 c], .agg #[.int .i64 a', .int .i64 b', .int .i64 c']] w (RetB w (decide ((a, b, c) = (a', b', c')))) := by
  go_enter Try.func77, Try.ntmps77
  by_cases h1 : a = a'
  · subst h1
    have g1 : (a != a) = false := by simp
    by_cases h2 : b = b'
    · subst h2
      have g2 : (b != b) = false := by simp
      by_cases h3 : c = c'
      · subst h3
        have g3 : (c != c) = false := by simp
        go_wp2
        go_ret
        exact ⟨by simp, by (repeat' (first | (with_reducible exact Below.refl _ _) | (with_reducible assumption) | (with_reducible refine Below.alloc ?_ ?_ _) | (with_reducible refine Below.drew ?_) | (with_reducible refine below_drewN ?_ _) | (with_reducible refine Below.setCell ?_ ?_ _) | go_size))⟩
      · have g3 : (c != c') = true := by simpa using h3
        have hd : decide ((a, b, c) = (a, b, c')) = false := by simp [h3]
        rw [hd]; clear hd h3
        go_wp2
        go_ret
        exact ⟨rfl, by (repeat' (first | (with_reducible exact Below.refl _ _) | (with_reducible assumption) | (with_reducible refine Below.alloc ?_ ?_ _) | (with_reducible refine Below.drew ?_) | (with_reducible refine below_drewN ?_ _) | (with_reducible refine Below.setCell ?_ ?_ _) | go_size))⟩
    · have g2 : (b != b') = true := by simpa using h2
      have hd : decide ((a, b, c) = (a, b', c')) = false := by simp [h2]
      rw [hd]; clear hd h2
      go_wp2
      go_ret
      exact ⟨rfl, by (repeat' (first | (with_reducible exact Below.refl _ _) | (with_reducible assumption) | (with_reducible refine Below.alloc ?_ ?_ _) | (with_reducible refine Below.drew ?_) | (with_reducible refine below_drewN ?_ _) | (with_reducible refine Below.setCell ?_ ?_ _) | go_size))⟩
  · have g1 : (a != a') = true := by simpa using h1
    have hd : decide ((a, b, c) = (a', b', c')) = false := by simp [h1]
    rw [hd]; clear hd h1
    go_wp2
    go_ret
    exact ⟨rfl, by (repeat' (first | (with_reducible exact Below.refl _ _) | (with_reducible assumption) | (with_reducible refine Below.alloc ?_ ?_ _) | (with_reducible refine Below.drew ?_) | (with_reducible refine below_drewN ?_ _) | (with_reducible refine Below.setCell ?_ ?_ _) | go_size))⟩

set_option maxRecDepth 100000 in
set_option maxHeartbeats 400000 in
theorem eqPVS_any (v v' : Value) (zs ys : List Mv) (w : World) (lo lo' : Nat) (hv : MovesAt lo w v zs) (hv' : MovesAt lo' w v' ys) (hn : zs.length ≤ 1048576) (hn' : ys.length ≤ 1048576) :
    Calls Try.prog 32 #[v, v'] w (RetB w (decide (zs = ys))) := by
  obtain ⟨ao, cap, rfl, hc, hz⟩ := hv
  obtain ⟨ao', cap', rfl, hc', hz'⟩ := hv'
  by_cases hl : zs.length = ys.length
  · have hb : ((zs.length : Int) != (ys.length : Int)) = false := by simp [hl]
    by_cases hzs : 0 < zs.length
    · rcases hz with h0 | ⟨b, off, rfl, hlo, hcell⟩
      · omega
      rcases hz' with h0 | ⟨b', off', rfl, hlo', hcell'⟩
      · omega
      have HC := Lib.hid hcell; clear hcell
      have HC' := Lib.hid hcell'; clear hcell'
      have HL := Lib.hid hl
      have hl1 : zs.length ≤ ys.length := by omega
      have hl2 : ys.length ≤ zs.length := by omega
      clear hl
      go_enter Try.func32, Try.ntmps32
      go_wp2
      go_loopw [5] (fun i wr => ∃ k : Nat, k ≤ zs.length ∧ i = .int .i64 k ∧ Hid (zs.take k = ys.take k) ∧ Below w.heap.size w wr) (fun i _ => zs.length - (intOf i).toNat)
      case atStart => exact ⟨0, Nat.zero_le _, rfl, rfl, Below.refl _ _⟩
      case round =>
        obtain ⟨k, hk, rfl, ht, hb1⟩ := hrel
        by_cases hlt : k < zs.length
        · have hk2 : k < ys.length := by omega
          obtain ⟨c0, c1, c2⟩ := HC.out k hlt
          obtain ⟨e0, e1, e2⟩ := HC'.out k hk2
          have d0 := Carries.of lo hb1 _ _ hlo c0
          have d1 := Carries.of lo hb1 _ _ hlo c1
          have d2 := Carries.of lo hb1 _ _ hlo c2
          have d3 := Carries.of lo' hb1 _ _ hlo' e0
          have d4 := Carries.of lo' hb1 _ _ hlo' e1
          have d5 := Carries.of lo' hb1 _ _ hlo' e2
          clear c0 c1 c2 e0 e1 e2
          have HD : Hid (decide ((mvF zs k, mvB zs k, mvT zs k) = (mvF ys k, mvB ys k, mvT ys k)) = decide (zs[k] = ys[k])) := by rw [mv_getD hlt, mv_getD hk2]; exact rfl
          go_wp2
          go_still_tail 8, (by kernel_rfl)
          change wpList _ _ _ _ _ wr.drew
          go_wp2_with fail
          refine (eqPV_any _ _ _ _ _ _ _).mono ?_
          rintro e w1 ⟨rfl, hb2⟩
          have hw1 : Below w.heap.size w w1 := by
            refine Below.trans ?_ (hb2.mono ?_)
            · (repeat' (first | (with_reducible exact Below.refl _ _) | (with_reducible assumption) | (with_reducible refine Below.alloc ?_ ?_ _) | (with_reducible refine Below.drew ?_) | (with_reducible refine below_drewN ?_ _) | (with_reducible refine Below.setCell ?_ ?_ _) | go_size))
            · simpa using hb1.size
          rw [HD.out]
          cases hd : decide (zs[k] = ys[k]) with
          | false =>
            have hne : ¬ zs[k] = ys[k] := of_decide_eq_false hd
            have hfin : Hid (decide (zs = ys) = false) := decide_eq_false (list_ne_of hlt hk2 hne)
            clear hd hne
            go_wp2_with fail
            go_ret
            refine ⟨?_, hw1⟩
            rw [hfin.out]; rfl
          | true =>
            have hs := Lib.hid (take_succ_of hlt hk2 ht.out (of_decide_eq_true hd))
            clear hd
            go_wp2_with fail
            go_roundw
            case rel => exact ⟨k + 1, by omega, by go_num, hs, hw1⟩
            case measure => simp [intOf]; omega
        · go_wp2
          go_ret
          refine ⟨?_, hb1⟩
          have h1 := ht.out
          rw [List.take_of_length_le (by omega), List.take_of_length_le (by omega)] at h1
          simp [h1]
    · have hz0 : zs = [] := List.eq_nil_of_length_eq_zero (by omega)
      have hy0 : ys = [] := List.eq_nil_of_length_eq_zero (by omega)
      subst hz0; subst hy0
      simp only [List.length_nil]
      clear hz hz' hc hc' hb hl hzs hn hn'
      go_enter Try.func32, Try.ntmps32
      go_wp2
      go_rounds 1
      go_ret
      exact ⟨rfl, Below.refl _ _⟩
  · have hb : ((zs.length : Int) != (ys.length : Int)) = true := by rw [bne_iff_ne]; omega
    have hd : decide (zs = ys) = false := by rw [decide_eq_false_iff_not]; rintro rfl; exact hl rfl
    rw [hd]; clear hd
    clear hz hz'
    go_enter Try.func32, Try.ntmps32
    go_wp2
    go_ret
    exact ⟨rfl, Below.refl _ _⟩



def pvCells : List Mv → List Value
  | [] => []
  | m :: ms => .int .i64 m.1 :: .int .i64 m.2.1 :: .int .i64 m.2.2 :: pvCells ms

theorem pvCells_length : ∀ ms : List Mv, (pvCells ms).length = ms.length * 3
  | [] => rfl
  | m :: ms => by simp only [pvCells, List.length_cons, pvCells_length ms]; omega

theorem pvCells_append : ∀ a b : List Mv, pvCells (a ++ b) = pvCells a ++ pvCells b
  | [], _ => rfl
  | m :: ms, b => by simp only [List.cons_append, pvCells, pvCells_append ms b]

theorem pvCells_get : ∀ (ms : List Mv) (i : Nat), i < ms.length → (pvCells ms)[i * 3]? = some (.int .i64 (mvF ms i)) ∧ (pvCells ms)[i * 3 + 1]? = some (.int .i64 (mvB ms i)) ∧ (pvCells ms)[i * 3 + 2]? = some (.int .i64 (mvT ms i))
  | [], i, h => absurd h (Nat.not_lt_zero _)
  | m :: ms, 0, _ => ⟨rfl, rfl, rfl⟩
  | m :: ms, i + 1, h => by
    have ih := pvCells_get ms i (by simpa using h)
    have e1 : (i + 1) * 3 = i * 3 + 3 := by omega
    have s1 : mvF (m :: ms) (i + 1) = mvF ms i := by simp [mvF]
    have s2 : mvB (m :: ms) (i + 1) = mvB ms i := by simp [mvB]
    have s3 : mvT (m :: ms) (i + 1) = mvT ms i := by simp [mvT]
    rw [e1, s1, s2, s3]
    exact ⟨ih.1, ih.2.1, ih.2.2⟩

abbrev PRow (B : Nat) (w : World) (v : Value) (ms : List Mv) : Prop := w.ownsRow B 106 3 v ms.length (pvCells ms)

theorem PRow.form {B : Nat} {w : World} {v : Value} {ms : List Mv} (h : PRow B w v ms) : ∃ a c, v = .slice a ms.length c := by
  rcases h.2 with ⟨rfl, hn⟩ | ⟨g, cap, cur, rfl, _⟩
  · exact ⟨none, 0, by rw [hn]⟩
  · exact ⟨_, _, rfl⟩

theorem PRow.at {B : Nat} {w : World} {v : Value} {ms : List Mv} (h : PRow B w v ms) : MovesAt B w v ms := by
  have h0 := h
  rcases h.2 with ⟨rfl, hn⟩ | ⟨g, cap, cur, rfl, hb, hg, hnc, _⟩
  · exact ⟨none, 0, by rw [hn], by omega, Or.inl hn⟩
  · refine ⟨_, _, rfl, hnc, Or.inr ⟨g, 0, rfl, hb, fun i hi => ⟨?_, ?_, ?_⟩⟩⟩
    · rw [Nat.zero_add, h0.cellAt (i * 3) (by omega)]; exact (pvCells_get ms i hi).1
    · rw [Nat.zero_add, h0.cellAt (i * 3 + 1) (by omega)]; exact (pvCells_get ms i hi).2.1
    · rw [Nat.zero_add, h0.cellAt (i * 3 + 2) (by omega)]; exact (pvCells_get ms i hi).2.2

theorem PRow.box {B : Nat} {w : World} {v : Value} {ms : List Mv} (h : PRow B w v ms) : CellBox B w.heap.size w v ms.length 3 := by
  have h0 := h
  rcases h.2 with ⟨rfl, hn⟩ | ⟨g, cap, cur, rfl, hb, hg, hnc, _⟩
  · exact ⟨none, 0, by rw [hn], Or.inl hn⟩
  · refine ⟨_, _, rfl, Or.inr ⟨g, 0, rfl, hb, (Array.getElem?_eq_some_iff.1 hg).1, fun i hi => ⟨?_, ?_⟩⟩⟩
    · rw [Nat.zero_add, h0.cellAt i hi]
      exact ⟨_, List.getElem?_eq_getElem (by rw [pvCells_length]; exact hi)⟩
    · exact h0.frozenAt _

theorem PRow.nil (B : Nat) (w : World) : PRow B w (.slice none 0 0) [] := World.ownsRow_nil _ _ _ _

theorem PRow.low {B B' : Nat} {w : World} {v : Value} {ms : List Mv} (h : PRow B w v ms) (hB : B' ≤ B) : PRow B' w v ms := Go.Joins.ownsRow_le h hB

theorem PRow.stir {B l k : Nat} {w w' : World} {v : Value} {ms : List Mv} (h : PRow B w v ms) (hs : Stir l k w w') (hk : k ≤ B) : PRow B w' v ms := by
  refine ⟨h.1, ?_⟩
  rcases h.2 with hn | ⟨g, cap, cur, rfl, hb, hg, rest⟩
  · exact Or.inl hn
  · exact Or.inr ⟨g, cap, cur, rfl, hb, (hs.block g (Array.getElem?_eq_some_iff.1 hg).1 (Or.inr (by omega))).trans hg, rest⟩

theorem PRow.cap {B : Nat} {w : World} {v : Value} {ms : List Mv} (h : PRow B w v ms) : ∃ a c, v = .slice a ms.length c ∧ ms.length ≤ c := by
  obtain ⟨a, c, rfl, hc, _⟩ := h.at
  exact ⟨a, c, rfl, hc⟩

theorem run_append_pv (w : World) (ty : TypeId) (base : Nat) (v : Value) (n : Nat) (xs : List Value) (hown : w.ownsRow base 106 3 v n xs) (b : Nat) (u0 u1 u2 : Value)
    (hc0 : w.cell? ⟨b, 0, none⟩ = some u0) (hc1 : w.cell? ⟨b, 1, none⟩ = some u1) (hc2 : w.cell? ⟨b, 2, none⟩ = some u2) (o0 : u0.oneCell' = true) (o1 : u1.oneCell' = true) (o2 : u2.oneCell' = true) (hn : n ≤ 1073741824) (hbase : base ≤ w.heap.size) :
    ∃ v' w', (Builtin.append_ #[46, 46] ty #[v, .slice (some ⟨b, 0, none⟩) 1 1]).run Try.prog w = .ok v' w' ∧ w'.ownsRow base 106 3 v' (n + 1) (xs ++ [u0, u1, u2]) ∧ w.grownBy w' v.ownBlock := by
  obtain ⟨i, hi, hzz⟩ := Option.map_eq_some_iff.1 Try.infoPv
  simp only [Prod.mk.injEq] at hzz
  obtain ⟨hz, hs, hby⟩ := hzz
  obtain ⟨v', w', hr, h2, h3, _⟩ := run_append_own (P := Try.prog) w base 46 ty 106 i _ 3 24 Try.underlying46 hi hz hs hby rfl (by omega) v n xs hown ⟨b, 0, none⟩ 1 1 [u0, u1, u2]
    rfl (fun j u hj => by
      match j, hj with
      | 0, hj => simp only [List.getElem?_cons_zero, Option.some.injEq] at hj; subst hj; exact hc0
      | 1, hj => simp only [List.getElem?_cons_succ, List.getElem?_cons_zero, Option.some.injEq] at hj; subst hj; exact hc1
      | 2, hj => simp only [List.getElem?_cons_succ, List.getElem?_cons_zero, Option.some.injEq] at hj; subst hj; exact hc2
      | (j + 3), hj => simp at hj) (fun u hu => by
      simp only [List.mem_cons, List.not_mem_nil, or_false] at hu
      rcases hu with rfl | rfl | rfl
      · exact o0
      · exact o1
      · exact o2) (by unfold maxLen; omega) (by omega) hbase
  exact ⟨v', w', hr, h2, h3⟩

theorem wp_append_pv {o : Oper} {a : Act} {w : World} {K : Act → World → Prop} {Q : Exit → Act → World → Prop} (s x : Operand)
    (ho : o.op = .call { callee := .builtin .append, args := #[s, x], argTypes := #[46, 46] })
    (base : Nat) (v : Value) (ls : List Mv) (hs : a.eval s = v) (hown : PRow base w v ls) (b : Nat) (m : Mv) (hx : a.eval x = .slice (some ⟨b, 0, none⟩) 1 1)
    (hc0 : w.cell? ⟨b, 0, none⟩ = some (.int .i64 m.1)) (hc1 : w.cell? ⟨b, 1, none⟩ = some (.int .i64 m.2.1)) (hc2 : w.cell? ⟨b, 2, none⟩ = some (.int .i64 m.2.2)) (hn : ls.length ≤ 1073741824) (hbase : base ≤ w.heap.size)
    (h : ∀ v' w', PRow base w' v' (ls ++ [m]) → w.grownBy w' v.ownBlock → K (a.put o.dst v') w') : o.wp Try.prog a w K Q := by
  obtain ⟨v', w', hr, h2, h3⟩ := run_append_pv w o.type base v _ _ hown b _ _ _ hc0 hc1 hc2 rfl rfl rfl hn hbase
  unfold Oper.wp execOp
  simp only [ho, resolve, invoke, builtin, Sem.run_bind, Sem.run_pure, Result.andThen_ok, List.map_toArray, List.map_cons, List.map_nil, hs, hx, hr]
  refine h v' w' ?_ h3
  show w'.ownsRow base _ 3 v' (ls ++ [m]).length (pvCells (ls ++ [m]))
  rw [pvCells_append, List.length_append]
  exact h2

theorem wpList_append_pv {ops : Array Oper} {rest : List Oper} {o : Oper} {a : Act} {w : World} {Q : Exit → Act → World → Prop} (hgd : o.guard = none) (s x : Operand)
    (ho : o.op = .call { callee := .builtin .append, args := #[s, x], argTypes := #[46, 46] })
    (base : Nat) (v : Value) (ls : List Mv) (hs : a.eval s = v) (hown : PRow base w v ls) (b : Nat) (m : Mv) (hx : a.eval x = .slice (some ⟨b, 0, none⟩) 1 1)
    (hc0 : w.cell? ⟨b, 0, none⟩ = some (.int .i64 m.1)) (hc1 : w.cell? ⟨b, 1, none⟩ = some (.int .i64 m.2.1)) (hc2 : w.cell? ⟨b, 2, none⟩ = some (.int .i64 m.2.2)) (hn : ls.length ≤ 1073741824) (hbase : base ≤ w.heap.size)
    (h : ∀ v' w', PRow base w' v' (ls ++ [m]) → w.grownBy w' v.ownBlock → wpList Try.prog ops Q rest (a.put o.dst v') w') : wpList Try.prog ops Q (o :: rest) a w :=
  wpList_plain hgd fun _ hK => wp_append_pv s x ho base v ls hs hown b m hx hc0 hc1 hc2 hn hbase fun v' w' h2 h3 => hK _ _ (h v' w' h2 h3)

/-- (k, k + 1, k + 2), (k + 3, ..), .. -/
def upPVs (k : Int) (n : Nat) : List Mv := (List.range n).map fun (i : Nat) => (k + 3 * (i : Int), k + 3 * (i : Int) + 1, k + 3 * (i : Int) + 1 + 1)

theorem upPVs_length (k : Int) (n : Nat) : (upPVs k n).length = n := by simp [upPVs]

theorem upPVs_get {k : Int} {n i : Nat} (h : i < n) : mvF (upPVs k n) i = k + 3 * (i : Int) ∧ mvB (upPVs k n) i = k + 3 * (i : Int) + 1 ∧ mvT (upPVs k n) i = k + 3 * (i : Int) + 1 + 1 := by
  simp [mvF, mvB, mvT, upPVs, List.getD, h]

set_option maxHeartbeats 2000000 in
theorem markPVS_any (v : Value) (n : Nat) (k : Int) (w : World) (lo hi : Nat) (hv : CellBox lo hi w v n 3) (hn : n ≤ 1048576) (h0 : 0 ≤ k) (h1 : k ≤ 109951162777600) :
    Calls Try.prog 33 #[v, .int .i64 k] w (fun e w' => e = .returned (.int .i64 (k + 3 * (n : Int))) ∧ Stir lo hi w w' ∧ w'.heap.size = w.heap.size ∧
      (∀ b off c, v = .slice (some ⟨b, off, none⟩) n c → ∀ i, i < n → w'.cell? ⟨b, off + i * 3, none⟩ = some (.int .i64 (k + 3 * (i : Int))) ∧ w'.cell? ⟨b, off + i * 3 + 1, none⟩ = some (.int .i64 (k + 3 * (i : Int) + 1)) ∧ w'.cell? ⟨b, off + i * 3 + 2, none⟩ = some (.int .i64 (k + 3 * (i : Int) + 1 + 1)))) := by
  obtain ⟨ao, cap, rfl⟩ := hv.form
  have HB := Lib.hid hv; clear hv
  go_enter Try.func33, Try.ntmps33
  go_wp2_with fail
  go_loopw [1, 5] (fun kv i wr => ∃ j : Nat, j ≤ n ∧ i = .int .i64 j ∧ kv = .int .i64 (k + 3 * (j : Int)) ∧ Stir lo hi w wr ∧ Hid (CellBox lo hi wr (.slice ao n cap) n 3) ∧ wr.heap.size = w.heap.size ∧
    Hid (∀ b off, ao = some ⟨b, off, none⟩ → ∀ q, q < j → wr.cell? ⟨b, off + q * 3, none⟩ = some (.int .i64 (k + 3 * (q : Int))) ∧ wr.cell? ⟨b, off + q * 3 + 1, none⟩ = some (.int .i64 (k + 3 * (q : Int) + 1)) ∧ wr.cell? ⟨b, off + q * 3 + 2, none⟩ = some (.int .i64 (k + 3 * (q : Int) + 1 + 1)))) (fun _ i _ => n - (intOf i).toNat)
  case atStart => exact ⟨0, Nat.zero_le _, rfl, by simp, Stir.refl _ _ _, HB.out, rfl, fun _ _ _ q hq => absurd hq (Nat.not_lt_zero _)⟩
  case round =>
    obtain ⟨j, hj, rfl, rfl, hm, hbox, hsz, hex⟩ := hrel
    have HSZ := Lib.hid hsz; clear hsz
    by_cases hlt : j < n
    · obtain ⟨a, c, e, hz⟩ := id hbox.out
      simp only [Value.slice.injEq, true_and] at e
      obtain ⟨rfl, rfl⟩ := e
      rcases hz with h | ⟨b, off, rfl, hlo, hhi, hcell⟩
      · omega
      obtain ⟨⟨u0, c0⟩, f0⟩ := hcell (j * 3) (by omega)
      obtain ⟨⟨u1, c1⟩, f1⟩ := hcell (j * 3 + 1) (by omega)
      obtain ⟨⟨u2, c2⟩, f2⟩ := hcell (j * 3 + 2) (by omega)
      rw [← Nat.add_assoc] at c1 f1 c2 f2
      clear hcell
      have HM3 := Lib.hid (((hm.set (p := ⟨b, off + j * 3, none⟩) hlo hhi (.int .i64 (k + 3 * (j : Int)))).set (p := ⟨b, off + j * 3 + 1, none⟩) hlo hhi (.int .i64 (k + 3 * (j : Int) + 1))).set (p := ⟨b, off + j * 3 + 2, none⟩) hlo hhi (.int .i64 (k + 3 * (j : Int) + 1 + 1)))
      have HB3 := Lib.hid (((hbox.out.set ⟨b, off + j * 3, none⟩ (.int .i64 (k + 3 * (j : Int)))).set ⟨b, off + j * 3 + 1, none⟩ (.int .i64 (k + 3 * (j : Int) + 1))).set ⟨b, off + j * 3 + 2, none⟩ (.int .i64 (k + 3 * (j : Int) + 1 + 1)))
      have HPUT := Lib.hid (trip_put (.int .i64 (k + 3 * (j : Int))) (.int .i64 (k + 3 * (j : Int) + 1)) (.int .i64 (k + 3 * (j : Int) + 1 + 1)) c0 c1 c2)
      have HX3 : Hid (∀ b' off', some (⟨b, off, none⟩ : Addr) = some ⟨b', off', none⟩ → ∀ q, q < j + 1 → (((wr.setCell ⟨b, off + j * 3, none⟩ (.int .i64 (k + 3 * (j : Int)))).setCell ⟨b, off + j * 3 + 1, none⟩ (.int .i64 (k + 3 * (j : Int) + 1))).setCell ⟨b, off + j * 3 + 2, none⟩ (.int .i64 (k + 3 * (j : Int) + 1 + 1))).cell? ⟨b', off' + q * 3, none⟩ = some (.int .i64 (k + 3 * (q : Int))) ∧
          (((wr.setCell ⟨b, off + j * 3, none⟩ (.int .i64 (k + 3 * (j : Int)))).setCell ⟨b, off + j * 3 + 1, none⟩ (.int .i64 (k + 3 * (j : Int) + 1))).setCell ⟨b, off + j * 3 + 2, none⟩ (.int .i64 (k + 3 * (j : Int) + 1 + 1))).cell? ⟨b', off' + q * 3 + 1, none⟩ = some (.int .i64 (k + 3 * (q : Int) + 1)) ∧
          (((wr.setCell ⟨b, off + j * 3, none⟩ (.int .i64 (k + 3 * (j : Int)))).setCell ⟨b, off + j * 3 + 1, none⟩ (.int .i64 (k + 3 * (j : Int) + 1))).setCell ⟨b, off + j * 3 + 2, none⟩ (.int .i64 (k + 3 * (j : Int) + 1 + 1))).cell? ⟨b', off' + q * 3 + 2, none⟩ = some (.int .i64 (k + 3 * (q : Int) + 1 + 1))) := by
        intro b' off' he q hq
        obtain ⟨rfl, rfl⟩ : b = b' ∧ off = off' := by simpa using he
        obtain ⟨p0, p1, p2, pf⟩ := HPUT.out
        by_cases e : q = j
        · subst e
          exact ⟨p0, p1, p2⟩
        · obtain ⟨g0, g1, g2⟩ := hex.out b off rfl q (by omega)
          exact ⟨pf _ _ (by omega) (by omega) (by omega) g0, pf _ _ (by omega) (by omega) (by omega) g1, pf _ _ (by omega) (by omega) (by omega) g2⟩
      clear hm hbox hex HPUT
      go_wp2_with fail
      go_roundw
      case rel => exact ⟨j + 1, by omega, by go_num, by simp; omega, HM3.out, HB3.out, by simpa using HSZ.out, HX3.out⟩
      case measure => simp [intOf]; omega
    · have hjj : j = n := by omega
      subst hjj
      go_wp2_with fail
      go_ret
      exact ⟨rfl, hm, HSZ.out, fun b off c he q hq => hex.out b off (by injection he with h1 h2 h3) q hq⟩

set_option maxHeartbeats 1000000 in
theorem heldPVS_any (v : Value) (n : Nat) (k : Int) (w : World) (lo : Nat) (hv : MovesAt lo w v (upPVs k n)) (hn : n ≤ 1048576) (h0 : 0 ≤ k) (h1 : k ≤ 109951162777600) :
    Calls Try.prog 34 #[v, .int .i64 k] w (RetV w (.int .i64 (k + 3 * (n : Int)))) := by
  obtain ⟨ao, cap, rfl, hc, hz⟩ := hv
  rw [upPVs_length] at hz ⊢
  have HF := Lib.hid hz; clear hz hc
  go_enter Try.func34, Try.ntmps34
  go_wp2_with fail
  go_loopw [1, 5] (fun kv i wr => ∃ j : Nat, j ≤ n ∧ i = .int .i64 j ∧ kv = .int .i64 (k + 3 * (j : Int)) ∧ Below w.heap.size w wr) (fun _ i _ => n - (intOf i).toNat)
  case atStart => exact ⟨0, Nat.zero_le _, rfl, by simp, Below.refl _ _⟩
  case round =>
    obtain ⟨j, hj, rfl, rfl, hb1⟩ := hrel
    by_cases hlt : j < n
    · rcases HF.out with h | ⟨b, off, rfl, hlo, hcell⟩
      · omega
      obtain ⟨q0, q1, q2⟩ := hcell j hlt
      obtain ⟨p0, p1, p2⟩ := upPVs_get (k := k) hlt
      simp only [p0] at q0
      simp only [p1] at q1
      simp only [p2] at q2
      have c0 := Carries.of lo hb1 _ _ hlo q0
      have c1 := Carries.of lo hb1 _ _ hlo q1
      have c2 := Carries.of lo hb1 _ _ hlo q2
      have t0 : (k + 3 * (j : Int) != k + 3 * (j : Int)) = false := by simp
      have t1 : (k + 3 * (j : Int) + 1 != k + 3 * (j : Int) + 1) = false := by simp
      have t2 : (k + 3 * (j : Int) + 1 + 1 != k + 3 * (j : Int) + 1 + 1) = false := by simp
      clear hcell q0 q1 q2 p0 p1 p2
      go_wp2_with fail
      go_roundw
      case rel => exact ⟨j + 1, by omega, by go_num, by simp; omega, by first | exact hb1 | (repeat' (first | (with_reducible exact Below.refl _ _) | (with_reducible assumption) | (with_reducible refine Below.alloc ?_ ?_ _) | (with_reducible refine Below.drew ?_) | (with_reducible refine below_drewN ?_ _) | (with_reducible refine Below.setCell ?_ ?_ _) | go_size))⟩
      case measure => simp [intOf]; omega
    · have hjj : j = n := by omega
      subst hjj
      go_wp2_with fail
      go_ret
      exact ⟨rfl, hb1⟩

/-- the marks k, k + 1, .. are written into a row of moves -/
theorem markPVs_row (v : Value) (ms : List Mv) (k : Int) (w : World) (B : Nat) (h : PRow B w v ms) (hn : ms.length ≤ 1048576) (h0 : 0 ≤ k) (h1 : k ≤ 109951162777600) :
    Calls Try.prog 33 #[v, .int .i64 k] w (fun e w' => e = .returned (.int .i64 (k + 3 * (ms.length : Int))) ∧ Stir B w.heap.size w w' ∧ MovesAt B w' v (upPVs k ms.length)) := by
  have hat := h.at
  refine (markPVS_any v ms.length k w B w.heap.size h.box hn h0 h1).mono fun e w' ⟨he, hs, _, hx⟩ => ⟨he, hs, ?_⟩
  obtain ⟨ao, cap, rfl, hc, hz⟩ := hat
  refine ⟨ao, cap, by rw [upPVs_length], by rw [upPVs_length]; exact hc, ?_⟩
  rw [upPVs_length]
  rcases hz with hz | ⟨b, off, rfl, hlo, hcell⟩
  · exact Or.inl hz
  · refine Or.inr ⟨b, off, rfl, hlo, fun i hi => ?_⟩
    obtain ⟨p0, p1, p2⟩ := upPVs_get (k := k) hi
    dsimp only
    rw [p0, p1, p2]
    exact hx b off cap rfl i hi

theorem PVsAt_bound {lo : Nat} {w : World} {v : Value} {ls : List Mv} (h : MovesAt lo w v ls) : Bound w.heap.size v := by
  intro b off len cap hv hl
  obtain ⟨ao, cp, rfl, _, hz⟩ := h
  injection hv with h1 h2 h3
  rcases hz with hz | ⟨b', off', ha, hlo, hcell⟩
  · omega
  · rw [ha] at h1
    injection h1 with h1
    injection h1 with h1 h4 h5
    have := cell_old (hcell 0 (by omega)).1
    simp at this
    omega

theorem PVsAt_stir {lo hi l k : Nat} {w w' : World} {v : Value} {ls : List Mv} (h : MovesAt lo w v ls) (hB : Bound hi v) (hm : Stir l k w w') (hl : hi ≤ l) : MovesAt lo w' v ls := by
  obtain ⟨ao, cap, rfl, hc, hz⟩ := h
  refine ⟨ao, cap, rfl, hc, ?_⟩
  rcases hz with hz | ⟨b, off, rfl, hlo, hcell⟩
  · exact Or.inl hz
  · by_cases h0 : ls.length = 0
    · exact Or.inl h0
    · have hbl := hB b off _ _ rfl (by omega)
      exact Or.inr ⟨b, off, rfl, hlo, fun i hi => ⟨hm.cell (Or.inl (by simp; omega)) (hcell i hi).1, hm.cell (Or.inl (by simp; omega)) (hcell i hi).2.1, hm.cell (Or.inl (by simp; omega)) (hcell i hi).2.2⟩⟩

theorem selfPVs (L : List Mv) : decide (L = L) = true := decide_eq_true rfl

end Go.Proofs.Ytgmnknlnlmcmfaa
