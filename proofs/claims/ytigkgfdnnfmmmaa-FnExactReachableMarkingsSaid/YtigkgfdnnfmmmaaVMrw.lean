/- WALKS: what may be written in a reachability graph: markStringS, markMoveS, heldMoveS, toReachabilityGraph once more, markReachabilityGraph. Boxes of cells that may be written.
   ROWS OF MOVES of the call's own: append of one move; what they read as; boxes. -/
import Derived.Test.YtigkgfdnnfmmmaaVTrp
import Derived.Test.YtigkgfdnnfmmmaaVWrm
namespace Go.Proofs.Ytigkgfdnnfmmmaa
open Go.RowKit

/-- (k, k + 1, k + 2), (k + 3, ..), .. -/
def upMoves (k : Int) (n : Nat) : List Mv := (List.range n).map fun (i : Nat) => (k + 3 * (i : Int), k + 3 * (i : Int) + 1, k + 3 * (i : Int) + 1 + 1)
theorem upMoves_length (k : Int) (n : Nat) : (upMoves k n).length = n := by simp [upMoves]
theorem upMoves_get {k : Int} {n i : Nat} (h : i < n) : mvF (upMoves k n) i = k + 3 * (i : Int) ∧ mvB (upMoves k n) i = k + 3 * (i : Int) + 1 ∧ mvT (upMoves k n) i = k + 3 * (i : Int) + 1 + 1 := by
  simp [mvF, mvB, mvT, upMoves, List.getD, h]

set_option maxHeartbeats 2000000 in
theorem markMoveS_any (v : Value) (n : Nat) (k : Int) (w : World) (lo hi : Nat) (hv : CellBox lo hi w v n 3) (hn : n ≤ 1048576) (h0 : 0 ≤ k) (h1 : k ≤ 109951162777600) :
    Calls Try.prog 56 #[v, .int .i64 k] w (fun e w' => e = .returned (.int .i64 (k + 3 * (n : Int))) ∧ Stir lo hi w w' ∧ w'.heap.size = w.heap.size ∧
      (∀ b off c, v = .slice (some ⟨b, off, none⟩) n c → ∀ i, i < n → w'.cell? ⟨b, off + i * 3, none⟩ = some (.int .i64 (k + 3 * (i : Int))) ∧ w'.cell? ⟨b, off + i * 3 + 1, none⟩ = some (.int .i64 (k + 3 * (i : Int) + 1)) ∧ w'.cell? ⟨b, off + i * 3 + 2, none⟩ = some (.int .i64 (k + 3 * (i : Int) + 1 + 1)))) := by
  obtain ⟨ao, cap, rfl⟩ := hv.form
  have HB := Lib.hid hv; clear hv
  go_enter Try.func56, Try.ntmps56
  go_wp2_with fail
  go_loopw [1, 5] (fun kv i wr => ∃ j : Nat, j ≤ n ∧ i = .int .i64 j ∧ kv = .int .i64 (k + 3 * (j : Int)) ∧ Stir lo hi w wr ∧ Hid (CellBox lo hi wr (.slice ao n cap) n 3) ∧ wr.heap.size = w.heap.size ∧
    Hid (∀ b off, ao = some ⟨b, off, none⟩ → ∀ q, q < j → wr.cell? ⟨b, off + q * 3, none⟩ = some (.int .i64 (k + 3 * (q : Int))) ∧ wr.cell? ⟨b, off + q * 3 + 1, none⟩ = some (.int .i64 (k + 3 * (q : Int) + 1)) ∧ wr.cell? ⟨b, off + q * 3 + 2, none⟩ = some (.int .i64 (k + 3 * (q : Int) + 1 + 1)))) (fun _ i _ => n - (intOf i).toNat)
  case atStart => exact ⟨0, Nat.zero_le _, rfl, by simp, Stir.refl _ _ _, HB.out, rfl, fun _ _ _ q hq => absurd hq (Nat.not_lt_zero _)⟩
  case round =>
    obtain ⟨j, hj, rfl, rfl, hm, hbox, hsz, hex⟩ := hrel
    have HSZ := Lib.hid hsz; clear hsz
    by_cases hlt : j < n
    · obtain ⟨a, c, e, hz⟩ := id hbox.out
      simp only [Value.slice.injEq, true_and] at e
      obtain ⟨rfl, rfl⟩ := e
      rcases hz with h | ⟨b, off, rfl, hlo, hhi, hcell⟩
      · omega
      obtain ⟨⟨u0, c0⟩, f0⟩ := hcell (j * 3) (by omega)
      obtain ⟨⟨u1, c1⟩, f1⟩ := hcell (j * 3 + 1) (by omega)
      obtain ⟨⟨u2, c2⟩, f2⟩ := hcell (j * 3 + 2) (by omega)
      rw [← Nat.add_assoc] at c1 f1 c2 f2
      clear hcell
      have HM3 := Lib.hid (((hm.set (p := ⟨b, off + j * 3, none⟩) hlo hhi (.int .i64 (k + 3 * (j : Int)))).set (p := ⟨b, off + j * 3 + 1, none⟩) hlo hhi (.int .i64 (k + 3 * (j : Int) + 1))).set (p := ⟨b, off + j * 3 + 2, none⟩) hlo hhi (.int .i64 (k + 3 * (j : Int) + 1 + 1)))
      have HB3 := Lib.hid (((hbox.out.set ⟨b, off + j * 3, none⟩ (.int .i64 (k + 3 * (j : Int)))).set ⟨b, off + j * 3 + 1, none⟩ (.int .i64 (k + 3 * (j : Int) + 1))).set ⟨b, off + j * 3 + 2, none⟩ (.int .i64 (k + 3 * (j : Int) + 1 + 1)))
      have HPUT := Lib.hid (trip_put (.int .i64 (k + 3 * (j : Int))) (.int .i64 (k + 3 * (j : Int) + 1)) (.int .i64 (k + 3 * (j : Int) + 1 + 1)) c0 c1 c2)
      have HX3 : Hid (∀ b' off', some (⟨b, off, none⟩ : Addr) = some ⟨b', off', none⟩ → ∀ q, q < j + 1 → (((wr.setCell ⟨b, off + j * 3, none⟩ (.int .i64 (k + 3 * (j : Int)))).setCell ⟨b, off + j * 3 + 1, none⟩ (.int .i64 (k + 3 * (j : Int) + 1))).setCell ⟨b, off + j * 3 + 2, none⟩ (.int .i64 (k + 3 * (j : Int) + 1 + 1))).cell? ⟨b', off' + q * 3, none⟩ = some (.int .i64 (k + 3 * (q : Int))) ∧
          (((wr.setCell ⟨b, off + j * 3, none⟩ (.int .i64 (k + 3 * (j : Int)))).setCell ⟨b, off + j * 3 + 1, none⟩ (.int .i64 (k + 3 * (j : Int) + 1))).setCell ⟨b, off + j * 3 + 2, none⟩ (.int .i64 (k + 3 * (j : Int) + 1 + 1))).cell? ⟨b', off' + q * 3 + 1, none⟩ = some (.int .i64 (k + 3 * (q : Int) + 1)) ∧
          (((wr.setCell ⟨b, off + j * 3, none⟩ (.int .i64 (k + 3 * (j : Int)))).setCell ⟨b, off + j * 3 + 1, none⟩ (.int .i64 (k + 3 * (j : Int) + 1))).setCell ⟨b, off + j * 3 + 2, none⟩ (.int .i64 (k + 3 * (j : Int) + 1 + 1))).cell? ⟨b', off' + q * 3 + 2, none⟩ = some (.int .i64 (k + 3 * (q : Int) + 1 + 1))) := by
        intro b' off' he q hq
        obtain ⟨rfl, rfl⟩ : b = b' ∧ off = off' := by simpa using he
        obtain ⟨p0, p1, p2, pf⟩ := HPUT.out
        by_cases e : q = j
        · subst e
          exact ⟨p0, p1, p2⟩
        · obtain ⟨g0, g1, g2⟩ := hex.out b off rfl q (by omega)
          exact ⟨pf _ _ (by omega) (by omega) (by omega) g0, pf _ _ (by omega) (by omega) (by omega) g1, pf _ _ (by omega) (by omega) (by omega) g2⟩
      clear hm hbox hex HPUT
      go_wp2_with fail
      go_roundw
      case rel => exact ⟨j + 1, by omega, by go_num, by simp; omega, HM3.out, HB3.out, by simpa using HSZ.out, HX3.out⟩
      case measure => simp [intOf]; omega
    · have hjj : j = n := by omega
      subst hjj
      go_wp2_with fail
      go_ret
      exact ⟨rfl, hm, HSZ.out, fun b off c he q hq => hex.out b off (by injection he with h1 h2 h3) q hq⟩

/-- an answer of toReachabilityGraph: what it reads as; its parts lie one behind the other, and may be written -/
def RgOw (B : Nat) (w : World) (v : Value) (r : RgD) : Prop :=
  ∃ (m : Nat) (vs vm : Value), v = .agg #[vs, vm] ∧ B ≤ m ∧ m ≤ w.heap.size ∧ CellBox B m w vs r.marks.length 1 ∧ CellBox m w.heap.size w vm r.moves.length 3 ∧ RgAt B w v r
theorem RgOw.at {B : Nat} {w : World} {v : Value} {r : RgD} (h : RgOw B w v r) : RgAt B w v r := by
  obtain ⟨_, _, _, _, _, _, _, _, h⟩ := h
  exact h

set_option maxRecDepth 100000 in
set_option maxHeartbeats 1000000 in
theorem markRg_at (v : Value) (r : RgD) (k : Int) (w0 w : World) (B : Nat) (hv : RgOw B w0 v r) (hsm : Same B w0 w) (hs : SmallRg r) (hk0 : 0 ≤ k) (hk1 : k ≤ 2200000000000) :
    Calls Try.prog 17 #[v, .int .i64 k] w (fun e w' => ∃ T : Int, e = .returned (.int .i64 T) ∧ 0 ≤ T ∧ Stir B w0.heap.size w w') := by
  obtain ⟨m, vs, vm, rfl, hBm, hmw, hb1, hb2, hat⟩ := hv
  obtain ⟨ss, ls⟩ := r
  obtain ⟨k1, k2⟩ := hs
  simp only at hb1 hb2 hat k1 k2 ⊢
  obtain ⟨a0, c0, rfl⟩ := hb1.form
  obtain ⟨a1, c1, rfl⟩ := hb2.form
  have z0 := hsm.1
  have HB1 := Lib.hid (hb1.same hsm (Nat.le_refl _)); clear hb1
  have HB2 := Lib.hid (hb2.same hsm hBm); clear hb2 hat hsm
  have K1 := k1.1; clear k1
  go_enter Try.func17, Try.ntmps17
  have hal : Below w.heap.size w (w.alloc (.cells #[.slice a0 ss.length c0, .slice a1 ls.length c1] 33)) := (Below.refl _ _).alloc (Nat.le_refl _) _
  go_wp2_with fail
  have x1 : (w.alloc (.cells #[.slice a0 ss.length c0, .slice a1 ls.length c1] 33)).cell? ⟨w.heap.size, 1, none⟩ = some (.slice a1 ls.length c1) := by simp
  generalize w.alloc (.cells #[.slice a0 ss.length c0, .slice a1 ls.length c1] 33) = W at hal x1 ⊢
  refine (markStringS_any _ ss.length k W B m (HB1.out.after hal) K1 (by omega) (by omega)).mono ?_
  rintro e w1 ⟨rfl, hst⟩
  have x1 := hst.cell (Or.inr (by simp; omega)) x1
  have HB3 := Lib.hid ((HB2.out.after hal).stir hst (Or.inr (Nat.le_refl _)))
  have HST := Lib.hid ((Stir.of B w0.heap.size hal).trans (hst.wide (Nat.le_refl _) hmw))
  clear hal hst HB1 HB2
  go_wp2_with fail
  refine (markMoveS_any _ ls.length (k + (ss.length : Int)) w1 m w0.heap.size HB3.out k2 (by omega) (by omega)).mono ?_
  rintro e w2 ⟨rfl, hst, _, _⟩
  have HST2 := Lib.hid (HST.out.trans (hst.wide hBm (Nat.le_refl _)))
  clear hst HST x1
  go_wp2_with fail
  go_ret
  exact ⟨k + (ss.length : Int) + 3 * (ls.length : Int), rfl, by omega, HST2.out⟩

set_option maxRecDepth 100000 in
set_option maxHeartbeats 1000000 in
theorem markRg_any (v : Value) (r : RgD) (w0 w : World) (B : Nat) (hv : RgOw B w0 v r) (hsm : Same B w0 w) (hs : SmallRg r) :
    Calls Try.prog 17 #[v, .int .i64 1] w (fun e w' => ∃ T : Nat, e = .returned (.int .i64 (T : Int)) ∧ 0 ≤ (T : Int) ∧ Stir B w0.heap.size w w') := by
  obtain ⟨m, vs, vm, rfl, hBm, hmw, hb1, hb2, hat⟩ := hv
  obtain ⟨ss, ls⟩ := r
  obtain ⟨k1, k2⟩ := hs
  simp only at hb1 hb2 hat k1 k2 ⊢
  obtain ⟨a0, c0, rfl⟩ := hb1.form
  obtain ⟨a1, c1, rfl⟩ := hb2.form
  have z0 := hsm.1
  have HB1 := Lib.hid (hb1.same hsm (Nat.le_refl _)); clear hb1
  have HB2 := Lib.hid (hb2.same hsm hBm); clear hb2 hat hsm
  have K1 := k1.1; clear k1
  go_enter Try.func17, Try.ntmps17
  have hal : Below w.heap.size w (w.alloc (.cells #[.slice a0 ss.length c0, .slice a1 ls.length c1] 33)) := (Below.refl _ _).alloc (Nat.le_refl _) _
  go_wp2_with fail
  have x1 : (w.alloc (.cells #[.slice a0 ss.length c0, .slice a1 ls.length c1] 33)).cell? ⟨w.heap.size, 1, none⟩ = some (.slice a1 ls.length c1) := by simp
  generalize w.alloc (.cells #[.slice a0 ss.length c0, .slice a1 ls.length c1] 33) = W at hal x1 ⊢
  refine (markStringS_any _ ss.length 1 W B m (HB1.out.after hal) K1 (by omega) (by omega)).mono ?_
  rintro e w1 ⟨rfl, hst⟩
  have x1 := hst.cell (Or.inr (by simp; omega)) x1
  have HB3 := Lib.hid ((HB2.out.after hal).stir hst (Or.inr (Nat.le_refl _)))
  have HST := Lib.hid ((Stir.of B w0.heap.size hal).trans (hst.wide (Nat.le_refl _) hmw))
  clear hal hst HB1 HB2
  go_wp2_with fail
  refine (markMoveS_any _ ls.length (1 + (ss.length : Int)) w1 m w0.heap.size HB3.out k2 (by omega) (by omega)).mono ?_
  rintro e w2 ⟨rfl, hst, _, _⟩
  have HST2 := Lib.hid (HST.out.trans (hst.wide hBm (Nat.le_refl _)))
  clear hst HST x1
  go_wp2_with fail
  go_ret
  exact ⟨1 + ss.length + 3 * ls.length, by push_cast; rfl, by omega, HST2.out⟩

end Go.Proofs.Ytigkgfdnnfmmmaa

namespace Go.Proofs.Ytigkgfdnnfmmmaa
open Go.RowKit

def mvCells : List Mv → List Value
  | [] => []
  | m :: ms => .int .i64 m.1 :: .int .i64 m.2.1 :: .int .i64 m.2.2 :: mvCells ms
theorem mvCells_length : ∀ ms : List Mv, (mvCells ms).length = ms.length * 3
  | [] => rfl
  | m :: ms => by simp only [mvCells, List.length_cons, mvCells_length ms]; omega
theorem mvCells_append : ∀ a b : List Mv, mvCells (a ++ b) = mvCells a ++ mvCells b
  | [], _ => rfl
  | m :: ms, b => by simp only [List.cons_append, mvCells, mvCells_append ms b]
theorem mvCells_get : ∀ (ms : List Mv) (i : Nat), i < ms.length → (mvCells ms)[i * 3]? = some (.int .i64 (mvF ms i)) ∧ (mvCells ms)[i * 3 + 1]? = some (.int .i64 (mvB ms i)) ∧ (mvCells ms)[i * 3 + 2]? = some (.int .i64 (mvT ms i))
  | [], i, h => absurd h (Nat.not_lt_zero _)
  | m :: ms, 0, _ => ⟨rfl, rfl, rfl⟩
  | m :: ms, i + 1, h => by
    have ih := mvCells_get ms i (by simpa using h)
    have e1 : (i + 1) * 3 = i * 3 + 3 := by omega
    have s1 : mvF (m :: ms) (i + 1) = mvF ms i := by simp [mvF]
    have s2 : mvB (m :: ms) (i + 1) = mvB ms i := by simp [mvB]
    have s3 : mvT (m :: ms) (i + 1) = mvT ms i := by simp [mvT]
    rw [e1, s1, s2, s3]
    exact ⟨ih.1, ih.2.1, ih.2.2⟩

abbrev MRow (B : Nat) (w : World) (v : Value) (ms : List Mv) : Prop := w.ownsRow B 93 3 v ms.length (mvCells ms)
theorem MRow.form {B : Nat} {w : World} {v : Value} {ms : List Mv} (h : MRow B w v ms) : ∃ a c, v = .slice a ms.length c := by
  rcases h.2 with ⟨rfl, hn⟩ | ⟨g, cap, cur, rfl, _⟩
  · exact ⟨none, 0, by rw [hn]⟩
  · exact ⟨_, _, rfl⟩
theorem MRow.at {B : Nat} {w : World} {v : Value} {ms : List Mv} (h : MRow B w v ms) : MovesAt B w v ms := by
  have h0 := h
  rcases h.2 with ⟨rfl, hn⟩ | ⟨g, cap, cur, rfl, hb, hg, hnc, _⟩
  · exact ⟨none, 0, by rw [hn], by omega, Or.inl hn⟩
  · refine ⟨_, _, rfl, hnc, Or.inr ⟨g, 0, rfl, hb, fun i hi => ⟨?_, ?_, ?_⟩⟩⟩
    · rw [Nat.zero_add, h0.cellAt (i * 3) (by omega)]; exact (mvCells_get ms i hi).1
    · rw [Nat.zero_add, h0.cellAt (i * 3 + 1) (by omega)]; exact (mvCells_get ms i hi).2.1
    · rw [Nat.zero_add, h0.cellAt (i * 3 + 2) (by omega)]; exact (mvCells_get ms i hi).2.2
theorem MRow.box {B : Nat} {w : World} {v : Value} {ms : List Mv} (h : MRow B w v ms) : CellBox B w.heap.size w v ms.length 3 := by
  have h0 := h
  rcases h.2 with ⟨rfl, hn⟩ | ⟨g, cap, cur, rfl, hb, hg, hnc, _⟩
  · exact ⟨none, 0, by rw [hn], Or.inl hn⟩
  · refine ⟨_, _, rfl, Or.inr ⟨g, 0, rfl, hb, (Array.getElem?_eq_some_iff.1 hg).1, fun i hi => ⟨?_, ?_⟩⟩⟩
    · rw [Nat.zero_add, h0.cellAt i hi]
      exact ⟨_, List.getElem?_eq_getElem (by rw [mvCells_length]; exact hi)⟩
    · exact h0.frozenAt _
theorem MRow.nil (B : Nat) (w : World) : MRow B w (.slice none 0 0) [] := World.ownsRow_nil _ _ _ _
theorem MRow.low {B B' : Nat} {w : World} {v : Value} {ms : List Mv} (h : MRow B w v ms) (hB : B' ≤ B) : MRow B' w v ms := Go.Joins.ownsRow_le h hB
theorem MRow.stir {B l k : Nat} {w w' : World} {v : Value} {ms : List Mv} (h : MRow B w v ms) (hs : Stir l k w w') (hk : k ≤ B) : MRow B w' v ms := by
  refine ⟨h.1, ?_⟩
  rcases h.2 with hn | ⟨g, cap, cur, rfl, hb, hg, rest⟩
  · exact Or.inl hn
  · exact Or.inr ⟨g, cap, cur, rfl, hb, (hs.block g (Array.getElem?_eq_some_iff.1 hg).1 (Or.inr (by omega))).trans hg, rest⟩
theorem MRow.cap {B : Nat} {w : World} {v : Value} {ms : List Mv} (h : MRow B w v ms) : ∃ a c, v = .slice a ms.length c ∧ ms.length ≤ c := by
  obtain ⟨a, c, rfl, hc, _⟩ := h.at
  exact ⟨a, c, rfl, hc⟩

theorem run_append_mv (w : World) (ty : TypeId) (base : Nat) (v : Value) (n : Nat) (xs : List Value) (hown : w.ownsRow base 93 3 v n xs) (b : Nat) (u0 u1 u2 : Value)
    (hc0 : w.cell? ⟨b, 0, none⟩ = some u0) (hc1 : w.cell? ⟨b, 1, none⟩ = some u1) (hc2 : w.cell? ⟨b, 2, none⟩ = some u2) (o0 : u0.oneCell' = true) (o1 : u1.oneCell' = true) (o2 : u2.oneCell' = true) (hn : n ≤ 1073741824) (hbase : base ≤ w.heap.size) :
    ∃ v' w', (Builtin.append_ #[31, 31] ty #[v, .slice (some ⟨b, 0, none⟩) 1 1]).run Try.prog w = .ok v' w' ∧ w'.ownsRow base 93 3 v' (n + 1) (xs ++ [u0, u1, u2]) ∧ w.grownBy w' v.ownBlock := by
  obtain ⟨i, hi, hzz⟩ := Option.map_eq_some_iff.1 Try.infoMv
  simp only [Prod.mk.injEq] at hzz
  obtain ⟨hz, hs, hby⟩ := hzz
  obtain ⟨v', w', hr, h2, h3, _⟩ := run_append_own (P := Try.prog) w base 31 ty 93 i _ 3 24 Try.underlying31 hi hz hs hby rfl (by omega) v n xs hown ⟨b, 0, none⟩ 1 1 [u0, u1, u2]
    rfl (fun j u hj => by
      match j, hj with
      | 0, hj => simp only [List.getElem?_cons_zero, Option.some.injEq] at hj; subst hj; exact hc0
      | 1, hj => simp only [List.getElem?_cons_succ, List.getElem?_cons_zero, Option.some.injEq] at hj; subst hj; exact hc1
      | 2, hj => simp only [List.getElem?_cons_succ, List.getElem?_cons_zero, Option.some.injEq] at hj; subst hj; exact hc2
      | (j + 3), hj => simp at hj) (fun u hu => by
      simp only [List.mem_cons, List.not_mem_nil, or_false] at hu
      rcases hu with rfl | rfl | rfl
      · exact o0
      · exact o1
      · exact o2) (by unfold maxLen; omega) (by omega) hbase
  exact ⟨v', w', hr, h2, h3⟩

theorem wp_append_mv {o : Oper} {a : Act} {w : World} {K : Act → World → Prop} {Q : Exit → Act → World → Prop} (s x : Operand)
    (ho : o.op = .call { callee := .builtin .append, args := #[s, x], argTypes := #[31, 31] })
    (base : Nat) (v : Value) (ls : List Mv) (hs : a.eval s = v) (hown : MRow base w v ls) (b : Nat) (m : Mv) (hx : a.eval x = .slice (some ⟨b, 0, none⟩) 1 1)
    (hc0 : w.cell? ⟨b, 0, none⟩ = some (.int .i64 m.1)) (hc1 : w.cell? ⟨b, 1, none⟩ = some (.int .i64 m.2.1)) (hc2 : w.cell? ⟨b, 2, none⟩ = some (.int .i64 m.2.2)) (hn : ls.length ≤ 1073741824) (hbase : base ≤ w.heap.size)
    (h : ∀ v' w', MRow base w' v' (ls ++ [m]) → w.grownBy w' v.ownBlock → K (a.put o.dst v') w') : o.wp Try.prog a w K Q := by
  obtain ⟨v', w', hr, h2, h3⟩ := run_append_mv w o.type base v _ _ hown b _ _ _ hc0 hc1 hc2 rfl rfl rfl hn hbase
  unfold Oper.wp execOp
  simp only [ho, resolve, invoke, builtin, Sem.run_bind, Sem.run_pure, Result.andThen_ok, List.map_toArray, List.map_cons, List.map_nil, hs, hx, hr]
  refine h v' w' ?_ h3
  show w'.ownsRow base _ 3 v' (ls ++ [m]).length (mvCells (ls ++ [m]))
  rw [mvCells_append, List.length_append]
  exact h2
theorem wpList_append_mv {ops : Array Oper} {rest : List Oper} {o : Oper} {a : Act} {w : World} {Q : Exit → Act → World → Prop} (hgd : o.guard = none) (s x : Operand)
    (ho : o.op = .call { callee := .builtin .append, args := #[s, x], argTypes := #[31, 31] })
    (base : Nat) (v : Value) (ls : List Mv) (hs : a.eval s = v) (hown : MRow base w v ls) (b : Nat) (m : Mv) (hx : a.eval x = .slice (some ⟨b, 0, none⟩) 1 1)
    (hc0 : w.cell? ⟨b, 0, none⟩ = some (.int .i64 m.1)) (hc1 : w.cell? ⟨b, 1, none⟩ = some (.int .i64 m.2.1)) (hc2 : w.cell? ⟨b, 2, none⟩ = some (.int .i64 m.2.2)) (hn : ls.length ≤ 1073741824) (hbase : base ≤ w.heap.size)
    (h : ∀ v' w', MRow base w' v' (ls ++ [m]) → w.grownBy w' v.ownBlock → wpList Try.prog ops Q rest (a.put o.dst v') w') : wpList Try.prog ops Q (o :: rest) a w :=
  wpList_plain hgd fun _ hK => wp_append_mv s x ho base v ls hs hown b m hx hc0 hc1 hc2 hn hbase fun v' w' h2 h3 => hK _ _ (h v' w' h2 h3)


end Go.Proofs.Ytigkgfdnnfmmmaa
