/- MARKS in a graph that a call answered, both rows: WALKS: markReachabilityGraph, heldReachabilityGraph.
   WALKS: szStringS, eqStringS of the laws. -/
import Derived.Test.YtigkgfdnnfmmmaaVRgh
import Derived.Test.YtigkgfdnnfmmmaaVTrp
import Derived.Test.YtigkgfdnnfmmmaaVSigb
namespace Go.Proofs.Ytigkgfdnnfmmmaa
open Go.RowKit

theorem SRow.box {B : Nat} {w : World} {v : Value} {l : List ByteArray} (h : SRow B w v l) (hB : B ≤ w.heap.size) : ∃ lo hi, B ≤ lo ∧ lo ≤ hi ∧ hi ≤ w.heap.size ∧ CellBox lo hi w v l.length 1 ∧ ((lo = B ∧ hi = B) ∨ (v.ownBlock = some lo ∧ hi = lo + 1)) := by
  have h0 := h
  rcases h.2 with ⟨rfl, hn⟩ | ⟨g, cap, cur, rfl, hb, hg, hnc, _⟩
  · exact ⟨B, B, Nat.le_refl _, Nat.le_refl _, hB, ⟨none, 0, by rw [hn], Or.inl hn⟩, Or.inl ⟨rfl, rfl⟩⟩
  · refine ⟨g, g + 1, hb, Nat.le_succ _, (Array.getElem?_eq_some_iff.1 hg).1, ⟨_, _, rfl, Or.inr ⟨g, 0, rfl, Nat.le_refl _, Nat.lt_succ_self _, fun i hi => ⟨?_, ?_⟩⟩⟩, Or.inr ⟨rfl, rfl⟩⟩
    · rw [Nat.zero_add, h0.cellAt i (by omega)]
      exact ⟨_, txCells_get (by omega)⟩
    · exact h0.frozenAt _
theorem MRow.box1 {B : Nat} {w : World} {v : Value} {ms : List Mv} (h : MRow B w v ms) (hB : B ≤ w.heap.size) : ∃ lo hi, B ≤ lo ∧ lo ≤ hi ∧ hi ≤ w.heap.size ∧ CellBox lo hi w v ms.length 3 ∧ ((lo = B ∧ hi = B) ∨ (v.ownBlock = some lo ∧ hi = lo + 1)) := by
  have h0 := h
  rcases h.2 with ⟨rfl, hn⟩ | ⟨g, cap, cur, rfl, hb, hg, hnc, _⟩
  · exact ⟨B, B, Nat.le_refl _, Nat.le_refl _, hB, ⟨none, 0, by rw [hn], Or.inl hn⟩, Or.inl ⟨rfl, rfl⟩⟩
  · refine ⟨g, g + 1, hb, Nat.le_succ _, (Array.getElem?_eq_some_iff.1 hg).1, ⟨_, _, rfl, Or.inr ⟨g, 0, rfl, Nat.le_refl _, Nat.lt_succ_self _, fun i hi => ⟨?_, ?_⟩⟩⟩, Or.inr ⟨rfl, rfl⟩⟩
    · rw [Nat.zero_add, h0.cellAt i hi]
      exact ⟨_, List.getElem?_eq_getElem (by rw [mvCells_length]; exact hi)⟩
    · exact h0.frozenAt _
theorem SRow.stir {B l k : Nat} {w w' : World} {v : Value} {ms : List ByteArray} (h : SRow B w v ms) (hs : Stir l k w w') (hk : k ≤ B) : SRow B w' v ms := by
  refine ⟨h.1, ?_⟩
  rcases h.2 with hn | ⟨g, cap, cur, rfl, hb, hg, rest⟩
  · exact Or.inl hn
  · exact Or.inr ⟨g, cap, cur, rfl, hb, (hs.block g (Array.getElem?_eq_some_iff.1 hg).1 (Or.inr (by omega))).trans hg, rest⟩
theorem texts_marked {B : Nat} {w w' : World} {v : Value} {l : List ByteArray} {k : Int} (h : SRow B w v l) (hc : ∀ b off c, v = .slice (some ⟨b, off, none⟩) l.length c → ∀ i, i < l.length → w'.cell? ⟨b, off + i, none⟩ = some (.string (mTx (k + (i : Int))))) : TextsAt B w' v (markedTxs k l.length) := by
  rcases h.2 with ⟨rfl, hn⟩ | ⟨g, cap, cur, rfl, hb, hg, hnc, _⟩
  · exact ⟨none, 0, by rw [markedTxs_length, hn], by rw [markedTxs_length]; omega, Or.inl (by rw [markedTxs_length]; exact hn)⟩
  · refine ⟨_, _, by rw [markedTxs_length], by rw [markedTxs_length]; exact hnc, Or.inr ⟨g, 0, rfl, hb, fun i hi => ?_⟩⟩
    rw [markedTxs_length] at hi
    rw [markedTxs_get hi]
    exact hc g 0 cap rfl i hi
theorem moves_marked {B : Nat} {w w' : World} {v : Value} {l : List Mv} {k : Int} (h : MRow B w v l) (hc : ∀ b off c, v = .slice (some ⟨b, off, none⟩) l.length c → ∀ i, i < l.length → w'.cell? ⟨b, off + i * 3, none⟩ = some (.int .i64 (k + 3 * (i : Int))) ∧ w'.cell? ⟨b, off + i * 3 + 1, none⟩ = some (.int .i64 (k + 3 * (i : Int) + 1)) ∧ w'.cell? ⟨b, off + i * 3 + 2, none⟩ = some (.int .i64 (k + 3 * (i : Int) + 1 + 1))) : MovesAt B w' v (upMoves k l.length) := by
  rcases h.2 with ⟨rfl, hn⟩ | ⟨g, cap, cur, rfl, hb, hg, hnc, _⟩
  · exact ⟨none, 0, by rw [upMoves_length, hn], by rw [upMoves_length]; omega, Or.inl (by rw [upMoves_length]; exact hn)⟩
  · refine ⟨_, _, by rw [upMoves_length], by rw [upMoves_length]; exact hnc, Or.inr ⟨g, 0, rfl, hb, fun i hi => ?_⟩⟩
    rw [upMoves_length] at hi
    obtain ⟨p0, p1, p2⟩ := upMoves_get (k := k) hi
    simp only [p0, p1, p2]
    exact hc g 0 cap rfl i hi
theorem texts_stir {lo l k : Nat} {w w' : World} {v : Value} {ss : List ByteArray} (h : TextsAt lo w v ss) (hs : Stir l k w w') (hv : ∀ b, v.ownBlock = some b → b < l ∨ k ≤ b) : TextsAt lo w' v ss := by
  obtain ⟨ao, cap, rfl, hc, hz⟩ := h
  refine ⟨ao, cap, rfl, hc, ?_⟩
  rcases hz with hz | ⟨b, off, rfl, hlo, hcell⟩
  · exact Or.inl hz
  · exact Or.inr ⟨b, off, rfl, hlo, fun i hi => hs.cell (hv b rfl) (hcell i hi)⟩

set_option maxRecDepth 100000 in
set_option maxHeartbeats 1000000 in
theorem markRg_val (v0 v1 : Value) (ss : List ByteArray) (ls : List Mv) (w : World) (B : Nat) (h0 : SRow B w v0 ss) (h1 : MRow B w v1 ls) (hi : Nat) (hBi : B ≤ hi) (hB' : hi ≤ w.heap.size) (hw0 : ∀ b, v0.ownBlock = some b → b < hi) (hw1 : ∀ b, v1.ownBlock = some b → b < hi) (hs0 : ss.length ≤ 1048576) (hs1 : ls.length ≤ 1048576) :
    Calls Try.prog 17 #[.agg #[v0, v1], .int .i64 1] w (fun e w' => e = .returned (.int .i64 (1 + (ss.length : Int) + 3 * (ls.length : Int))) ∧ Stir B hi w w' ∧
      TextsAt B w' v0 (markedTxs 1 ss.length) ∧ MovesAt B w' v1 (upMoves (1 + (ss.length : Int)) ls.length)) := by
  have hB := Nat.le_trans hBi hB'
  have hap := rows_apartT h0 h1 (by decide)
  obtain ⟨l1, u1, g1, g2, g3, hb1, hx1⟩ := h0.box hB
  obtain ⟨l2, u2, k1, k2, k3, hb2, hx2⟩ := h1.box1 hB
  have g3' : u1 ≤ hi := by
    rcases hx1 with ⟨_, rfl⟩ | ⟨e1, rfl⟩
    · exact hBi
    · exact hw0 _ e1
  have k3' : u2 ≤ hi := by
    rcases hx2 with ⟨_, rfl⟩ | ⟨e2, rfl⟩
    · exact hBi
    · exact hw1 _ e2
  clear hw0 hw1
  have hdis : u1 ≤ l2 ∨ u2 ≤ l1 := by
    rcases hx1 with ⟨rfl, rfl⟩ | ⟨e1, rfl⟩
    · exact Or.inl k1
    · rcases hx2 with ⟨rfl, rfl⟩ | ⟨e2, rfl⟩
      · exact Or.inr g1
      · rcases hap with e | e
        · rw [e1] at e; cases e
        · rw [e1, e2] at e
          have : l1 ≠ l2 := fun q => e (by rw [q])
          omega
  have hown : ∀ b, v0.ownBlock = some b → ls.length = 0 ∨ b < l2 ∨ u2 ≤ b := by
    intro b hb
    rcases hx2 with ⟨rfl, rfl⟩ | ⟨e2, rfl⟩
    · right; omega
    · right
      rcases hap with e | e
      · rw [hb] at e; cases e
      · rw [hb, e2] at e
        have : b ≠ l2 := fun q => e (by rw [q])
        omega
  have hown2 : ∀ b, v0.ownBlock = some b → b < l2 ∨ u2 ≤ b := by
    intro b hb
    rcases hx2 with ⟨rfl, rfl⟩ | ⟨e2, rfl⟩
    · omega
    · rcases hap with e | e
      · rw [hb] at e; cases e
      · rw [hb, e2] at e
        have : b ≠ l2 := fun q => e (by rw [q])
        omega
  have HM := Lib.hid (fun (w' : World) => texts_marked (w' := w') (k := 1) h0)
  have HN := Lib.hid (fun (w' : World) => moves_marked (w' := w') (k := 1 + (ss.length : Int)) h1)
  have HO2 := Lib.hid hown2
  obtain ⟨a0, c0, rfl⟩ := h0.form
  obtain ⟨a1, c1, rfl⟩ : ∃ a c, v1 = .slice a ls.length c := h1.form
  have HB1 := Lib.hid hb1; have HB2 := Lib.hid hb2
  clear h0 h1 hap hx1 hx2 hown hown2 hb1 hb2
  obtain ⟨n, hn⟩ : ∃ q, q = ss.length := ⟨_, rfl⟩
  obtain ⟨m, hm⟩ : ∃ q, q = ls.length := ⟨_, rfl⟩
  rw [← hn] at HM HN HB1 HO2 hs0 ⊢
  rw [← hm] at HN HB2 hs1 ⊢
  clear hn hm
  go_enter Try.func17, Try.ntmps17
  have hal : Below w.heap.size w (w.alloc (.cells #[.slice a0 n c0, .slice a1 m c1] 33)) := (Below.refl _ _).alloc (Nat.le_refl _) _
  go_wp2_with fail
  have x1 : (w.alloc (.cells #[.slice a0 n c0, .slice a1 m c1] 33)).cell? ⟨w.heap.size, 1, none⟩ = some (.slice a1 m c1) := by simp
  generalize w.alloc (.cells #[.slice a0 n c0, .slice a1 m c1] 33) = W at hal x1 ⊢
  refine (markStringS_val _ n 1 W l1 u1 (HB1.out.after hal) hs0 (by omega) (by omega)).mono ?_
  rintro e w1 ⟨rfl, hst, hct⟩
  have x1 := hst.cell (Or.inr (by simp; omega)) x1
  have HB3 := Lib.hid ((HB2.out.after hal).stir hst (by omega))
  have HT1 := Lib.hid (HM.out w1 hct)
  have HST := Lib.hid ((Stir.of B hi hal).trans (hst.wide g1 g3'))
  clear hal hst HB1 HB2 hct HM
  go_wp2_with fail
  refine (markMoveS_any _ m (1 + (n : Int)) w1 l2 u2 HB3.out hs1 (by omega) (by omega)).mono ?_
  rintro e w2 ⟨rfl, hst, _, hct⟩
  have HST2 := Lib.hid (HST.out.trans (hst.wide k1 k3'))
  have HT2 := Lib.hid (texts_stir HT1.out hst HO2.out)
  have HN2 := Lib.hid (HN.out w2 hct)
  clear hst HST x1 hct HN HT1
  go_wp2_with fail
  go_ret
  exact ⟨rfl, HST2.out, HT2.out, HN2.out⟩

set_option maxRecDepth 100000 in
set_option maxHeartbeats 1000000 in
theorem heldRg_any (v0 v1 : Value) (n m : Nat) (w : World) (lo : Nat) (h0 : TextsAt lo w v0 (markedTxs 1 n)) (h1 : MovesAt lo w v1 (upMoves (1 + (n : Int)) m)) (hs0 : n ≤ 1048576) (hs1 : m ≤ 1048576) :
    Calls Try.prog 18 #[.agg #[v0, v1], .int .i64 1] w (RetV w (.int .i64 (1 + (n : Int) + 3 * (m : Int)))) := by
  obtain ⟨a0, c0, rfl⟩ := h0.form
  obtain ⟨a1, c1, rfl⟩ : ∃ a c, v1 = .slice a (upMoves (1 + (n : Int)) m).length c := by
    obtain ⟨a, c, h, _⟩ := h1
    exact ⟨a, c, h⟩
  rw [markedTxs_length] at h0 ⊢
  rw [upMoves_length] at h1 ⊢
  have HV := Lib.hid h0; have HW := Lib.hid h1
  clear h0 h1
  go_enter Try.func18, Try.ntmps18
  have HA : Below w.heap.size w (w.alloc (.cells #[.slice a0 n c0, .slice a1 m c1] 33)) := (Below.refl _ _).alloc (Nat.le_refl _) _
  have HV1 := Lib.hid (HV.out.keep (Carries.of lo HA))
  have HW1 := Lib.hid (TripsAt.keep HW.out (Carries.of lo HA))
  go_wp2_with fail
  have x1 : (w.alloc (.cells #[.slice a0 n c0, .slice a1 m c1] 33)).cell? ⟨w.heap.size, 1, none⟩ = some (.slice a1 m c1) := by simp
  generalize w.alloc (.cells #[.slice a0 n c0, .slice a1 m c1] 33) = W at HA HV1 HW1 x1 ⊢
  refine (heldStringS_any _ n 1 W lo HV1.out hs0 (by omega) (by omega)).mono ?_
  rintro e w1 ⟨rfl, hb⟩
  have x1 := cell_carry x1 (Carries.of 0 hb)
  have hw1 : Below w.heap.size w w1 := HA.trans (hb.mono HA.size)
  have HW2 := Lib.hid (TripsAt.keep HW1.out (Carries.of lo hb))
  clear hb
  have hq : decide ((1 : Int) + (n : Int) < 0) = false := by rw [decide_eq_false_iff_not]; omega
  go_wp2_with fail
  refine (heldMoveS_any _ m (1 + (n : Int)) w1 lo HW2.out hs1 (by omega) (by omega)).mono ?_
  rintro e w2 ⟨rfl, hb⟩
  have hw2 : Below w.heap.size w w2 := hw1.trans (hb.mono hw1.size)
  clear hb
  have hq2 : decide ((1 : Int) + (n : Int) + 3 * (m : Int) < 0) = false := by rw [decide_eq_false_iff_not]; omega
  go_wp2_with fail
  go_ret
  exact ⟨rfl, hw2⟩

/-! a graph's rows from block lo on, before hi -/
structure RgIn (lo hi : Nat) (w : World) (v0 v1 : Value) (r : RgD) : Prop where
  m : SRow lo w v0 r.marks
  v : MRow lo w v1 r.moves
  hm : ∀ b, v0.ownBlock = some b → b < hi
  hv : ∀ b, v1.ownBlock = some b → b < hi
theorem RgIn.at {lo hi : Nat} {w : World} {v0 v1 : Value} {r : RgD} (h : RgIn lo hi w v0 v1 r) : RgAt lo w (.agg #[v0, v1]) r := ⟨_, _, rfl, h.m.at, MRow.at h.v⟩
theorem RgIn.after {lo hi : Nat} {w w' : World} {v0 v1 : Value} {r : RgD} (h : RgIn lo hi w v0 v1 r) (hb : Below w.heap.size w w') : RgIn lo hi w' v0 v1 r := ⟨owns_after h.m hb, owns_after h.v hb, h.hm, h.hv⟩
theorem rows_stir {B l k : Nat} {e : TypeId} {sz n : Nat} {xs : List Value} {w w' : World} {v : Value} (h : w.ownsRow B e sz v n xs) (hs : Stir l k w w') (hk : ∀ b, v.ownBlock = some b → b < l ∨ k ≤ b) : w'.ownsRow B e sz v n xs := by
  refine ⟨h.1, ?_⟩
  rcases h.2 with hn | ⟨g, cap, cur, rfl, hb, hg, rest⟩
  · exact Or.inl hn
  · exact Or.inr ⟨g, cap, cur, rfl, hb, (hs.block g (Array.getElem?_eq_some_iff.1 hg).1 (hk g rfl)).trans hg, rest⟩
theorem RgIn.stir {lo hi l k : Nat} {w w' : World} {v0 v1 : Value} {r : RgD} (h : RgIn lo hi w v0 v1 r) (hs : Stir l k w w') (hd : hi ≤ l ∨ k ≤ lo) : RgIn lo hi w' v0 v1 r := by
  have hm2 : ∀ b, v0.ownBlock = some b → b < l ∨ k ≤ b := fun b hb => by
    have := h.hm b hb
    rcases h.m.2 with ⟨rfl, _⟩ | ⟨g, cap, cur, rfl, hg, _⟩
    · cases hb
    · simp only [Value.ownBlock, Option.some.injEq] at hb; omega
  have hv2 : ∀ b, v1.ownBlock = some b → b < l ∨ k ≤ b := fun b hb => by
    have := h.hv b hb
    rcases h.v.2 with ⟨rfl, _⟩ | ⟨g, cap, cur, rfl, hg, _⟩
    · cases hb
    · simp only [Value.ownBlock, Option.some.injEq] at hb; omega
  exact ⟨rows_stir h.m hs hm2, rows_stir h.v hs hv2, h.hm, h.hv⟩
theorem RgIn.of {lo : Nat} {w : World} {v0 v1 : Value} {r : RgD} (h0 : SRow lo w v0 r.marks) (h1 : MRow lo w v1 r.moves) : RgIn lo w.heap.size w v0 v1 r := by
  refine ⟨h0, h1, fun b hb => ?_, fun b hb => ?_⟩
  · rcases h0.2 with ⟨rfl, _⟩ | ⟨g, cap, cur, rfl, _, hg, _⟩
    · cases hb
    · simp only [Value.ownBlock, Option.some.injEq] at hb
      subst hb
      exact (Array.getElem?_eq_some_iff.1 hg).1
  · rcases h1.2 with ⟨rfl, _⟩ | ⟨g, cap, cur, rfl, _, hg, _⟩
    · cases hb
    · simp only [Value.ownBlock, Option.some.injEq] at hb
      subst hb
      exact (Array.getElem?_eq_some_iff.1 hg).1

end Go.Proofs.Ytigkgfdnnfmmmaa

namespace Go.Proofs.Ytigkgfdnnfmmmaa
open Go.RowKit

theorem stN_ne {zs ys : List ByteArray} {k : Nat} (he : ¬ stN zs k = stN ys k) : decide (zs = ys) = false := by
  rw [decide_eq_false_iff_not]; rintro rfl; exact he rfl
theorem stN_succ {zs ys : List ByteArray} {k : Nat} (hk : k < zs.length) (hy : k < ys.length) (h : zs.take k = ys.take k) (he : stN zs k = stN ys k) : zs.take (k + 1) = ys.take (k + 1) :=
  take_succ_of hk hy h (by rw [← stN_getD hk, ← stN_getD hy]; exact he)

set_option maxHeartbeats 400000 in
theorem eqStringS_any (v v' : Value) (zs ys : List ByteArray) (w : World) (lo lo' : Nat) (hv : TextsAt lo w v zs) (hv' : TextsAt lo' w v' ys) (hn : zs.length ≤ 1048576) (hm : ys.length ≤ 1048576) :
    Calls Try.prog 31 #[v, v'] w (RetB w (decide (zs = ys))) := by
  obtain ⟨ao, cap, rfl, hc, hz⟩ := hv
  obtain ⟨ao', cap', rfl, hc', hz'⟩ := hv'
  by_cases hl : zs.length = ys.length
  · have hb : ((zs.length : Int) != (ys.length : Int)) = false := by simp [hl]
    by_cases hzs : 0 < zs.length
    · rcases hz with h0 | ⟨b, off, rfl, _, hcell⟩
      · omega
      rcases hz' with h0 | ⟨b', off', rfl, _, hcell'⟩
      · omega
      have HC := Lib.hid hcell; clear hcell
      have HC' := Lib.hid hcell'; clear hcell'
      have HL := Lib.hid hl
      have hl1 : zs.length ≤ ys.length := by omega
      have hl2 : ys.length ≤ zs.length := by omega
      clear hl
      go_enter Try.func31, Try.ntmps31
      go_wp2
      go_loopw [5] (fun i wr => ∃ k : Nat, k ≤ zs.length ∧ i = .int .i64 k ∧ Hid (zs.take k = ys.take k) ∧ Below w.heap.size w wr) (fun i _ => zs.length - (intOf i).toNat)
      case atStart => exact ⟨0, Nat.zero_le _, rfl, rfl, Below.refl _ _⟩
      case round =>
        obtain ⟨k, hk, rfl, ht, hb1⟩ := hrel
        by_cases hlt : k < zs.length
        · have hk2 : k < ys.length := by omega
          have c1 := cell_keep (HC.out k hlt) hb1 (Nat.le_refl _)
          have c2 := cell_keep (HC'.out k hk2) hb1 (Nat.le_refl _)
          by_cases heq : stN zs k = stN ys k
          · have hs := Lib.hid (stN_succ hlt hk2 ht.out heq)
            have hne : ((stN zs k).toList == (stN ys k).toList) = true := by rw [bytes_toList_beq, decide_eq_true heq]
            have HE := Lib.hid heq; clear heq
            go_wp2
            go_quiet (fail)
            go_wp2
            go_roundw
            case rel => exact ⟨k + 1, by omega, by go_num, hs, below_drewN hb1 _⟩
            case measure => simp [intOf]; omega
          · have hfin := Lib.hid (stN_ne heq)
            have hne : ((stN zs k).toList == (stN ys k).toList) = false := by rw [bytes_toList_beq, decide_eq_false heq]
            have HE := Lib.hid heq; clear heq
            go_wp2
            go_quiet (fail)
            go_wp2
            go_ret
            exact ⟨by rw [hfin.out]; rfl, below_drewN hb1 _⟩
        · go_wp2
          go_ret
          refine ⟨?_, hb1⟩
          have h1 := ht.out
          rw [List.take_of_length_le (by omega), List.take_of_length_le (by omega)] at h1
          simp [h1]
    · have hz0 : zs = [] := List.eq_nil_of_length_eq_zero (by omega)
      have hy0 : ys = [] := List.eq_nil_of_length_eq_zero (by omega)
      subst hz0; subst hy0
      simp only [List.length_nil]
      clear hz hz' hc hc' hb hl hzs hn hm
      go_enter Try.func31, Try.ntmps31
      go_wp2
      go_rounds 1
      go_ret
      exact ⟨rfl, Below.refl _ _⟩
  · have hb : ((zs.length : Int) != (ys.length : Int)) = true := by rw [bne_iff_ne]; omega
    have hd : decide (zs = ys) = false := by rw [decide_eq_false_iff_not]; rintro rfl; exact hl rfl
    rw [hd]; clear hd
    clear hz hz'
    go_enter Try.func31, Try.ntmps31
    go_wp2
    go_ret
    exact ⟨rfl, Below.refl _ _⟩

end Go.Proofs.Ytigkgfdnnfmmmaa
