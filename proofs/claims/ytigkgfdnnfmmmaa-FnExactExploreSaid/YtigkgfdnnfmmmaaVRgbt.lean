/- THE MODEL's SEARCH in the world: its block while its rows grow.
   WALKS: toStringS, toMove, toMoveS, toReachabilityGraph of the laws.
   WALKS: szStringS, eqStringS of the laws. -/
import Derived.Test.YtigkgfdnnfmmmaaVExa
import Derived.Test.YtigkgfdnnfmmmaaVTxr
import Derived.Test.YtigkgfdnnfmmmaaVMrw
import Derived.Test.YtigkgfdnnfmmmaaVSiga
import Derived.Test.YtigkgfdnnfmmmaaVRgp
import Derived.Test.YtigkgfdnnfmmmaaVTrp
import Derived.Test.YtigkgfdnnfmmmaaVSigb
namespace Go.Proofs.Ytigkgfdnnfmmmaa
open Go.RowKit

theorem ownsB_base {w : World} {B : Nat} {e : TypeId} {sz : Nat} {v : Value} {n : Nat} {xs : List Value} (h : w.ownsRow B e sz v n xs) : ∀ b, v.ownBlock = some b → B ≤ b ∧ b < w.heap.size := by
  intro b hv
  rcases h.2 with ⟨rfl, _⟩ | ⟨g, cap, cur, rfl, hb, hg, _⟩
  · simp [Value.ownBlock] at hv
  · simp only [Value.ownBlock, Option.some.injEq] at hv
    subst hv
    exact ⟨hb, (Array.getElem?_eq_some_iff.1 hg).1⟩

/-- the search of the model in block O, from block B on -/
structure LrAt (B O : Nat) (w : World) (vM vV vB : Value) (mk bad : Int) (fu : Bool) (s : ExS) (bys : List Mv) : Prop where
  c0 : w.cell? ⟨O, 0, none⟩ = some vM
  c1 : w.cell? ⟨O, 1, none⟩ = some vV
  c2 : w.cell? ⟨O, 2, none⟩ = some vB
  c3 : w.cell? ⟨O, 3, none⟩ = some (.int .i64 mk)
  c4 : w.cell? ⟨O, 4, none⟩ = some (.int .i64 bad)
  c5 : w.cell? ⟨O, 5, none⟩ = some (.bool fu)
  fr : ∀ i, w.frozen? ⟨O, i, none⟩ = false
  ty : TyAt w O 74
  bO : B ≤ O
  rm : SRow B w vM s.ms
  rv : MRow B w vV s.mv
  rb : MRow B w vB bys
  ne : ∀ b, vV.ownBlock = some b → vB.ownBlock ≠ some b
section
variable {B O : Nat} {w w' : World} {vM vV vB : Value} {mk bad : Int} {fu : Bool} {s : ExS} {bys : List Mv}
theorem LrAt.after (h : LrAt B O w vM vV vB mk bad fu s bys) (hb : Below w.heap.size w w') : LrAt B O w' vM vV vB mk bad fu s bys := by
  have C := Carries.of 0 hb
  exact ⟨cell_carry h.c0 C, cell_carry h.c1 C, cell_carry h.c2 C, cell_carry h.c3 C, cell_carry h.c4 C, cell_carry h.c5 C, fun i => (hb.frozen (p := ⟨O, i, none⟩) h.ty.lt).trans (h.fr i), h.ty.keep hb, h.bO, owns_after h.rm hb, owns_after h.rv hb, owns_after h.rb hb, h.ne⟩
theorem cell_farL {w : World} {b i j : Nat} {v u : Value} (h : w.cell? ⟨b, i, none⟩ = some v) (hne : j ≠ i) : (w.setCell ⟨b, j, none⟩ u).cell? ⟨b, i, none⟩ = some v :=
  (World.cell?_setCell_other _ _ _ _ (by intro e; injection e with e1 e2; exact hne e2)).trans h
theorem LrAt.set3 (h : LrAt B O w vM vV vB mk bad fu s bys) (k : Int) : LrAt B O (w.setCell ⟨O, 3, none⟩ (.int .i64 k)) vM vV vB k bad fu s bys :=
  ⟨cell_farL h.c0 (by decide), cell_farL h.c1 (by decide), cell_farL h.c2 (by decide), World.cell?_setCell_same _ _ _ h.c3, cell_farL h.c4 (by decide), cell_farL h.c5 (by decide), fun i => by rw [World.frozen?_setCell]; exact h.fr i, h.ty.set _ _, h.bO,
    owns_setT h.rm (p := ⟨O, 3, none⟩) h.ty (by decide) _, owns_setT h.rv (p := ⟨O, 3, none⟩) h.ty (by decide) _, owns_setT h.rb (p := ⟨O, 3, none⟩) h.ty (by decide) _, h.ne⟩
theorem LrAt.set4 (h : LrAt B O w vM vV vB mk bad fu s bys) (k : Int) : LrAt B O (w.setCell ⟨O, 4, none⟩ (.int .i64 k)) vM vV vB mk k fu s bys :=
  ⟨cell_farL h.c0 (by decide), cell_farL h.c1 (by decide), cell_farL h.c2 (by decide), cell_farL h.c3 (by decide), World.cell?_setCell_same _ _ _ h.c4, cell_farL h.c5 (by decide), fun i => by rw [World.frozen?_setCell]; exact h.fr i, h.ty.set _ _, h.bO,
    owns_setT h.rm (p := ⟨O, 4, none⟩) h.ty (by decide) _, owns_setT h.rv (p := ⟨O, 4, none⟩) h.ty (by decide) _, owns_setT h.rb (p := ⟨O, 4, none⟩) h.ty (by decide) _, h.ne⟩
theorem LrAt.set5 (h : LrAt B O w vM vV vB mk bad fu s bys) (k : Bool) : LrAt B O (w.setCell ⟨O, 5, none⟩ (.bool k)) vM vV vB mk bad k s bys :=
  ⟨cell_farL h.c0 (by decide), cell_farL h.c1 (by decide), cell_farL h.c2 (by decide), cell_farL h.c3 (by decide), cell_farL h.c4 (by decide), World.cell?_setCell_same _ _ _ h.c5, fun i => by rw [World.frozen?_setCell]; exact h.fr i, h.ty.set _ _, h.bO,
    owns_setT h.rm (p := ⟨O, 5, none⟩) h.ty (by decide) _, owns_setT h.rv (p := ⟨O, 5, none⟩) h.ty (by decide) _, owns_setT h.rb (p := ⟨O, 5, none⟩) h.ty (by decide) _, h.ne⟩
theorem LrAt.pushM (h : LrAt B O w vM vV vB mk bad fu s bys) {v' : Value} {ms' : List ByteArray} (hg : w.grownBy w' vM.ownBlock) (hr : SRow B w' v' ms') : LrAt B O (w'.setCell ⟨O, 0, none⟩ v') v' vV vB mk bad fu ⟨ms', s.mv⟩ bys := by
  have hn := owns_ne h.rm h.ty (by decide)
  have kT := h.ty.grown hg hn
  exact ⟨World.cell?_setCell_same _ _ _ (hg.cell h.c0 hn), cell_farL (hg.cell h.c1 hn) (by decide), cell_farL (hg.cell h.c2 hn) (by decide), cell_farL (hg.cell h.c3 hn) (by decide), cell_farL (hg.cell h.c4 hn) (by decide), cell_farL (hg.cell h.c5 hn) (by decide), fun i => by rw [World.frozen?_setCell]; exact (World.frozen?_of_block (a := ⟨O, i, none⟩) (hg.block O h.ty.lt hn)).trans (h.fr i), kT.set _ _, h.bO,
    owns_setT hr (p := ⟨O, 0, none⟩) kT (by decide) _, owns_setT (h.rv.kept hg (rows_apartT h.rv h.rm (by decide))) (p := ⟨O, 0, none⟩) kT (by decide) _, owns_setT (h.rb.kept hg (rows_apartT h.rb h.rm (by decide))) (p := ⟨O, 0, none⟩) kT (by decide) _, h.ne⟩
theorem LrAt.pushB (h : LrAt B O w vM vV vB mk bad fu s bys) {g l c : Nat} {bys' : List Mv} (hg : w.grownBy w' vB.ownBlock) (hr : MRow B w' (.slice (some ⟨g, 0, none⟩) l c) bys') (hat : vB.ownBlock = some g ∨ g = w.heap.size) : LrAt B O (w'.setCell ⟨O, 2, none⟩ (.slice (some ⟨g, 0, none⟩) l c)) vM vV (.slice (some ⟨g, 0, none⟩) l c) mk bad fu s bys' := by
  have hn := owns_ne h.rb h.ty (by decide)
  have kT := h.ty.grown hg hn
  have hvv : vV.ownBlock = none ∨ vV.ownBlock ≠ vB.ownBlock := by
    cases e : vV.ownBlock with
    | none => exact Or.inl rfl
    | some b => exact Or.inr fun e2 => h.ne b e e2.symm
  refine ⟨cell_farL (hg.cell h.c0 hn) (by decide), cell_farL (hg.cell h.c1 hn) (by decide), World.cell?_setCell_same _ _ _ (hg.cell h.c2 hn), cell_farL (hg.cell h.c3 hn) (by decide), cell_farL (hg.cell h.c4 hn) (by decide), cell_farL (hg.cell h.c5 hn) (by decide), fun i => by rw [World.frozen?_setCell]; exact (World.frozen?_of_block (a := ⟨O, i, none⟩) (hg.block O h.ty.lt hn)).trans (h.fr i), kT.set _ _, h.bO,
    owns_setT (h.rm.kept hg (rows_apartT h.rm h.rb (by decide))) (p := ⟨O, 2, none⟩) kT (by decide) _, owns_setT (h.rv.kept hg hvv) (p := ⟨O, 2, none⟩) kT (by decide) _, owns_setT hr (p := ⟨O, 2, none⟩) kT (by decide) _, fun b hb e => ?_⟩
  simp only [Value.ownBlock, Option.some.injEq] at e
  subst e
  rcases hat with hat | hat
  · exact h.ne _ hb hat
  · have := (ownsB_base h.rv _ hb).2
    omega
theorem LrAt.pushV (h : LrAt B O w vM vV vB mk bad fu s bys) {g l c : Nat} {mv' : List Mv} (hg : w.grownBy w' vV.ownBlock) (hr : MRow B w' (.slice (some ⟨g, 0, none⟩) l c) mv') (hat : vV.ownBlock = some g ∨ g = w.heap.size) : LrAt B O (w'.setCell ⟨O, 1, none⟩ (.slice (some ⟨g, 0, none⟩) l c)) vM (.slice (some ⟨g, 0, none⟩) l c) vB mk bad fu ⟨s.ms, mv'⟩ bys := by
  have hn := owns_ne h.rv h.ty (by decide)
  have kT := h.ty.grown hg hn
  have hvv : vB.ownBlock = none ∨ vB.ownBlock ≠ vV.ownBlock := by
    cases e : vB.ownBlock with
    | none => exact Or.inl rfl
    | some b => exact Or.inr fun e2 => h.ne b e2.symm e
  refine ⟨cell_farL (hg.cell h.c0 hn) (by decide), World.cell?_setCell_same _ _ _ (hg.cell h.c1 hn), cell_farL (hg.cell h.c2 hn) (by decide), cell_farL (hg.cell h.c3 hn) (by decide), cell_farL (hg.cell h.c4 hn) (by decide), cell_farL (hg.cell h.c5 hn) (by decide), fun i => by rw [World.frozen?_setCell]; exact (World.frozen?_of_block (a := ⟨O, i, none⟩) (hg.block O h.ty.lt hn)).trans (h.fr i), kT.set _ _, h.bO,
    owns_setT (h.rm.kept hg (rows_apartT h.rm h.rv (by decide))) (p := ⟨O, 1, none⟩) kT (by decide) _, owns_setT hr (p := ⟨O, 1, none⟩) kT (by decide) _, owns_setT (h.rb.kept hg hvv) (p := ⟨O, 1, none⟩) kT (by decide) _, fun b hb e => ?_⟩
  simp only [Value.ownBlock, Option.some.injEq] at hb
  subst hb
  rcases hat with hat | hat
  · exact h.ne _ hat e
  · have := (ownsB_base h.rb _ e).2
    omega
end

theorem wpList_append_mvl {ops : Array Oper} {rest : List Oper} {o : Oper} {a : Act} {w : World} {Q : Exit → Act → World → Prop} (hgd : o.guard = none) (s x : Operand)
    (ho : o.op = .call { callee := .builtin .append, args := #[s, x], argTypes := #[31, 31] })
    (base : Nat) (v : Value) (ls : List Mv) (hs : a.eval s = v) (hown : MRow base w v ls) (b : Nat) (m : Mv) (hx : a.eval x = .slice (some ⟨b, 0, none⟩) 1 1)
    (hc0 : w.cell? ⟨b, 0, none⟩ = some (.int .i64 m.1)) (hc1 : w.cell? ⟨b, 1, none⟩ = some (.int .i64 m.2.1)) (hc2 : w.cell? ⟨b, 2, none⟩ = some (.int .i64 m.2.2)) (hn : ls.length ≤ 1073741824) (hbase : base ≤ w.heap.size)
    (h : ∀ g cap w', MRow base w' (.slice (some ⟨g, 0, none⟩) (ls.length + 1) cap) (ls ++ [m]) → w.grownBy w' v.ownBlock → (v.ownBlock = some g ∨ g = w.heap.size) → wpList Try.prog ops Q rest (a.put o.dst (.slice (some ⟨g, 0, none⟩) (ls.length + 1) cap)) w') : wpList Try.prog ops Q (o :: rest) a w :=
  wpList_plain hgd fun _ hK => by
    obtain ⟨i, hi, hzz⟩ := Option.map_eq_some_iff.1 Try.infoMv
    simp only [Prod.mk.injEq] at hzz
    obtain ⟨hz, hsz, hby⟩ := hzz
    obtain ⟨g, cap, w', hr, h2, h3, h4, _⟩ := run_append_lies (P := Try.prog) w 31 o.type base 93 i _ 3 24 Try.underlying31 hi hz hsz hby rfl (by omega) v _ _ hown ⟨b, 0, none⟩ 1 1 [.int .i64 m.1, .int .i64 m.2.1, .int .i64 m.2.2]
      rfl (fun j u hj => by
        match j, hj with
        | 0, hj => simp only [List.getElem?_cons_zero, Option.some.injEq] at hj; subst hj; exact hc0
        | 1, hj => simp only [List.getElem?_cons_succ, List.getElem?_cons_zero, Option.some.injEq] at hj; subst hj; exact hc1
        | 2, hj => simp only [List.getElem?_cons_succ, List.getElem?_cons_zero, Option.some.injEq] at hj; subst hj; exact hc2
        | (j + 3), hj => simp at hj) (fun u hu => by
        simp only [List.mem_cons, List.not_mem_nil, or_false] at hu
        rcases hu with rfl | rfl | rfl <;> rfl) (by omega) (by unfold maxLen; omega) (by omega) hbase _ rfl
    unfold Oper.wp execOp
    simp only [ho, resolve, invoke, builtin, Sem.run_bind, Sem.run_pure, Result.andThen_ok, List.map_toArray, List.map_cons, List.map_nil, hs, hx, hr]
    refine hK _ _ (h g cap w' ?_ h3 h4)
    show w'.ownsRow base _ 3 _ (ls ++ [m]).length (mvCells (ls ++ [m]))
    rw [mvCells_append, List.length_append]
    exact h2

end Go.Proofs.Ytigkgfdnnfmmmaa

namespace Go.Proofs.Ytigkgfdnnfmmmaa
open Go.RowKit

end Go.Proofs.Ytigkgfdnnfmmmaa

namespace Go.Proofs.Ytigkgfdnnfmmmaa
open Go.RowKit

theorem stN_ne {zs ys : List ByteArray} {k : Nat} (he : ¬ stN zs k = stN ys k) : decide (zs = ys) = false := by
  rw [decide_eq_false_iff_not]; rintro rfl; exact he rfl
theorem stN_succ {zs ys : List ByteArray} {k : Nat} (hk : k < zs.length) (hy : k < ys.length) (h : zs.take k = ys.take k) (he : stN zs k = stN ys k) : zs.take (k + 1) = ys.take (k + 1) :=
  take_succ_of hk hy h (by rw [← stN_getD hk, ← stN_getD hy]; exact he)

set_option maxHeartbeats 400000 in
theorem eqStringS_any (v v' : Value) (zs ys : List ByteArray) (w : World) (lo lo' : Nat) (hv : TextsAt lo w v zs) (hv' : TextsAt lo' w v' ys) (hn : zs.length ≤ 1048576) (hm : ys.length ≤ 1048576) :
    Calls Try.prog 31 #[v, v'] w (RetB w (decide (zs = ys))) := by
  obtain ⟨ao, cap, rfl, hc, hz⟩ := hv
  obtain ⟨ao', cap', rfl, hc', hz'⟩ := hv'
  by_cases hl : zs.length = ys.length
  · have hb : ((zs.length : Int) != (ys.length : Int)) = false := by simp [hl]
    by_cases hzs : 0 < zs.length
    · rcases hz with h0 | ⟨b, off, rfl, _, hcell⟩
      · omega
      rcases hz' with h0 | ⟨b', off', rfl, _, hcell'⟩
      · omega
      have HC := Lib.hid hcell; clear hcell
      have HC' := Lib.hid hcell'; clear hcell'
      have HL := Lib.hid hl
      have hl1 : zs.length ≤ ys.length := by omega
      have hl2 : ys.length ≤ zs.length := by omega
      clear hl
      go_enter Try.func31, Try.ntmps31
      go_wp2
      go_loopw [5] (fun i wr => ∃ k : Nat, k ≤ zs.length ∧ i = .int .i64 k ∧ Hid (zs.take k = ys.take k) ∧ Below w.heap.size w wr) (fun i _ => zs.length - (intOf i).toNat)
      case atStart => exact ⟨0, Nat.zero_le _, rfl, rfl, Below.refl _ _⟩
      case round =>
        obtain ⟨k, hk, rfl, ht, hb1⟩ := hrel
        by_cases hlt : k < zs.length
        · have hk2 : k < ys.length := by omega
          have c1 := cell_keep (HC.out k hlt) hb1 (Nat.le_refl _)
          have c2 := cell_keep (HC'.out k hk2) hb1 (Nat.le_refl _)
          by_cases heq : stN zs k = stN ys k
          · have hs := Lib.hid (stN_succ hlt hk2 ht.out heq)
            have hne : ((stN zs k).toList == (stN ys k).toList) = true := by rw [bytes_toList_beq, decide_eq_true heq]
            have HE := Lib.hid heq; clear heq
            go_wp2
            go_quiet (fail)
            go_wp2
            go_roundw
            case rel => exact ⟨k + 1, by omega, by go_num, hs, below_drewN hb1 _⟩
            case measure => simp [intOf]; omega
          · have hfin := Lib.hid (stN_ne heq)
            have hne : ((stN zs k).toList == (stN ys k).toList) = false := by rw [bytes_toList_beq, decide_eq_false heq]
            have HE := Lib.hid heq; clear heq
            go_wp2
            go_quiet (fail)
            go_wp2
            go_ret
            exact ⟨by rw [hfin.out]; rfl, below_drewN hb1 _⟩
        · go_wp2
          go_ret
          refine ⟨?_, hb1⟩
          have h1 := ht.out
          rw [List.take_of_length_le (by omega), List.take_of_length_le (by omega)] at h1
          simp [h1]
    · have hz0 : zs = [] := List.eq_nil_of_length_eq_zero (by omega)
      have hy0 : ys = [] := List.eq_nil_of_length_eq_zero (by omega)
      subst hz0; subst hy0
      simp only [List.length_nil]
      clear hz hz' hc hc' hb hl hzs hn hm
      go_enter Try.func31, Try.ntmps31
      go_wp2
      go_rounds 1
      go_ret
      exact ⟨rfl, Below.refl _ _⟩
  · have hb : ((zs.length : Int) != (ys.length : Int)) = true := by rw [bne_iff_ne]; omega
    have hd : decide (zs = ys) = false := by rw [decide_eq_false_iff_not]; rintro rfl; exact hl rfl
    rw [hd]; clear hd
    clear hz hz'
    go_enter Try.func31, Try.ntmps31
    go_wp2
    go_ret
    exact ⟨rfl, Below.refl _ _⟩

end Go.Proofs.Ytigkgfdnnfmmmaa
