/- PURE AND WALKS: the rows of a history as events that lie apart; markUnfolding and heldUnfolding on them (written by gen8/gufv.py).
   WALKS: markUnfolding and heldUnfolding of the laws on an answer whose rows lie apart (written by gen8/gufu.py).
   AIDS to the law of AppendEvent: the answer's marks, in one contract for an answer with events and for the empty one; what stays of cells while others are marked. -/
import Derived.Test.YtigkgfdnnfmmmaaGreatVUfx
import Derived.Test.YtigkgfdnnfmmmaaGreatVUfh
import Derived.Test.YtigkgfdnnfmmmaaGreatVHia
import Derived.Test.YtigkgfdnnfmmmaaGreatVApq
import Derived.Test.YtigkgfdnnfmmmaaGreatVApe
namespace Go.Proofs.YtigkgfdnnfmmmaaGreat
open Go.RowKit

/-- the block that a list of the row lies in -/
def gOf (xs : List Value) (i : Nat) : Nat := match xs[i * 2 + 1]? with
  | some (.slice (some a) _ _) => a.block
  | _ => 0
theorem ERow.sep {B : Nat} {w : World} {v : Value} {es : List Ev} (h : ERow B w v es) (hne : es.length ≠ 0) : ∃ b cap g, v = .slice (some ⟨b, 0, none⟩) es.length cap ∧ es.length ≤ cap ∧ TyAt w b 46 ∧ (∀ i, i < es.length → TyAt w (g i) 3) ∧ EvsSep B w.heap.size w b 0 g es := by
  obtain ⟨xs, h0, hx⟩ := h
  rcases h0.2 with ⟨rfl, hn⟩ | ⟨b, cap, cur, rfl, hb, hg, hnc, _⟩
  · exact absurd hn hne
  have hT : TyAt w b 46 := ⟨cur, _, hg⟩
  have hbh : b < w.heap.size := (Array.getElem?_eq_some_iff.1 hg).1
  have hgo : ∀ i, i < es.length → ∀ u q, xs[i * 2 + 1]? = some u → u = .slice (some ⟨q, 0, none⟩) (evP es i).length (evP es i).length → gOf xs i = q := fun i hi u q e1 eu => by
    unfold gOf
    rw [e1, eu]
  have hl : xs.length = es.length * 2 := h0.1
  refine ⟨b, cap, gOf xs, rfl, hnc, hT, fun i hi => ?_, ⟨hb, hbh, fun i hi => ?_, fun i hi => h0.frozenAt _, fun i hi => ?_, fun i hi => ?_, fun i hi q hq => ?_, fun i j hij hj => ?_⟩⟩
  · obtain ⟨u, q, e0, e1, eu, hq, hrow⟩ := hx i hi
    rw [hgo i hi u q e1 eu]
    exact rowIs_ty hrow
  · obtain ⟨u, q, e0, e1, eu, hq, hrow⟩ := hx i hi
    rw [Nat.zero_add, h0.cellAt (i * 2) (by omega)]; exact e0
  · obtain ⟨u, q, e0, e1, eu, hq, hrow⟩ := hx i hi
    rw [hgo i hi u q e1 eu, Nat.zero_add, h0.cellAt (i * 2 + 1) (by omega), e1, eu]
  · obtain ⟨u, q, e0, e1, eu, hq, hrow⟩ := hx i hi
    rw [hgo i hi u q e1 eu]
    exact ⟨hq.1, hrow.lt, (rowIs_ty hrow).ne hT (by decide)⟩
  · obtain ⟨u, p, e0, e1, eu, hp, hrow⟩ := hx i hi
    rw [hgo i hi u p e1 eu, Nat.zero_add]
    exact ⟨hrow.cell hq, hrow.frozen _⟩
  · obtain ⟨u, p, e0, e1, eu, hp, hrow⟩ := hx i (by omega)
    obtain ⟨u', p', e0', e1', eu', hp', hrow'⟩ := hx j hj
    rw [hgo i (by omega) u p e1 eu, hgo j hj u' p' e1' eu']
    exact hp'.2 i p _ _ hij (by rw [e1, eu])

/-- cells of other blocks than one are as before -/
theorem EvsSep.keep {lo hi l k b off : Nat} {g : Nat → Nat} {w w' : World} {es : List Ev} (h : EvsSep lo hi w b off g es) (hs : Stir l k w w') (hb : b < l ∨ k ≤ b) (hg : ∀ i, i < es.length → g i < l ∨ k ≤ g i) : EvsSep lo hi w' b off g es := by
  refine ⟨h.bl, h.bh, fun i hi => hs.cell hb (h.c0 i hi), fun i hi => ?_, fun i hi => hs.cell hb (h.c1 i hi), h.gl, fun i hi q hq => ⟨hs.cell (hg i hi) (h.gc i hi q hq).1, ?_⟩, h.gs⟩
  · have hlt := cell_old (h.c0 i hi)
    exact (hs.frozen hb (by simpa using hlt)).trans (h.f0 i hi)
  · have hlt := cell_old (h.gc i hi q hq).1
    exact (hs.frozen (hg i hi) (by simpa using hlt)).trans (h.gc i hi q hq).2

end Go.Proofs.YtigkgfdnnfmmmaaGreat

namespace Go.Proofs.YtigkgfdnnfmmmaaGreat
open Go.RowKit

theorem CndsAt.block {lo n c : Nat} {a : Option Addr} {w w' : World} {cs : List Cnd} (h : CndsAt lo w (.slice a n c) cs) (hk : ∀ b off, a = some ⟨b, off, none⟩ → w'.heap[b]? = w.heap[b]?) : CndsAt lo w' (.slice a n c) cs := by
  obtain ⟨ao, cap, hv, hc, hz⟩ := h
  refine ⟨ao, cap, hv, hc, ?_⟩
  injection hv with e1 e2 e3
  rcases hz with hz | ⟨b, off, ha, hlo, hcell⟩
  · exact Or.inl hz
  · refine Or.inr ⟨b, off, ha, hlo, fun i hi => ?_⟩
    obtain ⟨c0, c1⟩ := hcell i hi
    have he := hk b off (by rw [e1, ha])
    exact ⟨(World.cell?_of_block (w := w) (w' := w') (a := ⟨b, off + i * 2, none⟩) he).trans c0, (World.cell?_of_block (w := w) (w' := w') (a := ⟨b, off + i * 2 + 1, none⟩) he).trans c1⟩

set_option maxRecDepth 100000 in
set_option maxHeartbeats 1000000 in
theorem heldUnfolding_any (v : Value) (u : UnfD) (nC : Nat) (k : Int) (w : World) (lo : Nat) (es : List Ev) (hv : UnfAt lo w v ⟨markedCnds k nC, markedEvs (k + 2 * (nC : Int)) es⟩) (hn : nC ≤ 1048576) (hs : SmallEvs es) (h0 : 0 ≤ k) (h1 : k ≤ 1099511627) :
    Calls Tryz.prog 19 #[v, .int .i64 k] w (RetV w (.int .i64 (k + 2 * (nC : Int) + (totE es es.length : Nat)))) := by
  obtain ⟨a0, c0, a1, c1, rfl, hcc, hee⟩ := hv.form
  simp only at hcc hee ⊢
  rw [markedCnds_length] at hcc ⊢
  rw [markedEvs_length] at hee ⊢
  have HC := Lib.hid hcc; have HE := Lib.hid hee; have HS := Lib.hid hs
  have hT := totE_le hs es.length (Nat.le_refl _)
  have hel := hs.1
  clear hcc hee hv hs
  obtain ⟨T, hTT⟩ : ∃ T, T = totE es es.length := ⟨_, rfl⟩
  have HT := Lib.hid hTT
  rw [← hTT] at hT ⊢
  clear hTT
  obtain ⟨ne, hne⟩ : ∃ y, y = es.length := ⟨_, rfl⟩
  rw [← hne] at HE hel hT ⊢
  clear hne
  have hal : Below w.heap.size w (w.alloc (.cells #[.slice a0 nC c0, .slice a1 ne c1] 38)) := (Below.refl _ _).alloc (Nat.le_refl _) _
  have x1 : (w.alloc (.cells #[.slice a0 nC c0, .slice a1 ne c1] 38)).cell? ⟨w.heap.size, 1, none⟩ = some (.slice a1 ne c1) := by simp
  go_enter Tryz.func19, Tryz.ntmps19
  go_wp2_with fail
  generalize w.alloc (.cells #[.slice a0 nC c0, .slice a1 ne c1] 38) = W at hal x1 ⊢
  refine (heldConditionS_any _ nC k W lo (HC.out.keep (Carries.of lo hal)) hn h0 (by omega)).mono ?_
  rintro e w1 ⟨rfl, hb1⟩
  have hw1 : Below w.heap.size w w1 := hal.trans (hb1.mono hal.size)
  have x1 := cell_carry x1 (Carries.of 0 hb1)
  have hq1 : decide (k + 2 * (nC : Int) < 0) = false := by rw [decide_eq_false_iff_not]; omega
  clear hb1
  go_wp2_with fail
  refine (heldEventS_any _ es _ w1 lo (HE.out.keep (Carries.of lo hw1)) HS.out (by omega) (by omega)).mono ?_
  rintro e w2 ⟨rfl, hb2⟩
  rw [← HT.out]
  have hw2 : Below w.heap.size w w2 := hw1.trans (hb2.mono hw1.size)
  have hq2 : decide (k + 2 * (nC : Int) + (T : Int) < 0) = false := by rw [decide_eq_false_iff_not]; omega
  go_wp2_with fail
  go_ret
  exact ⟨rfl, hw2⟩

set_option maxRecDepth 100000 in
set_option maxHeartbeats 1000000 in
theorem markUnf_sep (a0 : Option Addr) (c0 nC : Nat) (es : List Ev) (b cap : Nat) (g : Nat → Nat) (w : World) (lo hi l0 h0 : Nat) (hbx : PairBox l0 h0 w (.slice a0 nC c0) nC) (hcap : nC ≤ c0) (hlo : lo ≤ l0) (hhi : h0 ≤ hi) (hhw : hi ≤ w.heap.size) (hb : b < l0 ∨ h0 ≤ b) (hg : ∀ i, i < es.length → g i < l0 ∨ h0 ≤ g i) (hsep : EvsSep lo hi w b 0 g es) (hec : es.length ≤ cap) (hn : nC ≤ 1048576) (hs : SmallEvs es) :
    Calls Tryz.prog 17 #[.agg #[.slice a0 nC c0, .slice (some ⟨b, 0, none⟩) es.length cap], .int .i64 1] w (fun e w' => e = .returned (.int .i64 (1 + 2 * (nC : Int) + (totE es es.length : Nat))) ∧ Stir lo hi w w' ∧ UnfAt lo w' (.agg #[.slice a0 nC c0, .slice (some ⟨b, 0, none⟩) es.length cap]) ⟨markedCnds 1 nC, markedEvs (1 + 2 * (nC : Int)) es⟩) := by
  have hA : nC ≠ 0 → ∃ bc off, a0 = some ⟨bc, off, none⟩ ∧ l0 ≤ bc ∧ bc < h0 := fun hne => by
    obtain ⟨ao, cp, hv, hz⟩ := hbx
    injection hv with e1 e2 e3
    rcases hz with hz | ⟨bc, off, ha, q1, q2, _⟩
    · exact absurd hz hne
    · exact ⟨bc, off, e1.trans ha, q1, q2⟩
  have HA := Lib.hid hA
  have HB := Lib.hid hbx; have HS := Lib.hid hs; have HSEP := Lib.hid hsep; have HG := Lib.hid hg
  have hbh := hsep.bh
  have hel := hs.1
  clear hA hbx hs hsep hg
  have hal : Below w.heap.size w (w.alloc (.cells #[.slice a0 nC c0, .slice (some ⟨b, 0, none⟩) es.length cap] 38)) := (Below.refl _ _).alloc (Nat.le_refl _) _
  have x1 : (w.alloc (.cells #[.slice a0 nC c0, .slice (some ⟨b, 0, none⟩) es.length cap] 38)).cell? ⟨w.heap.size, 1, none⟩ = some (.slice (some ⟨b, 0, none⟩) es.length cap) := by simp
  go_enter Tryz.func17, Tryz.ntmps17
  go_wp2_with fail
  generalize w.alloc (.cells #[.slice a0 nC c0, .slice (some ⟨b, 0, none⟩) es.length cap] 38) = W at hal x1 ⊢
  refine (markConditionS_at _ nC 1 W l0 h0 (HB.out.after hal) ⟨a0, c0, rfl, hcap⟩ hn (by omega) (by omega)).mono ?_
  rintro e w1 ⟨rfl, hst, hcd⟩
  have y1 := hst.cell (Or.inr (by simp; omega)) x1
  have ST0 : Stir lo hi w W := Stir.of _ _ hal
  have ST1 : Stir lo hi w w1 := ST0.trans (hst.wide hlo hhi)
  have HSEP1 := Lib.hid ((HSEP.out.keep (Stir.of 0 0 hal) (Or.inr (Nat.zero_le _)) (fun i _ => Or.inr (Nat.zero_le _))).keep hst hb HG.out)
  have HCD := Lib.hid hcd
  clear hst hcd x1 ST0
  go_wp2_with fail
  refine (markEventS_sep es _ w1 lo hi b 0 cap g HSEP1.out hec HS.out (by omega) (by omega)).mono ?_
  rintro e w2 ⟨rfl, hmk, hev, hfar⟩
  have ST2 : Stir lo hi w w2 := ST1.trans ⟨hmk.os, hmk.tape, hmk.output, by rw [hmk.size]; exact Nat.le_refl _, fun c _ hc => hmk.block c hc⟩
  have hcn : CndsAt lo w2 (.slice a0 nC c0) (markedCnds 1 nC) := by
    by_cases hz : nC = 0
    · subst hz
      exact ⟨a0, c0, rfl, Nat.zero_le _, Or.inl rfl⟩
    · obtain ⟨bc, off, ha, q1, q2⟩ := HA.out hz
      refine CndsAt.low ?_ hlo
      refine HCD.out.block (fun b' off' ha' => ?_)
      rw [ha] at ha'
      injection ha' with ha'
      injection ha' with e1 e2
      subst e1
      exact hfar bc (by omega) (fun i hi => by have := HG.out i hi; omega)
  have HCN := Lib.hid hcn; have HEV := Lib.hid hev
  clear hcn hev hmk hfar HCD
  go_wp2_with fail
  go_ret
  refine ⟨rfl, ST2, ⟨_, _, rfl, HCN.out, HEV.out⟩⟩

end Go.Proofs.YtigkgfdnnfmmmaaGreat

namespace Go.Proofs.YtigkgfdnnfmmmaaGreat
open Go.RowKit

/-- the program's answer: its two rows lie apart -/
def ApAt (B : Nat) (w : World) (v : Value) (u : UnfD) : Prop := ∃ v0 v1, v = .agg #[v0, v1] ∧ CRow B w v0 u.cs ∧ ERow B w v1 u.es
theorem ApAt.at {B : Nat} {w : World} {v : Value} {u : UnfD} (h : ApAt B w v u) : UnfAt B w v u := by
  obtain ⟨v0, v1, rfl, hc, he⟩ := h
  exact ⟨v0, v1, rfl, hc.at, he.at⟩
theorem owns_sameB {base size n : Nat} {e : TypeId} {v : Value} {xs : List Value} {w w' : World} (h : w.ownsRow base e size v n xs) (hs : Same base w w') : w'.ownsRow base e size v n xs := by
  refine ⟨h.1, ?_⟩
  rcases h.2 with hn | ⟨g, cap, cur, rfl, hb, hg, rest⟩
  · exact Or.inl hn
  · exact Or.inr ⟨g, cap, cur, rfl, hb, (hs.2 g hb (Array.getElem?_eq_some_iff.1 hg).1).trans hg, rest⟩
theorem ApAt.keep {B : Nat} {w w' : World} {v : Value} {u : UnfD} (h : ApAt B w v u) (hs : Same B w w') : ApAt B w' v u := by
  obtain ⟨v0, v1, rfl, hc, xs, he, hx⟩ := h
  refine ⟨v0, v1, rfl, owns_sameB hc hs, xs, owns_sameB he hs, fun i hi => ?_⟩
  obtain ⟨u', g, e0, e1, eu, hg, hr⟩ := hx i hi
  exact ⟨u', g, e0, e1, eu, hg, hr.of_block (hs.2 g hg.1 hr.lt)⟩
theorem ApAt.low {B B' : Nat} {w : World} {v : Value} {u : UnfD} (h : ApAt B w v u) (hl : B' ≤ B) : ApAt B' w v u := by
  obtain ⟨v0, v1, rfl, hc, he⟩ := h
  refine ⟨v0, v1, rfl, ⟨hc.1, ?_⟩, he.low hl⟩
  rcases hc.2 with hn | ⟨g, cap, cur, e1, hb, rest⟩
  · exact Or.inl hn
  · exact Or.inr ⟨g, cap, cur, e1, Nat.le_trans hl hb, rest⟩

theorem apV_small {n : NetD} {s : ByteArray} {u : UnfD} {t : Int} {L : List Int} (hu : SmallUnf u) (hl : L.length ≤ 1048576) : SmallUnf (apV n s u t L) ∧ ((apV n s u t L).es.length = 0 → (apV n s u t L).cs.length = 0) := by
  cases hb : apB n s u t L with
  | false => rw [apV_no hb]; exact ⟨⟨Nat.zero_le _, Nat.zero_le _, fun i hi => absurd hi (Nat.not_lt_zero _)⟩, fun _ => rfl⟩
  | true =>
    have hlim : limB (apU n u t L) = true := by
      unfold apB at hb
      simp only [Bool.and_eq_true] at hb
      exact hb.2.2
    rw [apV_yes hb]
    unfold limB at hlim
    simp only [Bool.and_eq_true, decide_eq_true_eq] at hlim
    refine ⟨⟨by omega, by omega, fun i hi => ?_⟩, fun h => ?_⟩
    · unfold apU at hi ⊢
      simp only at hi ⊢
      by_cases he : i < u.es.length
      · rw [(ev_app_left he).2]; exact hu.2.2 i he
      · have : i = u.es.length := by simp at hi; omega
        subst this
        rw [ev_app_last.2]; exact hl
    · unfold apU at h
      simp at h

def RetMk (B H : Nat) (w : World) (v : Value) (u : UnfD) (e : Ending) (w' : World) : Prop := e = .returned (.int .i64 (1 + 2 * (u.cs.length : Int) + (totE u.es u.es.length : Nat))) ∧ Stir B H w w' ∧ UnfAt B w' v ⟨markedCnds 1 u.cs.length, markedEvs (1 + 2 * (u.cs.length : Int)) u.es⟩

set_option maxRecDepth 100000 in
set_option maxHeartbeats 1000000 in
theorem ap_mark_none (a0 a1 : Option Addr) (c0 c1 : Nat) (w : World) :
    Calls Tryz.prog 17 #[.agg #[.slice a0 0 c0, .slice a1 0 c1], .int .i64 1] w (RetV w (.int .i64 1)) := by
  have hal : Below w.heap.size w (w.alloc (.cells #[.slice a0 0 c0, .slice a1 0 c1] 38)) := (Below.refl _ _).alloc (Nat.le_refl _) _
  have x1 : (w.alloc (.cells #[.slice a0 0 c0, .slice a1 0 c1] 38)).cell? ⟨w.heap.size, 1, none⟩ = some (.slice a1 0 c1) := by simp
  go_enter Tryz.func17, Tryz.ntmps17
  go_wp2_with fail
  generalize w.alloc (.cells #[.slice a0 0 c0, .slice a1 0 c1] 38) = W at hal x1 ⊢
  refine (markConditionS_at _ 0 1 W W.heap.size W.heap.size ⟨a0, c0, rfl, Or.inl rfl⟩ ⟨a0, c0, rfl, Nat.zero_le _⟩ (Nat.zero_le _) (by omega) (by omega)).mono ?_
  rintro e w1 ⟨rfl, hst, _⟩
  have y1 := hst.cell (by simp [Nat.lt_or_ge]) x1
  have hb1 : Below w.heap.size w w1 := hst.below hal hal.size hal.size
  have e1 : (1 : Int) + 2 * ((0 : Nat) : Int) = 1 := by simp
  rw [e1]
  clear hst x1 e1
  go_wp2_with fail
  refine (markEventS_nil a1 c1 1 w1).mono ?_
  rintro e w2 ⟨rfl, hb2⟩
  have hw2 : Below w.heap.size w w2 := hb1.trans (hb2.mono hb1.size)
  go_wp2_with fail
  go_ret
  exact ⟨rfl, hw2⟩

theorem EvsSep.agree {lo hi b off : Nat} {g : Nat → Nat} {w w' : World} {es : List Ev} (h : EvsSep lo hi w b off g es) (hs : ∀ c, lo ≤ c → c < hi → w'.heap[c]? = w.heap[c]?) : EvsSep lo hi w' b off g es := by
  have hb := hs b h.bl h.bh
  refine ⟨h.bl, h.bh, fun i hi => ?_, fun i hi => ?_, fun i hi => ?_, h.gl, fun i hi q hq => ?_, h.gs⟩
  · exact (World.cell?_of_block (w := w) (w' := w') (a := ⟨b, _, none⟩) hb).trans (h.c0 i hi)
  · exact (World.frozen?_of_block (w := w) (w' := w') (a := ⟨b, _, none⟩) hb).trans (h.f0 i hi)
  · exact (World.cell?_of_block (w := w) (w' := w') (a := ⟨b, _, none⟩) hb).trans (h.c1 i hi)
  · have hg := hs (g i) (h.gl i hi).1 (h.gl i hi).2.1
    exact ⟨(World.cell?_of_block (w := w) (w' := w') (a := ⟨g i, _, none⟩) hg).trans (h.gc i hi q hq).1, (World.frozen?_of_block (w := w) (w' := w') (a := ⟨g i, _, none⟩) hg).trans (h.gc i hi q hq).2⟩
theorem PairBox.agree {l0 h0 lo hi n : Nat} {v : Value} {w w' : World} (h : PairBox l0 h0 w v n) (hl : lo ≤ l0) (hh : h0 ≤ hi) (hs : ∀ c, lo ≤ c → c < hi → w'.heap[c]? = w.heap[c]?) : PairBox l0 h0 w' v n := by
  obtain ⟨ao, cap, hv, hz⟩ := h
  refine ⟨ao, cap, hv, ?_⟩
  rcases hz with hz | ⟨b, off, ha, h1, h2, hc⟩
  · exact Or.inl hz
  · have hb := hs b (by omega) (by omega)
    refine Or.inr ⟨b, off, ha, h1, h2, fun i hi => ?_⟩
    obtain ⟨⟨u, hu⟩, hf⟩ := hc i hi
    exact ⟨⟨u, (World.cell?_of_block (w := w) (w' := w') (a := ⟨b, _, none⟩) hb).trans hu⟩, (World.frozen?_of_block (w := w) (w' := w') (a := ⟨b, _, none⟩) hb).trans hf⟩

theorem ap_mark_any (v : Value) (u : UnfD) (w0 w : World) (B : Nat) (h : ApAt B w0 v u) (hsm : Same B w0 w) (hBw : B ≤ w0.heap.size) (hs : SmallUnf u) (hz : u.es.length = 0 → u.cs.length = 0) :
    Calls Tryz.prog 17 #[v, .int .i64 1] w (RetMk B w0.heap.size w v u) := by
  have hag : ∀ c, B ≤ c → c < w0.heap.size → w.heap[c]? = w0.heap[c]? := fun c h1 h2 => hsm.2 c h1 h2
  have hw := hsm.1
  obtain ⟨v0, v1, rfl, hc, he⟩ := h
  obtain ⟨a0, c0, rfl, hcap⟩ := hc.cap
  by_cases hne : u.es.length = 0
  · have hc0 := hz hne
    obtain ⟨a1, c1, rfl⟩ := he.form
    have het := he.at
    have hes : u.es = [] := List.eq_nil_of_length_eq_zero hne
    unfold RetMk
    rw [hes] at het ⊢
    rw [hc0] at hcap ⊢
    refine (ap_mark_none a0 a1 c0 c1 w).mono ?_
    rintro e w' ⟨rfl, hb⟩
    refine ⟨by simp [totE], Stir.of _ _ hb, ⟨_, _, rfl, ⟨a0, c0, rfl, Nat.zero_le _, Or.inl rfl⟩, ?_⟩⟩
    obtain ⟨ao, cp, e1, e2, _⟩ := het
    exact ⟨ao, cp, e1, e2, Or.inl rfl⟩
  · obtain ⟨b, cap, g, rfl, hec, hT, hTg, hsep⟩ := he.sep hne
    have key : ∀ l0 h0, PairBox l0 h0 w0 (.slice a0 u.cs.length c0) u.cs.length → B ≤ l0 → h0 ≤ w0.heap.size → (b < l0 ∨ h0 ≤ b) → (∀ i, i < u.es.length → g i < l0 ∨ h0 ≤ g i) → Calls Tryz.prog 17 #[.agg #[.slice a0 u.cs.length c0, .slice (some ⟨b, 0, none⟩) u.es.length cap], .int .i64 1] w (RetMk B w0.heap.size w (.agg #[.slice a0 u.cs.length c0, .slice (some ⟨b, 0, none⟩) u.es.length cap]) u) := by
      intro l0 h0 hbx h1 h2 h3 h4
      exact markUnf_sep a0 c0 u.cs.length u.es b cap g w B w0.heap.size l0 h0 (hbx.agree h1 h2 hag) hcap h1 h2 hw h3 h4 (hsep.agree hag) hec hs.1 hs.2
    rcases hc.2 with ⟨hv, hn⟩ | ⟨gC, capC, cur, hv, hB, hg, hnc, _⟩
    · exact key B B ⟨a0, c0, rfl, Or.inl hn⟩ (Nat.le_refl _) hBw (Or.inr hsep.bl) (fun i hi => Or.inr (hsep.gl i hi).1)
    · have hTc : TyAt w0 gC 96 := ⟨cur, _, hg⟩
      have hlt : gC < w0.heap.size := (Array.getElem?_eq_some_iff.1 hg).1
      obtain ⟨ao, cp, hf, hz2⟩ := CRow.box hc
      injection hf with e1 e2 e3
      injection hv with k1 k2 k3
      refine key gC (gC + 1) ⟨a0, c0, rfl, ?_⟩ hB hlt ?_ (fun i hi => ?_)
      · rcases hz2 with hz2 | ⟨b', off', ha', q1, q2, hcell⟩
        · exact Or.inl hz2
        · refine Or.inr ⟨b', off', e1.trans ha', ?_, ?_, hcell⟩
          all_goals
            rw [k1] at e1
            rw [ha'] at e1
            injection e1 with e1
            injection e1 with e1 _
            omega
      · have := hT.ne hTc (by decide)
        omega
      · have := (hTg i hi).ne hTc (by decide)
        omega

end Go.Proofs.YtigkgfdnnfmmmaaGreat
