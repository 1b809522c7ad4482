/-
  WALKS: MirrorSTG of the program and of the model.
-/
import Derived.Test.YtkkfglolameogaaOwnc
import Derived.Test.YtkkfglolameogaaStgt
import Derived.Test.YtkkfglolameogaaStgj
import Derived.Lib.BufferOwn
import Derived.Lib.BufferWrite
namespace Go.Proofs.Ytkkfglolameogaa
open Go.RowKit

/-- the kinds of the first k signals exchanged -/
def mirK (k : Nat) (ss : List Sig) : List Sig := (List.range ss.length).map fun i => (sgN ss i, if i < k then 3 - sgK ss i else sgK ss i)
theorem mirK_length (k : Nat) (ss : List Sig) : (mirK k ss).length = ss.length := by simp [mirK]
theorem mirK_N {k : Nat} {ss : List Sig} {i : Nat} (h : i < ss.length) : sgN (mirK k ss) i = sgN ss i := by simp [mirK, sgN, List.getD, h]
theorem mirK_K {k : Nat} {ss : List Sig} {i : Nat} (h : i < ss.length) : sgK (mirK k ss) i = if i < k then 3 - sgK ss i else sgK ss i := by simp [mirK, sgK, List.getD, h]
theorem mirK_zero (ss : List Sig) : pairCells (sgX (mirK 0 ss)) (sgY (mirK 0 ss)) ss.length = pairCells (sgX ss) (sgY ss) ss.length :=
  pairCells_congr _ fun i hi => by simp [sgX, sgY, mirK_N hi, mirK_K hi]
theorem mirK_step {ss : List Sig} {k : Nat} (hk : k < ss.length) : (pairCells (sgX (mirK k ss)) (sgY (mirK k ss)) ss.length).set (k * 2 + 1) (.int .i64 (3 - sgK ss k)) = pairCells (sgX (mirK (k + 1) ss)) (sgY (mirK (k + 1) ss)) ss.length := by
  rw [pairCells_set1 _ _ _ _ _ hk]
  refine pairCells_congr _ fun i hi => ⟨?_, ?_⟩
  · simp only [sgX, mirK_N hi]
  · simp only [sgY, mirK_K hi]
    by_cases e : i = k
    · subst e; rw [if_pos rfl, if_pos (Nat.lt_succ_self _)]
    · rw [if_neg e]
      by_cases h : i < k
      · rw [if_pos h, if_pos (by omega)]
      · rw [if_neg h, if_neg (by omega)]
/-- no signal is internal -/
def noInt (ss : List Sig) : Bool := decide (∀ i, i < ss.length → sgK ss i ≠ 3)
def mirB (s : StgD) : Bool := goodS s && noInt s.sigs
def mirR (s : StgD) : StgD := if mirB s = true then ⟨s.net, mirK s.sigs.length s.sigs, s.labs, s.start⟩ else zeroS
theorem mirR_no {s : StgD} (h : mirB s = false) : mirR s = zeroS := by unfold mirR; rw [h]; rfl
theorem mirR_yes {s : StgD} (h : mirB s = true) : mirR s = ⟨s.net, mirK s.sigs.length s.sigs, s.labs, s.start⟩ := by unfold mirR; rw [h]; rfl
theorem zeroS_small : SmallStg zeroS := ⟨⟨Nat.zero_le _, fun i hi => absurd hi (Nat.not_lt_zero _)⟩, ⟨Nat.zero_le _, fun i hi => absurd hi (Nat.not_lt_zero _)⟩, Nat.zero_le _, Nat.zero_le _⟩
theorem mirR_small {s : StgD} (h : SmallStg s) : SmallStg (mirR s) := by
  by_cases hb : mirB s = true
  · rw [mirR_yes hb]
    refine ⟨h.1, ⟨by rw [mirK_length]; exact h.2.1.1, fun i hi => ?_⟩, h.2.2⟩
    rw [mirK_length] at hi
    rw [mirK_N hi]; exact h.2.1.2 i hi
  · rw [mirR_no (by simpa using hb)]; exact zeroS_small
theorem goodS_places' {s : StgD} (h : goodS s = true) : -9223372036854775808 ≤ s.net.places ∧ s.net.places ≤ 9223372036854775807 := by
  unfold goodS goodN at h
  simp only [Bool.and_eq_true, decide_eq_true_eq] at h
  have := h.1.1.1.1
  omega
theorem goodS_net {s : StgD} (h : goodS s = true) : goodN s.net = true := by
  unfold goodS at h
  simp only [Bool.and_eq_true] at h
  exact h.1.1
theorem goodS_kind {s : StgD} (h : goodS s = true) {i : Nat} (hi : i < s.sigs.length) : 1 ≤ sgK s.sigs i ∧ sgK s.sigs i ≤ 3 := by
  unfold goodS sigsB at h
  simp only [Bool.and_eq_true, decide_eq_true_eq] at h
  exact (h.2.1.1 i hi).2.1
theorem frozen_grown {w w' : World} {row : Option Nat} {a : Addr} (hg : w.grownBy w' row) (hf : w.frozen? a = false) (ha : a.block < w.heap.size) (hne : some a.block ≠ row) : w'.frozen? a = false :=
  (World.frozen?_of_block (hg.block a.block ha hne)).trans hf

set_option maxRecDepth 100000 in
set_option maxHeartbeats 4000000 in
theorem MirrorSTG_any (v : Value) (s : StgD) (w : World) (lo : Nat) (hv : StgAt lo w v s) (hs : SmallStg s) :
    Calls Try.prog 14 #[v] w (RetSO w (mirR s) (mirB s)) := by
  obtain ⟨a0, c0, a1, c1, a2, c2, rfl, hn_, hsg, hl_⟩ := hv.form
  clear hn_
  have HV := Lib.hid hv; clear hv
  have HG := Lib.hid hsg; clear hsg
  have HLA := Lib.hid hl_; clear hl_
  have HS := Lib.hid hs; clear hs
  obtain ⟨RR, hRR⟩ : ∃ R, R = (mirR s) := ⟨_, rfl⟩
  obtain ⟨BB, hBB⟩ : ∃ B, B = (mirB s) := ⟨_, rfl⟩
  rw [← hRR, ← hBB]
  have HR := Lib.hid hRR; clear hRR
  have HB := Lib.hid hBB; clear hBB
  obtain ⟨p, hp⟩ : ∃ x, x = s.net.places := ⟨_, rfl⟩
  obtain ⟨m, hm⟩ : ∃ x, x = s.net.ts.length := ⟨_, rfl⟩
  obtain ⟨ns, hns⟩ : ∃ x, x = s.sigs.length := ⟨_, rfl⟩
  obtain ⟨nl, hnl⟩ : ∃ x, x = s.labs.length := ⟨_, rfl⟩
  obtain ⟨st, hst⟩ : ∃ x, x = s.start := ⟨_, rfl⟩
  rw [← hp, ← hm, ← hns, ← hnl, ← hst] at HV ⊢
  rw [← hns] at HG
  rw [← hnl] at HLA
  have HP := Lib.hid (And.intro hp (And.intro hm (And.intro hns (And.intro hnl hst)))); clear hp hm hns hnl hst
  go_enter Try.func14, Try.ntmps14
  go_wp2_with fail
  refine (IsValidSTG_any _ s _ lo (HV.out.keep ?_) HS.out).mono ?_
  · (repeat' (first | (with_reducible exact Carries.refl _ _) | (with_reducible assumption) | (with_reducible refine Carries.alloc ?_ _) | (with_reducible refine Carries.drew ?_) | (with_reducible refine Carries.drewN ?_ _) | (with_reducible refine Carries.set ?_ ?_ _) | go_size))
  rintro e w1 ⟨rfl, hb⟩
  have hw1 : Below w.heap.size w w1 := by
    refine Below.trans ?_ (hb.mono ?_)
    · (repeat' (first | (with_reducible exact Below.refl _ _) | (with_reducible assumption) | (with_reducible refine Below.alloc ?_ ?_ _) | (with_reducible refine Below.drew ?_) | (with_reducible refine below_drewN ?_ _) | (with_reducible refine Below.setCell ?_ ?_ _) | go_size))
    · simp; omega
  have x0 : w1.cell? ⟨w.heap.size, 0, none⟩ = some (.int .i64 p) := cell_carry (by simp [go_sem]) (Carries.of 0 hb)
  have x1 : w1.cell? ⟨w.heap.size, 1, none⟩ = some (.slice a0 m c0) := cell_carry (by simp [go_sem]) (Carries.of 0 hb)
  have x2 : w1.cell? ⟨w.heap.size, 2, none⟩ = some (.slice a1 ns c1) := cell_carry (by simp [go_sem]) (Carries.of 0 hb)
  have x3 : w1.cell? ⟨w.heap.size, 3, none⟩ = some (.slice a2 nl c2) := cell_carry (by simp [go_sem]) (Carries.of 0 hb)
  have x4 : w1.cell? ⟨w.heap.size, 4, none⟩ = some (.string st) := cell_carry (by simp [go_sem]) (Carries.of 0 hb)
  have r0 : w1.cell? ⟨w.heap.size + 1, 0, none⟩ = some (.int .i64 0) := cell_carry (by simp [go_sem]) (Carries.of 0 hb)
  have rf0 : w1.frozen? ⟨w.heap.size + 1, 0, none⟩ = false := (hb.frozen (by simp)).trans (by simp [go_sem])
  have r1 : w1.cell? ⟨w.heap.size + 1, 1, none⟩ = some (.slice none 0 0) := cell_carry (by simp [go_sem]) (Carries.of 0 hb)
  have rf1 : w1.frozen? ⟨w.heap.size + 1, 1, none⟩ = false := (hb.frozen (by simp)).trans (by simp [go_sem])
  have r2 : w1.cell? ⟨w.heap.size + 1, 2, none⟩ = some (.slice none 0 0) := cell_carry (by simp [go_sem]) (Carries.of 0 hb)
  have rf2 : w1.frozen? ⟨w.heap.size + 1, 2, none⟩ = false := (hb.frozen (by simp)).trans (by simp [go_sem])
  have r3 : w1.cell? ⟨w.heap.size + 1, 3, none⟩ = some (.slice none 0 0) := cell_carry (by simp [go_sem]) (Carries.of 0 hb)
  have rf3 : w1.frozen? ⟨w.heap.size + 1, 3, none⟩ = false := (hb.frozen (by simp)).trans (by simp [go_sem])
  have r4 : w1.cell? ⟨w.heap.size + 1, 4, none⟩ = some (.string ⟨#[]⟩) := cell_carry (by simp [go_sem]) (Carries.of 0 hb)
  have rf4 : w1.frozen? ⟨w.heap.size + 1, 4, none⟩ = false := (hb.frozen (by simp)).trans (by simp [go_sem])
  have z1 : w.heap.size + 1 < w1.heap.size := by have := hb.size; simp at this; omega
  clear hb
  cases hg : goodS s with
  | false =>
    have hno : mirB s = false := by unfold mirB; rw [hg]; rfl
    clear hg
    have e1 := HB.out
    rw [hno] at e1
    have e2 := HR.out
    rw [mirR_no hno] at e2
    subst e1; subst e2
    go_wp2_with fail
    generalize hWX : (((((w1.setCell ⟨w.heap.size + 1, 0, none⟩ (.int .i64 0)).setCell ⟨w.heap.size + 1, 1, none⟩ (.slice none 0 0)).setCell ⟨w.heap.size + 1, 2, none⟩ (.slice none 0 0)).setCell ⟨w.heap.size + 1, 3, none⟩ (.slice none 0 0)).setCell ⟨w.heap.size + 1, 4, none⟩ (.string ⟨#[]⟩)) = WX
    obtain ⟨q0, q1, q2, q3, q4⟩ := put5_cells hWX r0 r1 r2 r3 r4
    have hbf := put5_below hWX hw1 (by omega)
    clear hWX
    refine bodyPost_ret (v := .tuple #[.agg #[.int .i64 0, .slice none 0 0, .slice none 0 0, .slice none 0 0, .string ⟨#[]⟩], .bool false]) (by simp [results, Try.results14, go_sem, q0, q1, q2, q3, q4]) rfl ?_
    exact ⟨_, rfl, (SepStg.zero _).wide hbf.size (Nat.le_refl _) (Nat.le_refl _), hbf⟩
  | true =>
  have hpl := goodS_places' hg
  have HGS := Lib.hid hg; clear hg
  go_wp2_with fail
  refine (copySTG_any _ s _ lo (HV.out.keep (Carries.of lo hw1)) HS.out.1 (goodN_low (goodS_net HGS.out)) HS.out.2.1.1 HS.out.2.2.1).mono ?_
  rintro e w2 hret
  obtain ⟨vv, rfl, hsep, hb⟩ := hret.sep hpl
  obtain ⟨ta, tc, sa, sc, la, lc, rfl, hopen⟩ := hsep.open
  clear hsep hret hpl
  have hw2 : Below w.heap.size w w2 := hw1.trans (hb.mono hw1.size)
  obtain ⟨hi, hBhi, hhiH, hos, hsH, hol, hlH, hclose⟩ := hopen
  rw [← HP.out.1, ← HP.out.2.1, ← HP.out.2.2.1, ← HP.out.2.2.2.1, ← HP.out.2.2.2.2] at hclose ⊢
  rw [← HP.out.2.2.1] at hos hsH
  rw [← HP.out.2.2.2.1] at hol hlH
  obtain ⟨ss, hss⟩ : ∃ ss, ss = s.sigs := ⟨_, rfl⟩
  obtain ⟨ls, hls⟩ : ∃ ls, ls = s.labs := ⟨_, rfl⟩
  rw [← hss] at hos HG
  rw [← hls] at hol
  have hlen : ss.length = ns := by rw [hss]; exact HP.out.2.2.1.symm
  have hllen : ls.length = nl := by rw [hls]; exact HP.out.2.2.2.1.symm
  have hkinds : ∀ i, i < ns → 1 ≤ sgK ss i ∧ sgK ss i ≤ 3 := fun i hi => by rw [hss]; exact goodS_kind HGS.out (by rw [← hss, hlen]; exact hi)
  have HNS := Lib.hid hlen
  have HNL := Lib.hid hllen
  have HK := Lib.hid hkinds; clear hkinds
  have HSS := Lib.hid (And.intro hss hls)
  have hn1 : ns ≤ 1048576 := by rw [HP.out.2.2.1]; exact HS.out.2.1.1
  have hap := rows_apartT hol hos (by decide)
  have HOS := Lib.hid hos; clear hos
  have HOL := Lib.hid hol; clear hol
  have HAP := Lib.hid hap; clear hap
  have HSH := Lib.hid hsH; clear hsH
  have HLH := Lib.hid hlH; clear hlH
  have HCL := Lib.hid hclose; clear hclose
  clear hss hls hlen hllen
  have r0 := cell_carry r0 (Carries.of 0 hb)
  have rf0 := (hb.frozen (p := ⟨w.heap.size + 1, 0, none⟩) z1).trans rf0
  have r1 := cell_carry r1 (Carries.of 0 hb)
  have rf1 := (hb.frozen (p := ⟨w.heap.size + 1, 1, none⟩) z1).trans rf1
  have r2 := cell_carry r2 (Carries.of 0 hb)
  have rf2 := (hb.frozen (p := ⟨w.heap.size + 1, 2, none⟩) z1).trans rf2
  have r3 := cell_carry r3 (Carries.of 0 hb)
  have rf3 := (hb.frozen (p := ⟨w.heap.size + 1, 3, none⟩) z1).trans rf3
  have r4 := cell_carry r4 (Carries.of 0 hb)
  have rf4 := (hb.frozen (p := ⟨w.heap.size + 1, 4, none⟩) z1).trans rf4
  have x2 := cell_carry x2 (Carries.of 0 hb)
  have z2 : w1.heap.size ≤ w2.heap.size := hb.size
  clear hb x0 x1 x3 x4
  have hal : Below w2.heap.size w2 (w2.alloc (.cells #[.int .i64 p, .slice ta m tc, .slice sa ns sc, .slice la nl lc, .string st] 36)) := (Below.refl _ _).alloc (Nat.le_refl _) _
  have hgr0 := World.grownBy_alloc w2 (.cells #[.int .i64 p, .slice ta m tc, .slice sa ns sc, .slice la nl lc, .string st] 36) (Value.slice sa ns sc).ownBlock
  have r0' := cell_carry r0 (Carries.of 0 hal)
  have rf0' := (hal.frozen (p := ⟨w.heap.size + 1, 0, none⟩) (by show w.heap.size + 1 < w2.heap.size; omega)).trans rf0
  have r1' := cell_carry r1 (Carries.of 0 hal)
  have rf1' := (hal.frozen (p := ⟨w.heap.size + 1, 1, none⟩) (by show w.heap.size + 1 < w2.heap.size; omega)).trans rf1
  have r2' := cell_carry r2 (Carries.of 0 hal)
  have rf2' := (hal.frozen (p := ⟨w.heap.size + 1, 2, none⟩) (by show w.heap.size + 1 < w2.heap.size; omega)).trans rf2
  have r3' := cell_carry r3 (Carries.of 0 hal)
  have rf3' := (hal.frozen (p := ⟨w.heap.size + 1, 3, none⟩) (by show w.heap.size + 1 < w2.heap.size; omega)).trans rf3
  have r4' := cell_carry r4 (Carries.of 0 hal)
  have rf4' := (hal.frozen (p := ⟨w.heap.size + 1, 4, none⟩) (by show w.heap.size + 1 < w2.heap.size; omega)).trans rf4
  have x2' := cell_carry x2 (Carries.of 0 hal)
  go_wp2_with fail
  have y0 : (w2.alloc (.cells #[.int .i64 p, .slice ta m tc, .slice sa ns sc, .slice la nl lc, .string st] 36)).cell? ⟨w2.heap.size, 0, none⟩ = some (.int .i64 p) := by simp
  have y1 : (w2.alloc (.cells #[.int .i64 p, .slice ta m tc, .slice sa ns sc, .slice la nl lc, .string st] 36)).cell? ⟨w2.heap.size, 1, none⟩ = some (.slice ta m tc) := by simp
  have y2 : (w2.alloc (.cells #[.int .i64 p, .slice ta m tc, .slice sa ns sc, .slice la nl lc, .string st] 36)).cell? ⟨w2.heap.size, 2, none⟩ = some (.slice sa ns sc) := by simp
  have y3 : (w2.alloc (.cells #[.int .i64 p, .slice ta m tc, .slice sa ns sc, .slice la nl lc, .string st] 36)).cell? ⟨w2.heap.size, 3, none⟩ = some (.slice la nl lc) := by simp
  have y4 : (w2.alloc (.cells #[.int .i64 p, .slice ta m tc, .slice sa ns sc, .slice la nl lc, .string st] 36)).cell? ⟨w2.heap.size, 4, none⟩ = some (.string st) := by simp
  have z3 : w2.heap.size < (w2.alloc (.cells #[.int .i64 p, .slice ta m tc, .slice sa ns sc, .slice la nl lc, .string st] 36)).heap.size := by simp
  clear r0 r1 r2 r3 r4 rf0 rf1 rf2 rf3 rf4 x2
  generalize w2.alloc (.cells #[.int .i64 p, .slice ta m tc, .slice sa ns sc, .slice la nl lc, .string st] 36) = W3 at hal hgr0 r0' r1' r2' r3' r4' rf0' rf1' rf2' rf3' rf4' x2' y0 y1 y2 y3 y4 z3 ⊢
  have hw3 : Below w.heap.size w W3 := hw2.trans (hal.mono hw2.size)
  have HO3 := Lib.hid (show W3.ownsRow hi 86 2 (.slice sa ns sc) ns (pairCells (sgX (mirK 0 ss)) (sgY (mirK 0 ss)) ns) by
    have e := mirK_zero ss
    rw [HNS.out] at e
    rw [e]
    exact owns_after HOS.out hal)
  have HL3 := Lib.hid (owns_after HOL.out hal)
  have HBU := Lib.hid (But.below (B := w1.heap.size) (o1 := (Value.slice sa ns sc).ownBlock) (o2 := (Value.slice la nl lc).ownBlock) hal)
  obtain ⟨ao, cap, e, hc, hz⟩ := HG.out
  simp only [Value.slice.injEq] at e
  obtain ⟨rfl, -, rfl⟩ := e
  have HZ := Lib.hid hz; clear hz hc
  have r0 := r0'
  have rf0 := rf0'
  have r1 := r1'
  have rf1 := rf1'
  have r2 := r2'
  have rf2 := rf2'
  have r3 := r3'
  have rf3 := rf3'
  have r4 := r4'
  have rf4 := rf4'
  have x2 := x2'
  clear r0' r1' r2' r3' r4' rf0' rf1' rf2' rf3' rf4' x2'
  have zW := hw3.size
  clear hal hgr0
  go_loopw [16] (fun i wr => ∃ k : Nat, k ≤ ns ∧ i = .int .i64 k ∧ Hid (wr.ownsRow hi 86 2 (.slice sa ns sc) ns (pairCells (sgX (mirK k ss)) (sgY (mirK k ss)) ns)) ∧ Hid (W3.grownBy wr (Value.slice sa ns sc).ownBlock) ∧ Hid (∀ j, j < k → sgK ss j ≠ 3)) (fun i _ => ns - (intOf i).toNat)
  case atStart => exact ⟨0, Nat.zero_le _, rfl, HO3, ⟨rfl, rfl, rfl, Nat.le_refl _, fun _ _ _ => rfl⟩, fun j hj => absurd hj (Nat.not_lt_zero _)⟩
  case round =>
    obtain ⟨k, hk, rfl, hown, hgrow, hall⟩ := hrel
    have zz := hgrow.out.size
    have hneq : ∀ q, q < hi → some q ≠ (Value.slice sa ns sc).ownBlock := fun q hq e => by have := (HOS.out.lt q e.symm).1; omega
    have hneH : some w2.heap.size ≠ (Value.slice sa ns sc).ownBlock := fun e => by have := HSH.out _ e.symm; omega
    have hwr : Below w.heap.size w wr := hw3.grown hgrow.out hw3.size (fun g hg => by have := (HOS.out.lt g hg).1; omega)
    have rf0 := frozen_grown hgrow.out rf0 (by show w.heap.size + 1 < W3.heap.size; omega) (hneq _ (by show w.heap.size + 1 < hi; omega))
    have r0 := hgrow.out.cell r0 (hneq _ (by show w.heap.size + 1 < hi; omega))
    have rf1 := frozen_grown hgrow.out rf1 (by show w.heap.size + 1 < W3.heap.size; omega) (hneq _ (by show w.heap.size + 1 < hi; omega))
    have r1 := hgrow.out.cell r1 (hneq _ (by show w.heap.size + 1 < hi; omega))
    have rf2 := frozen_grown hgrow.out rf2 (by show w.heap.size + 1 < W3.heap.size; omega) (hneq _ (by show w.heap.size + 1 < hi; omega))
    have r2 := hgrow.out.cell r2 (hneq _ (by show w.heap.size + 1 < hi; omega))
    have rf3 := frozen_grown hgrow.out rf3 (by show w.heap.size + 1 < W3.heap.size; omega) (hneq _ (by show w.heap.size + 1 < hi; omega))
    have r3 := hgrow.out.cell r3 (hneq _ (by show w.heap.size + 1 < hi; omega))
    have rf4 := frozen_grown hgrow.out rf4 (by show w.heap.size + 1 < W3.heap.size; omega) (hneq _ (by show w.heap.size + 1 < hi; omega))
    have r4 := hgrow.out.cell r4 (hneq _ (by show w.heap.size + 1 < hi; omega))
    have y0 := hgrow.out.cell y0 hneH
    have y1 := hgrow.out.cell y1 hneH
    have y2 := hgrow.out.cell y2 hneH
    have y3 := hgrow.out.cell y3 hneH
    have y4 := hgrow.out.cell y4 hneH
    have HNQ := Lib.hid hneq; clear hneq hneH
    by_cases hlt : k < ns
    · rcases HZ.out with h0 | ⟨b, off, rfl, hlo, hcell⟩
      · have := HNS.out; omega
      obtain ⟨d0, d1⟩ := hcell k (by have := HNS.out; omega)
      have hb0 : b < w.heap.size := cell_old d0
      have d0 := hgrow.out.cell (Carries.of lo hw3 _ _ hlo d0) (HNQ.out b (by omega))
      have d1 := hgrow.out.cell (Carries.of lo hw3 _ _ hlo d1) (HNQ.out b (by omega))
      try dsimp only at d0 d1
      clear hcell
      obtain ⟨nm, hnm⟩ : ∃ x, x = sgN ss k := ⟨_, rfl⟩
      obtain ⟨kd, hkd⟩ : ∃ x, x = sgK ss k := ⟨_, rfl⟩
      obtain ⟨q1, q2⟩ := HK.out k hlt
      rw [← hnm] at d0
      rw [← hkd] at d1 q1 q2
      have HKD := Lib.hid hkd; clear hkd hnm
      have HA := World.ownsRow.alloc hown.out (.cells #[.string nm, .int .i64 kd] 86)
      rcases HA.2 with ⟨e, hn0⟩ | ⟨g, cap', cur, e, hgb, hgg, _⟩
      · omega
      simp only [Value.slice.injEq, true_and] at e
      obtain ⟨rfl, rfl⟩ := e
      have hcl : (pairCells (sgX (mirK k ss)) (sgY (mirK k ss)) ns)[k * 2 + 1]? = some (.int .i64 (sgK (mirK k ss) k)) := (pairCells_get _ _ ns k hlt).2
      have f1 := HA.frozenAt (k * 2 + 1)
      have k1 := (HA.cellAt (k * 2 + 1) (by omega)).trans hcl
      have k0 := (HA.cellAt (k * 2) (by omega)).trans (pairCells_get _ _ ns k hlt).1
      have hst := HA.stored (k * 2 + 1) (.int .i64 (3 - kd))
      have hms := mirK_step (ss := ss) (k := k) (by rw [HNS.out]; exact hlt)
      rw [HNS.out, ← HKD.out] at hms
      rw [hms] at hst
      have HST := Lib.hid hst
      have HA' := Lib.hid HA
      have y2 := cell_carry y2 (Carries.alloc (Carries.refl 0 wr) (.cells #[.string nm, .int .i64 kd] 86))
      have hgr2 := Lib.grownBy_trans hgrow.out (World.grownBy_alloc wr (.cells #[.string nm, .int .i64 kd] 86) (some g))
      have HGR := Lib.hid hgr2; clear hgr2 hst hms hcl HA hgg hown
      generalize sgK (mirK k ss) k = oldk at k1
      by_cases e3 : kd = 3
      · have hno : mirB s = false := by
          unfold mirB noInt
          rw [decide_eq_false (fun h => h k (by rw [← HSS.out.1, HNS.out]; exact hlt) (by rw [← HSS.out.1, ← HKD.out]; exact e3))]
          simp
        subst e3
        have hwa : Below w.heap.size w (wr.alloc (.cells #[.string nm, .int .i64 3] 86)) := hwr.alloc hwr.size _
        have rf0 := (Below.frozen ((Below.refl wr.heap.size wr).alloc (Nat.le_refl _) (.cells #[.string nm, .int .i64 3] 86)) (p := ⟨w.heap.size + 1, 0, none⟩) (by show w.heap.size + 1 < wr.heap.size; omega)).trans rf0
        have r0 := cell_carry r0 (Carries.alloc (Carries.refl 0 wr) (.cells #[.string nm, .int .i64 3] 86))
        have rf1 := (Below.frozen ((Below.refl wr.heap.size wr).alloc (Nat.le_refl _) (.cells #[.string nm, .int .i64 3] 86)) (p := ⟨w.heap.size + 1, 1, none⟩) (by show w.heap.size + 1 < wr.heap.size; omega)).trans rf1
        have r1 := cell_carry r1 (Carries.alloc (Carries.refl 0 wr) (.cells #[.string nm, .int .i64 3] 86))
        have rf2 := (Below.frozen ((Below.refl wr.heap.size wr).alloc (Nat.le_refl _) (.cells #[.string nm, .int .i64 3] 86)) (p := ⟨w.heap.size + 1, 2, none⟩) (by show w.heap.size + 1 < wr.heap.size; omega)).trans rf2
        have r2 := cell_carry r2 (Carries.alloc (Carries.refl 0 wr) (.cells #[.string nm, .int .i64 3] 86))
        have rf3 := (Below.frozen ((Below.refl wr.heap.size wr).alloc (Nat.le_refl _) (.cells #[.string nm, .int .i64 3] 86)) (p := ⟨w.heap.size + 1, 3, none⟩) (by show w.heap.size + 1 < wr.heap.size; omega)).trans rf3
        have r3 := cell_carry r3 (Carries.alloc (Carries.refl 0 wr) (.cells #[.string nm, .int .i64 3] 86))
        have rf4 := (Below.frozen ((Below.refl wr.heap.size wr).alloc (Nat.le_refl _) (.cells #[.string nm, .int .i64 3] 86)) (p := ⟨w.heap.size + 1, 4, none⟩) (by show w.heap.size + 1 < wr.heap.size; omega)).trans rf4
        have r4 := cell_carry r4 (Carries.alloc (Carries.refl 0 wr) (.cells #[.string nm, .int .i64 3] 86))
        clear k1 k0 f1 hall
        have e1 := HB.out
        rw [hno] at e1
        have e2 := HR.out
        rw [mirR_no hno] at e2
        subst e1; subst e2
        go_wp2_with fail
        generalize hWX : ((((((wr.alloc (.cells #[.string nm, .int .i64 3] 86)).setCell ⟨w.heap.size + 1, 0, none⟩ (.int .i64 0)).setCell ⟨w.heap.size + 1, 1, none⟩ (.slice none 0 0)).setCell ⟨w.heap.size + 1, 2, none⟩ (.slice none 0 0)).setCell ⟨w.heap.size + 1, 3, none⟩ (.slice none 0 0)).setCell ⟨w.heap.size + 1, 4, none⟩ (.string ⟨#[]⟩)) = WX
        obtain ⟨q0, q1, q2, q3, q4⟩ := put5_cells hWX r0 r1 r2 r3 r4
        have hbf := put5_below hWX hwa (by omega)
        clear hWX
        refine bodyPost_ret (v := .tuple #[.agg #[.int .i64 0, .slice none 0 0, .slice none 0 0, .slice none 0 0, .string ⟨#[]⟩], .bool false]) (by simp [results, Try.results14, go_sem, q0, q1, q2, q3, q4]) rfl ?_
        exact ⟨_, rfl, (SepStg.zero _).wide hbf.size (Nat.le_refl _) (Nat.le_refl _), hbf⟩

      · have H2 : Hid (∀ j, j < k + 1 → sgK ss j ≠ 3) := by
          intro j hj
          by_cases e : j = k
          · subst e; rw [← HKD.out]; exact e3
          · exact hall.out j (by omega)
        have h12 : kd = 1 ∨ kd = 2 := by omega
        clear q1 q2 e3 hall HKD
        rcases h12 with rfl | rfl
        · go_wp2_with fail
          go_roundw
          case rel => exact ⟨k + 1, by omega, by go_num, HST.out.1, Lib.grownBy_trans HGR.out HST.out.2, H2⟩
          case measure => simp [intOf]; omega
        · go_wp2_with fail
          go_roundw
          case rel => exact ⟨k + 1, by omega, by go_num, HST.out.1, Lib.grownBy_trans HGR.out HST.out.2, H2⟩
          case measure => simp [intOf]; omega
    · have hkk : k = ns := by omega
      have hyes : mirB s = true := by
        unfold mirB noInt
        rw [HGS.out, decide_eq_true (fun i hi => by rw [← HSS.out.1]; exact hall.out i (by rw [hkk, ← HNS.out, HSS.out.1]; exact hi))]
        rfl
      subst hkk
      have e1 := HB.out
      rw [hyes] at e1
      have e2 := HR.out
      rw [mirR_yes hyes, ← HSS.out.1, ← HSS.out.2, ← HP.out.2.2.2.2, HNS.out] at e2
      subst e1; subst e2
      clear hyes
      have HL4 := Lib.hid (HL3.out.kept hgrow.out HAP.out)
      have HBU4 := Lib.hid (HBU.out.trans (But.of hgrow.out))
      go_wp2_with fail
      generalize hWX : (((((wr.setCell ⟨w.heap.size + 1, 0, none⟩ (.int .i64 p)).setCell ⟨w.heap.size + 1, 1, none⟩ (.slice ta m tc)).setCell ⟨w.heap.size + 1, 2, none⟩ (.slice sa k sc)).setCell ⟨w.heap.size + 1, 3, none⟩ (.slice la nl lc)).setCell ⟨w.heap.size + 1, 4, none⟩ (.string st)) = WX
      obtain ⟨q0, q1, q2, q3, q4⟩ := put5_cells hWX r0 r1 r2 r3 r4
      have hbf := put5_below hWX hwr (by omega)
      have hrow := put5_owns hWX hown.out (by omega)
      have hlab := put5_owns hWX HL4.out (by omega)
      have hbut := put5_but hWX HBU4.out (by omega)
      clear hWX
      refine bodyPost_ret (v := .tuple #[.agg #[.int .i64 p, .slice ta m tc, .slice sa k sc, .slice la nl lc, .string st], .bool true]) (by simp [results, Try.results14, go_sem, q0, q1, q2, q3, q4]) rfl ?_
      have hG := HCL.out _ (.slice sa k sc) (.slice la nl lc) (mirK k ss) ls hbut (by rw [mirK_length, HNS.out]; exact hrow) HSH.out (by rw [HNL.out]; exact hlab) HLH.out
      exact ⟨_, rfl, hG.wide (by omega) hbut.1 (Nat.le_refl _), hbf⟩

set_option maxRecDepth 100000 in
set_option maxHeartbeats 4000000 in
theorem specMirrorSTG_any (v : Value) (s : StgD) (w : World) (lo : Nat) (hv : StgAt lo w v s) (hs : SmallStg s) :
    Calls Try.prog 12 #[v] w (RetSB w (mirR s) (mirB s)) := by
  obtain ⟨a0, c0, a1, c1, a2, c2, rfl, hn_, hsg, hl_⟩ := hv.form
  clear hn_
  have HV := Lib.hid hv; clear hv
  have HG := Lib.hid hsg; clear hsg
  have HLA := Lib.hid hl_; clear hl_
  have HS := Lib.hid hs; clear hs
  obtain ⟨RR, hRR⟩ : ∃ R, R = (mirR s) := ⟨_, rfl⟩
  obtain ⟨BB, hBB⟩ : ∃ B, B = (mirB s) := ⟨_, rfl⟩
  rw [← hRR, ← hBB]
  have HR := Lib.hid hRR; clear hRR
  have HB := Lib.hid hBB; clear hBB
  obtain ⟨p, hp⟩ : ∃ x, x = s.net.places := ⟨_, rfl⟩
  obtain ⟨m, hm⟩ : ∃ x, x = s.net.ts.length := ⟨_, rfl⟩
  obtain ⟨ns, hns⟩ : ∃ x, x = s.sigs.length := ⟨_, rfl⟩
  obtain ⟨nl, hnl⟩ : ∃ x, x = s.labs.length := ⟨_, rfl⟩
  obtain ⟨st, hst⟩ : ∃ x, x = s.start := ⟨_, rfl⟩
  rw [← hp, ← hm, ← hns, ← hnl, ← hst] at HV ⊢
  rw [← hns] at HG
  rw [← hnl] at HLA
  have HP := Lib.hid (And.intro hp (And.intro hm (And.intro hns (And.intro hnl hst)))); clear hp hm hns hnl hst
  go_enter Try.func12, Try.ntmps12
  go_wp2_with fail
  refine (l2Good_any _ s _ lo (HV.out.keep ?_) HS.out).mono ?_
  · (repeat' (first | (with_reducible exact Carries.refl _ _) | (with_reducible assumption) | (with_reducible refine Carries.alloc ?_ _) | (with_reducible refine Carries.drew ?_) | (with_reducible refine Carries.drewN ?_ _) | (with_reducible refine Carries.set ?_ ?_ _) | go_size))
  rintro e w1 ⟨rfl, hb⟩
  have hw1 : Below w.heap.size w w1 := by
    refine Below.trans ?_ (hb.mono ?_)
    · (repeat' (first | (with_reducible exact Below.refl _ _) | (with_reducible assumption) | (with_reducible refine Below.alloc ?_ ?_ _) | (with_reducible refine Below.drew ?_) | (with_reducible refine below_drewN ?_ _) | (with_reducible refine Below.setCell ?_ ?_ _) | go_size))
    · simp; omega
  have x0 : w1.cell? ⟨w.heap.size, 0, none⟩ = some (.int .i64 p) := cell_carry (by simp [go_sem]) (Carries.of 0 hb)
  have x1 : w1.cell? ⟨w.heap.size, 1, none⟩ = some (.slice a0 m c0) := cell_carry (by simp [go_sem]) (Carries.of 0 hb)
  have x2 : w1.cell? ⟨w.heap.size, 2, none⟩ = some (.slice a1 ns c1) := cell_carry (by simp [go_sem]) (Carries.of 0 hb)
  have x3 : w1.cell? ⟨w.heap.size, 3, none⟩ = some (.slice a2 nl c2) := cell_carry (by simp [go_sem]) (Carries.of 0 hb)
  have x4 : w1.cell? ⟨w.heap.size, 4, none⟩ = some (.string st) := cell_carry (by simp [go_sem]) (Carries.of 0 hb)
  have r0 : w1.cell? ⟨w.heap.size + 1, 0, none⟩ = some (.int .i64 0) := cell_carry (by simp [go_sem]) (Carries.of 0 hb)
  have rf0 : w1.frozen? ⟨w.heap.size + 1, 0, none⟩ = false := (hb.frozen (by simp)).trans (by simp [go_sem])
  have r1 : w1.cell? ⟨w.heap.size + 1, 1, none⟩ = some (.slice none 0 0) := cell_carry (by simp [go_sem]) (Carries.of 0 hb)
  have rf1 : w1.frozen? ⟨w.heap.size + 1, 1, none⟩ = false := (hb.frozen (by simp)).trans (by simp [go_sem])
  have r2 : w1.cell? ⟨w.heap.size + 1, 2, none⟩ = some (.slice none 0 0) := cell_carry (by simp [go_sem]) (Carries.of 0 hb)
  have rf2 : w1.frozen? ⟨w.heap.size + 1, 2, none⟩ = false := (hb.frozen (by simp)).trans (by simp [go_sem])
  have r3 : w1.cell? ⟨w.heap.size + 1, 3, none⟩ = some (.slice none 0 0) := cell_carry (by simp [go_sem]) (Carries.of 0 hb)
  have rf3 : w1.frozen? ⟨w.heap.size + 1, 3, none⟩ = false := (hb.frozen (by simp)).trans (by simp [go_sem])
  have r4 : w1.cell? ⟨w.heap.size + 1, 4, none⟩ = some (.string ⟨#[]⟩) := cell_carry (by simp [go_sem]) (Carries.of 0 hb)
  have rf4 : w1.frozen? ⟨w.heap.size + 1, 4, none⟩ = false := (hb.frozen (by simp)).trans (by simp [go_sem])
  have z1 : w.heap.size + 1 < w1.heap.size := by have := hb.size; simp at this; omega
  clear hb
  cases hg : goodS s with
  | false =>
    have hno : mirB s = false := by unfold mirB; rw [hg]; rfl
    clear hg
    have e1 := HB.out
    rw [hno] at e1
    have e2 := HR.out
    rw [mirR_no hno] at e2
    subst e1; subst e2
    go_wp2_with fail
    generalize hWX : (((((w1.setCell ⟨w.heap.size + 1, 0, none⟩ (.int .i64 0)).setCell ⟨w.heap.size + 1, 1, none⟩ (.slice none 0 0)).setCell ⟨w.heap.size + 1, 2, none⟩ (.slice none 0 0)).setCell ⟨w.heap.size + 1, 3, none⟩ (.slice none 0 0)).setCell ⟨w.heap.size + 1, 4, none⟩ (.string ⟨#[]⟩)) = WX
    obtain ⟨q0, q1, q2, q3, q4⟩ := put5_cells hWX r0 r1 r2 r3 r4
    have hbf := put5_below hWX hw1 (by omega)
    clear hWX
    refine bodyPost_ret (v := .tuple #[.agg #[.int .i64 0, .slice none 0 0, .slice none 0 0, .slice none 0 0, .string ⟨#[]⟩], .bool false]) (by simp [results, Try.results12, go_sem, q0, q1, q2, q3, q4]) rfl ?_
    exact ⟨_, rfl, (SepStg.zero _).at.low hbf.size, hbf⟩
  | true =>
  have hpl := goodS_places' hg
  have HGS := Lib.hid hg; clear hg
  go_wp2_with fail
  refine (l2Own_any _ s _ lo (HV.out.keep (Carries.of lo hw1)) HS.out.1 HS.out.2.1.1 HS.out.2.2.1).mono ?_
  rintro e w2 hret
  obtain ⟨ta, tc, sa, sc, la, lc, rfl, hopen, hb⟩ := hret.open hpl
  clear hret hpl
  have hw2 : Below w.heap.size w w2 := hw1.trans (hb.mono hw1.size)
  obtain ⟨hi, hBhi, hhiH, hos, hsH, hol, hlH, hclose⟩ := hopen
  rw [← HP.out.1, ← HP.out.2.1, ← HP.out.2.2.1, ← HP.out.2.2.2.1, ← HP.out.2.2.2.2] at hclose ⊢
  rw [← HP.out.2.2.1] at hos hsH
  rw [← HP.out.2.2.2.1] at hol hlH
  obtain ⟨ss, hss⟩ : ∃ ss, ss = s.sigs := ⟨_, rfl⟩
  obtain ⟨ls, hls⟩ : ∃ ls, ls = s.labs := ⟨_, rfl⟩
  rw [← hss] at hos HG
  rw [← hls] at hol
  have hlen : ss.length = ns := by rw [hss]; exact HP.out.2.2.1.symm
  have hllen : ls.length = nl := by rw [hls]; exact HP.out.2.2.2.1.symm
  have hkinds : ∀ i, i < ns → 1 ≤ sgK ss i ∧ sgK ss i ≤ 3 := fun i hi => by rw [hss]; exact goodS_kind HGS.out (by rw [← hss, hlen]; exact hi)
  have HNS := Lib.hid hlen
  have HNL := Lib.hid hllen
  have HK := Lib.hid hkinds; clear hkinds
  have HSS := Lib.hid (And.intro hss hls)
  have hn1 : ns ≤ 1048576 := by rw [HP.out.2.2.1]; exact HS.out.2.1.1
  have hap := rows_apartT hol hos (by decide)
  have HOS := Lib.hid hos; clear hos
  have HOL := Lib.hid hol; clear hol
  have HAP := Lib.hid hap; clear hap
  have HSH := Lib.hid hsH; clear hsH
  have HLH := Lib.hid hlH; clear hlH
  have HCL := Lib.hid hclose; clear hclose
  clear hss hls hlen hllen
  have r0 := cell_carry r0 (Carries.of 0 hb)
  have rf0 := (hb.frozen (p := ⟨w.heap.size + 1, 0, none⟩) z1).trans rf0
  have r1 := cell_carry r1 (Carries.of 0 hb)
  have rf1 := (hb.frozen (p := ⟨w.heap.size + 1, 1, none⟩) z1).trans rf1
  have r2 := cell_carry r2 (Carries.of 0 hb)
  have rf2 := (hb.frozen (p := ⟨w.heap.size + 1, 2, none⟩) z1).trans rf2
  have r3 := cell_carry r3 (Carries.of 0 hb)
  have rf3 := (hb.frozen (p := ⟨w.heap.size + 1, 3, none⟩) z1).trans rf3
  have r4 := cell_carry r4 (Carries.of 0 hb)
  have rf4 := (hb.frozen (p := ⟨w.heap.size + 1, 4, none⟩) z1).trans rf4
  have x2 := cell_carry x2 (Carries.of 0 hb)
  have z2 : w1.heap.size ≤ w2.heap.size := hb.size
  clear hb x0 x1 x3 x4
  have hal : Below w2.heap.size w2 (w2.alloc (.cells #[.int .i64 p, .slice ta m tc, .slice sa ns sc, .slice la nl lc, .string st] 36)) := (Below.refl _ _).alloc (Nat.le_refl _) _
  have hgr0 := World.grownBy_alloc w2 (.cells #[.int .i64 p, .slice ta m tc, .slice sa ns sc, .slice la nl lc, .string st] 36) (Value.slice sa ns sc).ownBlock
  have r0' := cell_carry r0 (Carries.of 0 hal)
  have rf0' := (hal.frozen (p := ⟨w.heap.size + 1, 0, none⟩) (by show w.heap.size + 1 < w2.heap.size; omega)).trans rf0
  have r1' := cell_carry r1 (Carries.of 0 hal)
  have rf1' := (hal.frozen (p := ⟨w.heap.size + 1, 1, none⟩) (by show w.heap.size + 1 < w2.heap.size; omega)).trans rf1
  have r2' := cell_carry r2 (Carries.of 0 hal)
  have rf2' := (hal.frozen (p := ⟨w.heap.size + 1, 2, none⟩) (by show w.heap.size + 1 < w2.heap.size; omega)).trans rf2
  have r3' := cell_carry r3 (Carries.of 0 hal)
  have rf3' := (hal.frozen (p := ⟨w.heap.size + 1, 3, none⟩) (by show w.heap.size + 1 < w2.heap.size; omega)).trans rf3
  have r4' := cell_carry r4 (Carries.of 0 hal)
  have rf4' := (hal.frozen (p := ⟨w.heap.size + 1, 4, none⟩) (by show w.heap.size + 1 < w2.heap.size; omega)).trans rf4
  have x2' := cell_carry x2 (Carries.of 0 hal)
  go_wp2_with fail
  have y0 : (w2.alloc (.cells #[.int .i64 p, .slice ta m tc, .slice sa ns sc, .slice la nl lc, .string st] 36)).cell? ⟨w2.heap.size, 0, none⟩ = some (.int .i64 p) := by simp
  have y1 : (w2.alloc (.cells #[.int .i64 p, .slice ta m tc, .slice sa ns sc, .slice la nl lc, .string st] 36)).cell? ⟨w2.heap.size, 1, none⟩ = some (.slice ta m tc) := by simp
  have y2 : (w2.alloc (.cells #[.int .i64 p, .slice ta m tc, .slice sa ns sc, .slice la nl lc, .string st] 36)).cell? ⟨w2.heap.size, 2, none⟩ = some (.slice sa ns sc) := by simp
  have y3 : (w2.alloc (.cells #[.int .i64 p, .slice ta m tc, .slice sa ns sc, .slice la nl lc, .string st] 36)).cell? ⟨w2.heap.size, 3, none⟩ = some (.slice la nl lc) := by simp
  have y4 : (w2.alloc (.cells #[.int .i64 p, .slice ta m tc, .slice sa ns sc, .slice la nl lc, .string st] 36)).cell? ⟨w2.heap.size, 4, none⟩ = some (.string st) := by simp
  have z3 : w2.heap.size < (w2.alloc (.cells #[.int .i64 p, .slice ta m tc, .slice sa ns sc, .slice la nl lc, .string st] 36)).heap.size := by simp
  clear r0 r1 r2 r3 r4 rf0 rf1 rf2 rf3 rf4 x2
  generalize w2.alloc (.cells #[.int .i64 p, .slice ta m tc, .slice sa ns sc, .slice la nl lc, .string st] 36) = W3 at hal hgr0 r0' r1' r2' r3' r4' rf0' rf1' rf2' rf3' rf4' x2' y0 y1 y2 y3 y4 z3 ⊢
  have hw3 : Below w.heap.size w W3 := hw2.trans (hal.mono hw2.size)
  have HO3 := Lib.hid (show W3.ownsRow hi 86 2 (.slice sa ns sc) ns (pairCells (sgX (mirK 0 ss)) (sgY (mirK 0 ss)) ns) by
    have e := mirK_zero ss
    rw [HNS.out] at e
    rw [e]
    exact owns_after HOS.out hal)
  have HL3 := Lib.hid (owns_after HOL.out hal)
  have HBU := Lib.hid (But.below (B := w1.heap.size) (o1 := (Value.slice sa ns sc).ownBlock) (o2 := (Value.slice la nl lc).ownBlock) hal)
  obtain ⟨ao, cap, e, hc, hz⟩ := HG.out
  simp only [Value.slice.injEq] at e
  obtain ⟨rfl, -, rfl⟩ := e
  have HZ := Lib.hid hz; clear hz hc
  have r0 := r0'
  have rf0 := rf0'
  have r1 := r1'
  have rf1 := rf1'
  have r2 := r2'
  have rf2 := rf2'
  have r3 := r3'
  have rf3 := rf3'
  have r4 := r4'
  have rf4 := rf4'
  have x2 := x2'
  clear r0' r1' r2' r3' r4' rf0' rf1' rf2' rf3' rf4' x2'
  have zW := hw3.size
  clear hal hgr0
  go_loopw [16] (fun i wr => ∃ k : Nat, k ≤ ns ∧ i = .int .i64 k ∧ Hid (wr.ownsRow hi 86 2 (.slice sa ns sc) ns (pairCells (sgX (mirK k ss)) (sgY (mirK k ss)) ns)) ∧ Hid (W3.grownBy wr (Value.slice sa ns sc).ownBlock) ∧ Hid (∀ j, j < k → sgK ss j ≠ 3)) (fun i _ => ns - (intOf i).toNat)
  case atStart => exact ⟨0, Nat.zero_le _, rfl, HO3, ⟨rfl, rfl, rfl, Nat.le_refl _, fun _ _ _ => rfl⟩, fun j hj => absurd hj (Nat.not_lt_zero _)⟩
  case round =>
    obtain ⟨k, hk, rfl, hown, hgrow, hall⟩ := hrel
    have zz := hgrow.out.size
    have hneq : ∀ q, q < hi → some q ≠ (Value.slice sa ns sc).ownBlock := fun q hq e => by have := (HOS.out.lt q e.symm).1; omega
    have hneH : some w2.heap.size ≠ (Value.slice sa ns sc).ownBlock := fun e => by have := HSH.out _ e.symm; omega
    have hwr : Below w.heap.size w wr := hw3.grown hgrow.out hw3.size (fun g hg => by have := (HOS.out.lt g hg).1; omega)
    have rf0 := frozen_grown hgrow.out rf0 (by show w.heap.size + 1 < W3.heap.size; omega) (hneq _ (by show w.heap.size + 1 < hi; omega))
    have r0 := hgrow.out.cell r0 (hneq _ (by show w.heap.size + 1 < hi; omega))
    have rf1 := frozen_grown hgrow.out rf1 (by show w.heap.size + 1 < W3.heap.size; omega) (hneq _ (by show w.heap.size + 1 < hi; omega))
    have r1 := hgrow.out.cell r1 (hneq _ (by show w.heap.size + 1 < hi; omega))
    have rf2 := frozen_grown hgrow.out rf2 (by show w.heap.size + 1 < W3.heap.size; omega) (hneq _ (by show w.heap.size + 1 < hi; omega))
    have r2 := hgrow.out.cell r2 (hneq _ (by show w.heap.size + 1 < hi; omega))
    have rf3 := frozen_grown hgrow.out rf3 (by show w.heap.size + 1 < W3.heap.size; omega) (hneq _ (by show w.heap.size + 1 < hi; omega))
    have r3 := hgrow.out.cell r3 (hneq _ (by show w.heap.size + 1 < hi; omega))
    have rf4 := frozen_grown hgrow.out rf4 (by show w.heap.size + 1 < W3.heap.size; omega) (hneq _ (by show w.heap.size + 1 < hi; omega))
    have r4 := hgrow.out.cell r4 (hneq _ (by show w.heap.size + 1 < hi; omega))
    have y0 := hgrow.out.cell y0 hneH
    have y1 := hgrow.out.cell y1 hneH
    have y2 := hgrow.out.cell y2 hneH
    have y3 := hgrow.out.cell y3 hneH
    have y4 := hgrow.out.cell y4 hneH
    have HNQ := Lib.hid hneq; clear hneq hneH
    by_cases hlt : k < ns
    · rcases HZ.out with h0 | ⟨b, off, rfl, hlo, hcell⟩
      · have := HNS.out; omega
      obtain ⟨d0, d1⟩ := hcell k (by have := HNS.out; omega)
      have hb0 : b < w.heap.size := cell_old d0
      have d0 := hgrow.out.cell (Carries.of lo hw3 _ _ hlo d0) (HNQ.out b (by omega))
      have d1 := hgrow.out.cell (Carries.of lo hw3 _ _ hlo d1) (HNQ.out b (by omega))
      try dsimp only at d0 d1
      clear hcell
      obtain ⟨nm, hnm⟩ : ∃ x, x = sgN ss k := ⟨_, rfl⟩
      obtain ⟨kd, hkd⟩ : ∃ x, x = sgK ss k := ⟨_, rfl⟩
      obtain ⟨q1, q2⟩ := HK.out k hlt
      rw [← hnm] at d0
      rw [← hkd] at d1 q1 q2
      have HKD := Lib.hid hkd; clear hkd hnm
      have HA := World.ownsRow.alloc hown.out (.cells #[.string nm, .int .i64 kd] 86)
      rcases HA.2 with ⟨e, hn0⟩ | ⟨g, cap', cur, e, hgb, hgg, _⟩
      · omega
      simp only [Value.slice.injEq, true_and] at e
      obtain ⟨rfl, rfl⟩ := e
      have hcl : (pairCells (sgX (mirK k ss)) (sgY (mirK k ss)) ns)[k * 2 + 1]? = some (.int .i64 (sgK (mirK k ss) k)) := (pairCells_get _ _ ns k hlt).2
      have f1 := HA.frozenAt (k * 2 + 1)
      have k1 := (HA.cellAt (k * 2 + 1) (by omega)).trans hcl
      have k0 := (HA.cellAt (k * 2) (by omega)).trans (pairCells_get _ _ ns k hlt).1
      have hst := HA.stored (k * 2 + 1) (.int .i64 (3 - kd))
      have hms := mirK_step (ss := ss) (k := k) (by rw [HNS.out]; exact hlt)
      rw [HNS.out, ← HKD.out] at hms
      rw [hms] at hst
      have HST := Lib.hid hst
      have HA' := Lib.hid HA
      have y2 := cell_carry y2 (Carries.alloc (Carries.refl 0 wr) (.cells #[.string nm, .int .i64 kd] 86))
      have hgr2 := Lib.grownBy_trans hgrow.out (World.grownBy_alloc wr (.cells #[.string nm, .int .i64 kd] 86) (some g))
      have HGR := Lib.hid hgr2; clear hgr2 hst hms hcl HA hgg hown
      generalize sgK (mirK k ss) k = oldk at k1
      by_cases e3 : kd = 3
      · have hno : mirB s = false := by
          unfold mirB noInt
          rw [decide_eq_false (fun h => h k (by rw [← HSS.out.1, HNS.out]; exact hlt) (by rw [← HSS.out.1, ← HKD.out]; exact e3))]
          simp
        subst e3
        have hwa : Below w.heap.size w (wr.alloc (.cells #[.string nm, .int .i64 3] 86)) := hwr.alloc hwr.size _
        have rf0 := (Below.frozen ((Below.refl wr.heap.size wr).alloc (Nat.le_refl _) (.cells #[.string nm, .int .i64 3] 86)) (p := ⟨w.heap.size + 1, 0, none⟩) (by show w.heap.size + 1 < wr.heap.size; omega)).trans rf0
        have r0 := cell_carry r0 (Carries.alloc (Carries.refl 0 wr) (.cells #[.string nm, .int .i64 3] 86))
        have rf1 := (Below.frozen ((Below.refl wr.heap.size wr).alloc (Nat.le_refl _) (.cells #[.string nm, .int .i64 3] 86)) (p := ⟨w.heap.size + 1, 1, none⟩) (by show w.heap.size + 1 < wr.heap.size; omega)).trans rf1
        have r1 := cell_carry r1 (Carries.alloc (Carries.refl 0 wr) (.cells #[.string nm, .int .i64 3] 86))
        have rf2 := (Below.frozen ((Below.refl wr.heap.size wr).alloc (Nat.le_refl _) (.cells #[.string nm, .int .i64 3] 86)) (p := ⟨w.heap.size + 1, 2, none⟩) (by show w.heap.size + 1 < wr.heap.size; omega)).trans rf2
        have r2 := cell_carry r2 (Carries.alloc (Carries.refl 0 wr) (.cells #[.string nm, .int .i64 3] 86))
        have rf3 := (Below.frozen ((Below.refl wr.heap.size wr).alloc (Nat.le_refl _) (.cells #[.string nm, .int .i64 3] 86)) (p := ⟨w.heap.size + 1, 3, none⟩) (by show w.heap.size + 1 < wr.heap.size; omega)).trans rf3
        have r3 := cell_carry r3 (Carries.alloc (Carries.refl 0 wr) (.cells #[.string nm, .int .i64 3] 86))
        have rf4 := (Below.frozen ((Below.refl wr.heap.size wr).alloc (Nat.le_refl _) (.cells #[.string nm, .int .i64 3] 86)) (p := ⟨w.heap.size + 1, 4, none⟩) (by show w.heap.size + 1 < wr.heap.size; omega)).trans rf4
        have r4 := cell_carry r4 (Carries.alloc (Carries.refl 0 wr) (.cells #[.string nm, .int .i64 3] 86))
        clear k1 k0 f1 hall
        have e1 := HB.out
        rw [hno] at e1
        have e2 := HR.out
        rw [mirR_no hno] at e2
        subst e1; subst e2
        go_wp2_with fail
        generalize hWX : ((((((wr.alloc (.cells #[.string nm, .int .i64 3] 86)).setCell ⟨w.heap.size + 1, 0, none⟩ (.int .i64 0)).setCell ⟨w.heap.size + 1, 1, none⟩ (.slice none 0 0)).setCell ⟨w.heap.size + 1, 2, none⟩ (.slice none 0 0)).setCell ⟨w.heap.size + 1, 3, none⟩ (.slice none 0 0)).setCell ⟨w.heap.size + 1, 4, none⟩ (.string ⟨#[]⟩)) = WX
        obtain ⟨q0, q1, q2, q3, q4⟩ := put5_cells hWX r0 r1 r2 r3 r4
        have hbf := put5_below hWX hwa (by omega)
        clear hWX
        refine bodyPost_ret (v := .tuple #[.agg #[.int .i64 0, .slice none 0 0, .slice none 0 0, .slice none 0 0, .string ⟨#[]⟩], .bool false]) (by simp [results, Try.results12, go_sem, q0, q1, q2, q3, q4]) rfl ?_
        exact ⟨_, rfl, (SepStg.zero _).at.low hbf.size, hbf⟩

      · have H2 : Hid (∀ j, j < k + 1 → sgK ss j ≠ 3) := by
          intro j hj
          by_cases e : j = k
          · subst e; rw [← HKD.out]; exact e3
          · exact hall.out j (by omega)
        have h12 : kd = 1 ∨ kd = 2 := by omega
        clear q1 q2 e3 hall HKD
        rcases h12 with rfl | rfl
        · go_wp2_with fail
          go_roundw
          case rel => exact ⟨k + 1, by omega, by go_num, HST.out.1, Lib.grownBy_trans HGR.out HST.out.2, H2⟩
          case measure => simp [intOf]; omega
        · go_wp2_with fail
          go_roundw
          case rel => exact ⟨k + 1, by omega, by go_num, HST.out.1, Lib.grownBy_trans HGR.out HST.out.2, H2⟩
          case measure => simp [intOf]; omega
    · have hkk : k = ns := by omega
      have hyes : mirB s = true := by
        unfold mirB noInt
        rw [HGS.out, decide_eq_true (fun i hi => by rw [← HSS.out.1]; exact hall.out i (by rw [hkk, ← HNS.out, HSS.out.1]; exact hi))]
        rfl
      subst hkk
      have e1 := HB.out
      rw [hyes] at e1
      have e2 := HR.out
      rw [mirR_yes hyes, ← HSS.out.1, ← HSS.out.2, ← HP.out.2.2.2.2, HNS.out] at e2
      subst e1; subst e2
      clear hyes
      have HL4 := Lib.hid (HL3.out.kept hgrow.out HAP.out)
      have HBU4 := Lib.hid (HBU.out.trans (But.of hgrow.out))
      go_wp2_with fail
      generalize hWX : (((((wr.setCell ⟨w.heap.size + 1, 0, none⟩ (.int .i64 p)).setCell ⟨w.heap.size + 1, 1, none⟩ (.slice ta m tc)).setCell ⟨w.heap.size + 1, 2, none⟩ (.slice sa k sc)).setCell ⟨w.heap.size + 1, 3, none⟩ (.slice la nl lc)).setCell ⟨w.heap.size + 1, 4, none⟩ (.string st)) = WX
      obtain ⟨q0, q1, q2, q3, q4⟩ := put5_cells hWX r0 r1 r2 r3 r4
      have hbf := put5_below hWX hwr (by omega)
      have hrow := put5_owns hWX hown.out (by omega)
      have hlab := put5_owns hWX HL4.out (by omega)
      have hbut := put5_but hWX HBU4.out (by omega)
      clear hWX
      refine bodyPost_ret (v := .tuple #[.agg #[.int .i64 p, .slice ta m tc, .slice sa k sc, .slice la nl lc, .string st], .bool true]) (by simp [results, Try.results12, go_sem, q0, q1, q2, q3, q4]) rfl ?_
      have hG := HCL.out _ (.slice sa k sc) (.slice la nl lc) (mirK k ss) ls hbut (by rw [mirK_length, HNS.out]; exact hrow) HSH.out (by rw [HNL.out]; exact hlab) HLH.out
      exact ⟨_, rfl, hG.low (by omega), hbf⟩

end Go.Proofs.Ytkkfglolameogaa
