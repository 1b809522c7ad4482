/- UNION OF GRAPHS: the data; WALK: UnionSTGs of the program. -/
import Derived.Test.YtgmnknlnlmcmfaaVUnsd
import Derived.Test.YtgmnknlnlmcmfaaVConc
import Derived.Test.YtgmnknlnlmcmfaaVUng
import Derived.Test.YtgmnknlnlmcmfaaVStgt
import Derived.Test.YtgmnknlnlmcmfaaVStepsb
namespace Go.Proofs.Ytgmnknlnlmcmfaa
open Go.RowKit

theorem pairCells_append (x y x' y' : Nat → Value) (n : Nat) : ∀ m, pairCells x y n ++ pairCells x' y' m = pairCells (fun i => if i < n then x i else x' (i - n)) (fun i => if i < n then y i else y' (i - n)) (n + m)
  | 0 => by
    rw [Nat.add_zero]
    simp only [pairCells, List.append_nil]
    exact pairCells_congr _ fun i hi => by simp [hi]
  | m + 1 => by
    have e := pairCells_append x y x' y' n m
    rw [← Nat.add_assoc]
    simp only [pairCells]
    rw [← List.append_assoc, e]
    simp [Nat.add_sub_cancel_left]
    exact ⟨fun h => absurd h (by omega), fun h => absurd h (by omega)⟩
theorem sgN_app (s u : List Sig) (i : Nat) : sgN (s ++ u) i = if i < s.length then sgN s i else sgN u (i - s.length) := by
  unfold sgN
  split
  · next h => simp [List.getD, List.getElem?_append_left h]
  · next h => simp [List.getD, List.getElem?_append_right (Nat.le_of_not_lt h)]
theorem sgK_app (s u : List Sig) (i : Nat) : sgK (s ++ u) i = if i < s.length then sgK s i else sgK u (i - s.length) := by
  unfold sgK
  split
  · next h => simp [List.getD, List.getElem?_append_left h]
  · next h => simp [List.getD, List.getElem?_append_right (Nat.le_of_not_lt h)]
theorem lbS_app (s u : List Lab) (i : Nat) : lbS (s ++ u) i = if i < s.length then lbS s i else lbS u (i - s.length) := by
  unfold lbS
  split
  · next h => simp [List.getD, List.getElem?_append_left h]
  · next h => simp [List.getD, List.getElem?_append_right (Nat.le_of_not_lt h)]
theorem lbU_app (s u : List Lab) (i : Nat) : lbU (s ++ u) i = if i < s.length then lbU s i else lbU u (i - s.length) := by
  unfold lbU
  split
  · next h => simp [List.getD, List.getElem?_append_left h]
  · next h => simp [List.getD, List.getElem?_append_right (Nat.le_of_not_lt h)]
theorem sigs_app (s u : List Sig) : pairCells (sgX s) (sgY s) s.length ++ pairCells (sgX u) (sgY u) u.length = pairCells (sgX (s ++ u)) (sgY (s ++ u)) (s.length + u.length) := by
  rw [pairCells_append]
  refine pairCells_congr _ fun i hi => ⟨?_, ?_⟩
  · simp only [sgX, sgN_app]; split <;> rfl
  · simp only [sgY, sgK_app]; split <;> rfl
theorem labs_app (s u : List Lab) : pairCells (lbX s) (lbY s) s.length ++ pairCells (lbX u) (lbY u) u.length = pairCells (lbX (s ++ u)) (lbY (s ++ u)) (s.length + u.length) := by
  rw [pairCells_append]
  refine pairCells_congr _ fun i hi => ⟨?_, ?_⟩
  · simp only [lbX, lbS_app]; split <;> rfl
  · simp only [lbY, lbU_app]; split <;> rfl

/-- the union -/
def uniS (a b : StgD) : StgD := ⟨unN a.net b.net, a.sigs ++ b.sigs, a.labs ++ movL a.sigs.length b.labs.length b.labs, a.start ++ b.start⟩
def uniB (a b : StgD) : Bool := goodS a && (goodS b && (unB a.net b.net && goodS (uniS a b)))
def uniR (a b : StgD) : StgD := if uniB a b = true then uniS a b else zeroS
theorem uniR_no {a b : StgD} (h : uniB a b = false) : uniR a b = zeroS := by unfold uniR; rw [h]; rfl
theorem uniR_yes {a b : StgD} (h : uniB a b = true) : uniR a b = uniS a b := by unfold uniR; rw [h]; rfl
theorem uni1 {a b : StgD} (h : goodS a = false) : uniB a b = false := by unfold uniB; rw [h]; rfl
theorem uni2 {a b : StgD} (h : goodS b = false) : uniB a b = false := by unfold uniB; rw [h]; simp
theorem uni3 {a b : StgD} (h : unB a.net b.net = false) : uniB a b = false := by unfold uniB; rw [h]; simp
theorem uni4 {a b : StgD} (h : goodS (uniS a b) = false) : uniB a b = false := by unfold uniB; rw [h]; simp
theorem uni5 {a b : StgD} (h1 : goodS a = true) (h2 : goodS b = true) (h3 : unB a.net b.net = true) (h4 : goodS (uniS a b) = true) : uniB a b = true := by unfold uniB; rw [h1, h2, h3, h4]; rfl
theorem goodS_8 {s : StgD} (h : goodS s = true) : s.sigs.length ≤ 8 := by
  unfold goodS sigsB at h
  simp only [Bool.and_eq_true, decide_eq_true_eq] at h
  omega
theorem goodS_len' {s : StgD} (h : goodS s = true) : s.labs.length = s.net.ts.length := by
  unfold goodS at h
  simp only [Bool.and_eq_true, decide_eq_true_eq] at h
  exact h.2.2.2
theorem goodS_24' {s : StgD} (h : goodS s = true) : s.net.ts.length ≤ 24 := by
  unfold goodS goodN at h
  simp only [Bool.and_eq_true, decide_eq_true_eq] at h
  omega
theorem goodS_start {s : StgD} (h : goodS s = true) : s.start.size ≤ 30 := by
  unfold goodS markB goodN at h
  simp only [Bool.and_eq_true, decide_eq_true_eq] at h
  omega
theorem goodS_lab {s : StgD} (h : goodS s = true) {i : Nat} (hi : i < s.labs.length) : -1 ≤ lbS s.labs i ∧ lbS s.labs i ≤ 8 := by
  have h8 := goodS_8 h
  unfold goodS labsB at h
  simp only [Bool.and_eq_true, decide_eq_true_eq] at h
  rcases h.2.2.1 i hi with h | h <;> omega
theorem uniS_small {a b : StgD} (ha : SmallStg a) (hb : SmallStg b) (hga : goodS a = true) (hgb : goodS b = true) (hu : unB a.net b.net = true) : SmallStg (uniS a b) := by
  have k1 := goodS_8 hga; have k2 := goodS_8 hgb
  have k3 := goodS_24' hga; have k4 := goodS_24' hgb
  have k5 := goodS_len' hga; have k6 := goodS_len' hgb
  have k7 := goodS_start hga; have k8 := goodS_start hgb
  have hga' : goodN a.net = true := by unfold unB at hu; simp only [Bool.and_eq_true] at hu; exact hu.1
  have hgb' : goodN b.net = true := by unfold unB at hu; simp only [Bool.and_eq_true] at hu; exact hu.2.1
  refine ⟨unT_small ha.1 hb.1 hga' hgb', ⟨?_, fun i hi => ?_⟩, ?_, ?_⟩
  · simp only [uniS, List.length_append]; omega
  · simp only [uniS, sgN_app, List.length_append] at hi ⊢
    split
    · next h => exact ha.2.1.2 i h
    · next h => exact hb.2.1.2 _ (by omega)
  · simp only [uniS, List.length_append, movL_length]; omega
  · simp only [uniS, ByteArray.size_append]; omega

theorem TrsAt.bound {lo : Nat} {w : World} {v : Value} {ts : List Tr} (h : TrsAt lo w v ts) : Bound w.heap.size v := by
  obtain ⟨ao, cap, rfl, _, hz⟩ := h
  intro b off len cap' hv hl
  simp only [Value.slice.injEq] at hv
  obtain ⟨rfl, rfl, rfl⟩ := hv
  rcases hz with rfl | ⟨b', off', ha, _, hcell⟩
  · simp at hl
  · simp only [Option.some.injEq, Addr.mk.injEq, and_true] at ha
    obtain ⟨rfl, rfl⟩ := ha
    obtain ⟨v0, v1, c0, _⟩ := hcell 0 hl
    have := cell_old c0
    simpa using this
theorem TrsSep.cut {c : Nat → Nat} {w : World} {v : Value} {ts : List Tr} (h : TrsSep c w v ts) : TrsSep (fun i => c (min i (2 * ts.length))) w v ts := by
  obtain ⟨hc, ao, cap, rfl, hcap, hz⟩ := h
  refine ⟨fun i => mono_le hc (by omega), ao, cap, rfl, hcap, ?_⟩
  rcases hz with hz | ⟨b, off, rfl, hcell⟩
  · exact Or.inl hz
  · refine Or.inr ⟨b, off, rfl, fun i hi => ?_⟩
    obtain ⟨v0, v1, c0, c1, ⟨h0, b0⟩, h1, b1⟩ := hcell i hi
    have e0 : min (2 * i) (2 * ts.length) = 2 * i := by omega
    have e1 : min (2 * i + 1) (2 * ts.length) = 2 * i + 1 := by omega
    have e2 : min (2 * i + 2) (2 * ts.length) = 2 * i + 2 := by omega
    exact ⟨v0, v1, c0, c1, ⟨by show IntsOw (c (min (2 * i) (2 * ts.length))) w v0 _; rw [e0]; exact h0, by show Bound (c (min (2 * i + 1) (2 * ts.length))) v0; rw [e1]; exact b0⟩, by show IntsOw (c (min (2 * i + 1) (2 * ts.length))) w v1 _; rw [e1]; exact h1, by show Bound (c (min (2 * i + 2) (2 * ts.length))) v1; rw [e2]; exact b1⟩
theorem uni_sep {s0 s1 : StgD} {n0 n1 l0 l1 M B B1 B2 : Nat} {P : Int} {t0 t1 : ByteArray} {w3 W : World} {ua a5 a7 : Option Addr} {uc k5 k7 : Nat}
    (en0 : n0 = s0.sigs.length) (en1 : n1 = s1.sigs.length) (el0 : l0 = s0.labs.length) (el1 : l1 = s1.labs.length) (et0 : t0 = s0.start) (et1 : t1 = s1.start) (eP : P = (unN s0.net s1.net).places) (eM : M = (unN s0.net s1.net).ts.length)
    (hp : -9223372036854775808 ≤ P ∧ P ≤ 9223372036854775807)
    (hsep : ∃ c : Nat → Nat, B ≤ c 0 ∧ c (2 * M) ≤ w3.heap.size ∧ TrsSep c w3 (.slice ua M uc) (unN s0.net s1.net).ts) (hat : TrsAt B w3 (.slice ua M uc) (unN s0.net s1.net).ts) (hb : Below w3.heap.size w3 W)
    (hrs : W.ownsRow B1 118 2 (.slice a5 (n0 + n1) k5) (n0 + n1) (pairCells (sgX (s0.sigs ++ s1.sigs)) (sgY (s0.sigs ++ s1.sigs)) (n0 + n1))) (h1 : w3.heap.size ≤ B1)
    (hrl : W.ownsRow B2 113 2 (.slice a7 (l0 + l1) k7) (l0 + l1) (pairCells (lbX (s0.labs ++ movL n0 l1 s1.labs)) (lbY (s0.labs ++ movL n0 l1 s1.labs)) (l0 + l1))) (h2 : w3.heap.size ≤ B2) :
    SepStg B W.heap.size W (.agg #[.int .i64 P, .slice ua M uc, .slice a5 (n0 + n1) k5, .slice a7 (l0 + l1) k7, .string (t0 ++ t1)]) (uniS s0 s1) := by
  obtain ⟨c, hc0, hcs, hs⟩ := hsep
  have hmono := hs.1
  have es : (uniS s0 s1).sigs.length = n0 + n1 := by rw [en0, en1]; simp [uniS]
  have el : (uniS s0 s1).labs.length = l0 + l1 := by rw [el0, el1]; simp [uniS, movL_length]
  have eL : (uniS s0 s1).labs = s0.labs ++ movL n0 l1 s1.labs := by rw [en0, el1]; rfl
  have hs1 := fun g (hg : (Value.slice a5 (n0 + n1) k5).ownBlock = some g) => (hrs.lt g hg).2
  have hl1 := fun g (hg : (Value.slice a7 (l0 + l1) k7).ownBlock = some g) => (hrl.lt g hg).2
  refine ⟨fun i => c (min i (2 * (unN s0.net s1.net).ts.length)), w3.heap.size, _, _, _, ?_, ?_, ?_, ?_, hb.size, Nat.le_refl _, (hs.cut).keep hb, hat.keep (Carries.of B hb), hat.bound, ?_, hs1, ?_, hl1⟩
  · rw [eP, et0, et1]; rfl
  · have : (uniS s0 s1).net.places = P := eP.symm
    rw [this]; exact hp
  · simpa using hc0
  · intro i
    refine Nat.le_trans (mono_le hmono (Nat.min_le_right _ _)) ?_
    rw [← eM]; exact hcs
  · rw [es]; exact Go.Joins.ownsRow_le hrs h1
  · rw [el, eL]; exact Go.Joins.ownsRow_le hrl h2
theorem unB_places {a b : NetD} (h : unB a b = true) : -9223372036854775808 ≤ (unN a b).places ∧ (unN a b).places ≤ 9223372036854775807 := by
  unfold unB at h
  simp only [Bool.and_eq_true] at h
  have := (goodN_parts h.2.2)
  omega


set_option maxRecDepth 100000 in
set_option maxHeartbeats 4000000 in
theorem UnionSTGs_any (va vb : Value) (s0 s1 : StgD) (w : World) (lo : Nat) (hva : StgAt lo w va s0) (hvb : StgAt lo w vb s1) (hs0 : SmallStg s0) (hs1 : SmallStg s1) :
    Calls Try.prog 38 #[va, vb] w (RetSO w (uniR s0 s1) (uniB s0 s1)) := by
  obtain ⟨a0, c0, a1, c1, a2, c2, rfl, hna, hsa, hla⟩ := hva.form
  obtain ⟨b0, d0, b1, d1, b2, d2, rfl, hnb, hsb, hlb⟩ := hvb.form
  have HV := Lib.hid hva; clear hva
  have HU := Lib.hid hvb; clear hvb
  have HNA := Lib.hid hna; clear hna
  have HNB := Lib.hid hnb; clear hnb
  have HSA := Lib.hid hsa; clear hsa
  have HSB := Lib.hid hsb; clear hsb
  have HLA := Lib.hid hla; clear hla
  have HLB := Lib.hid hlb; clear hlb
  have HS0 := Lib.hid hs0; clear hs0
  have HS1 := Lib.hid hs1; clear hs1
  obtain ⟨RR, hRR⟩ : ∃ R, R = (uniR s0 s1) := ⟨_, rfl⟩
  obtain ⟨BB, hBB⟩ : ∃ B, B = (uniB s0 s1) := ⟨_, rfl⟩
  rw [← hRR, ← hBB]
  have HR := Lib.hid hRR; clear hRR
  have HB := Lib.hid hBB; clear hBB
  obtain ⟨p0, hp⟩ : ∃ p, p = s0.net.places := ⟨_, rfl⟩
  obtain ⟨m0, hm⟩ : ∃ m, m = s0.net.ts.length := ⟨_, rfl⟩
  obtain ⟨n0, hns⟩ : ∃ ns, ns = s0.sigs.length := ⟨_, rfl⟩
  obtain ⟨l0, hnl⟩ : ∃ nl, nl = s0.labs.length := ⟨_, rfl⟩
  obtain ⟨t0, hst⟩ : ∃ st, st = s0.start := ⟨_, rfl⟩
  rw [← hp, ← hm, ← hns, ← hnl, ← hst] at HV ⊢
  rw [← hp, ← hm] at HNA
  rw [← hns] at HSA
  rw [← hnl] at HLA
  have HP0 := Lib.hid (And.intro hp (And.intro hm (And.intro hns (And.intro hnl hst)))); clear hp hm hns hnl hst
  obtain ⟨p1, hp⟩ : ∃ p, p = s1.net.places := ⟨_, rfl⟩
  obtain ⟨m1, hm⟩ : ∃ m, m = s1.net.ts.length := ⟨_, rfl⟩
  obtain ⟨n1, hns⟩ : ∃ ns, ns = s1.sigs.length := ⟨_, rfl⟩
  obtain ⟨l1, hnl⟩ : ∃ nl, nl = s1.labs.length := ⟨_, rfl⟩
  obtain ⟨t1, hst⟩ : ∃ st, st = s1.start := ⟨_, rfl⟩
  rw [← hp, ← hm, ← hns, ← hnl, ← hst] at HU ⊢
  rw [← hp, ← hm] at HNB
  rw [← hns] at HSB
  rw [← hnl] at HLB
  have HP1 := Lib.hid (And.intro hp (And.intro hm (And.intro hns (And.intro hnl hst)))); clear hp hm hns hnl hst
  go_enter Try.func38, Try.ntmps38
  go_wp2_with fail
  refine (IsValidSTG_any _ s0 _ lo (HV.out.keep ?_) HS0.out).mono ?_
  · (repeat' (first | (with_reducible exact Carries.refl _ _) | (with_reducible assumption) | (with_reducible refine Carries.alloc ?_ _) | (with_reducible refine Carries.drew ?_) | (with_reducible refine Carries.drewN ?_ _) | (with_reducible refine Carries.set ?_ ?_ _) | go_size))
  rintro e w1 ⟨rfl, hb⟩
  have hw1 : Below w.heap.size w w1 := by
    refine Below.trans ?_ (hb.mono ?_)
    · (repeat' (first | (with_reducible exact Below.refl _ _) | (with_reducible assumption) | (with_reducible refine Below.alloc ?_ ?_ _) | (with_reducible refine Below.drew ?_) | (with_reducible refine below_drewN ?_ _) | (with_reducible refine Below.setCell ?_ ?_ _) | go_size))
    · simp; omega
  have x0 : w1.cell? ⟨w.heap.size, 0, none⟩ = some (.int .i64 p0) := cell_carry (by simp [go_sem]) (Carries.of 0 hb)
  have x1 : w1.cell? ⟨w.heap.size, 1, none⟩ = some (.slice a0 m0 c0) := cell_carry (by simp [go_sem]) (Carries.of 0 hb)
  have x2 : w1.cell? ⟨w.heap.size, 2, none⟩ = some (.slice a1 n0 c1) := cell_carry (by simp [go_sem]) (Carries.of 0 hb)
  have x3 : w1.cell? ⟨w.heap.size, 3, none⟩ = some (.slice a2 l0 c2) := cell_carry (by simp [go_sem]) (Carries.of 0 hb)
  have x4 : w1.cell? ⟨w.heap.size, 4, none⟩ = some (.string t0) := cell_carry (by simp [go_sem]) (Carries.of 0 hb)
  have y0 : w1.cell? ⟨w.heap.size + 1, 0, none⟩ = some (.int .i64 p1) := cell_carry (by simp [go_sem]) (Carries.of 0 hb)
  have y1 : w1.cell? ⟨w.heap.size + 1, 1, none⟩ = some (.slice b0 m1 d0) := cell_carry (by simp [go_sem]) (Carries.of 0 hb)
  have y2 : w1.cell? ⟨w.heap.size + 1, 2, none⟩ = some (.slice b1 n1 d1) := cell_carry (by simp [go_sem]) (Carries.of 0 hb)
  have y3 : w1.cell? ⟨w.heap.size + 1, 3, none⟩ = some (.slice b2 l1 d2) := cell_carry (by simp [go_sem]) (Carries.of 0 hb)
  have y4 : w1.cell? ⟨w.heap.size + 1, 4, none⟩ = some (.string t1) := cell_carry (by simp [go_sem]) (Carries.of 0 hb)
  have r0 : w1.cell? ⟨w.heap.size + 2, 0, none⟩ = some (.int .i64 0) := cell_carry (by simp [go_sem]) (Carries.of 0 hb)
  have r1 : w1.cell? ⟨w.heap.size + 2, 1, none⟩ = some (.slice none 0 0) := cell_carry (by simp [go_sem]) (Carries.of 0 hb)
  have r2 : w1.cell? ⟨w.heap.size + 2, 2, none⟩ = some (.slice none 0 0) := cell_carry (by simp [go_sem]) (Carries.of 0 hb)
  have r3 : w1.cell? ⟨w.heap.size + 2, 3, none⟩ = some (.slice none 0 0) := cell_carry (by simp [go_sem]) (Carries.of 0 hb)
  have r4 : w1.cell? ⟨w.heap.size + 2, 4, none⟩ = some (.string ⟨#[]⟩) := cell_carry (by simp [go_sem]) (Carries.of 0 hb)
  have rf0 : w1.frozen? ⟨w.heap.size + 2, 0, none⟩ = false := (hb.frozen (by simp)).trans (by simp [go_sem])
  have rf1 : w1.frozen? ⟨w.heap.size + 2, 1, none⟩ = false := (hb.frozen (by simp)).trans (by simp [go_sem])
  have rf2 : w1.frozen? ⟨w.heap.size + 2, 2, none⟩ = false := (hb.frozen (by simp)).trans (by simp [go_sem])
  have rf3 : w1.frozen? ⟨w.heap.size + 2, 3, none⟩ = false := (hb.frozen (by simp)).trans (by simp [go_sem])
  have rf4 : w1.frozen? ⟨w.heap.size + 2, 4, none⟩ = false := (hb.frozen (by simp)).trans (by simp [go_sem])
  have z1 : w.heap.size + 2 < w1.heap.size := by have := hb.size; simp at this; omega
  clear hb
  cases hg : goodS s0 with
  | false =>
    have hno : uniB s0 s1 = false := uni1 hg
    have e1 := HB.out
    rw [hno] at e1
    have e2 := HR.out
    rw [uniR_no hno] at e2
    subst e1; subst e2
    clear hg
    go_wp2_with fail
    generalize hWX : (((((w1.setCell ⟨w.heap.size + 2, 0, none⟩ (.int .i64 0)).setCell ⟨w.heap.size + 2, 1, none⟩ (.slice none 0 0)).setCell ⟨w.heap.size + 2, 2, none⟩ (.slice none 0 0)).setCell ⟨w.heap.size + 2, 3, none⟩ (.slice none 0 0)).setCell ⟨w.heap.size + 2, 4, none⟩ (.string ⟨#[]⟩)) = WX
    obtain ⟨q0, q1, q2, q3, q4⟩ := put5_cells hWX r0 r1 r2 r3 r4
    have hbf := put5_below hWX hw1 (by omega)
    clear hWX
    refine bodyPost_ret (v := .tuple #[.agg #[.int .i64 0, .slice none 0 0, .slice none 0 0, .slice none 0 0, .string ⟨#[]⟩], .bool false]) (by simp [results, Try.results38, go_sem, q0, q1, q2, q3, q4]) rfl ?_
    exact ⟨_, rfl, (SepStg.zero _).wide hbf.size (Nat.le_refl _) (Nat.le_refl _), hbf⟩
  | true =>
  have HG0 := Lib.hid hg; clear hg
  go_wp2_with fail
  refine (IsValidSTG_any _ s1 _ lo (HU.out.keep (Carries.of lo hw1)) HS1.out).mono ?_
  rintro e w2 ⟨rfl, hb⟩
  have hw2 : Below w.heap.size w w2 := hw1.trans (hb.mono hw1.size)
  have x0 := cell_carry x0 (Carries.of 0 hb)
  have x1 := cell_carry x1 (Carries.of 0 hb)
  have x2 := cell_carry x2 (Carries.of 0 hb)
  have x3 := cell_carry x3 (Carries.of 0 hb)
  have x4 := cell_carry x4 (Carries.of 0 hb)
  have y0 := cell_carry y0 (Carries.of 0 hb)
  have y1 := cell_carry y1 (Carries.of 0 hb)
  have y2 := cell_carry y2 (Carries.of 0 hb)
  have y3 := cell_carry y3 (Carries.of 0 hb)
  have y4 := cell_carry y4 (Carries.of 0 hb)
  have r0 := cell_carry r0 (Carries.of 0 hb)
  have r1 := cell_carry r1 (Carries.of 0 hb)
  have r2 := cell_carry r2 (Carries.of 0 hb)
  have r3 := cell_carry r3 (Carries.of 0 hb)
  have r4 := cell_carry r4 (Carries.of 0 hb)
  have rf0 := (hb.frozen (p := ⟨w.heap.size + 2, 0, none⟩) (by show w.heap.size + 2 < _; omega)).trans rf0
  have rf1 := (hb.frozen (p := ⟨w.heap.size + 2, 1, none⟩) (by show w.heap.size + 2 < _; omega)).trans rf1
  have rf2 := (hb.frozen (p := ⟨w.heap.size + 2, 2, none⟩) (by show w.heap.size + 2 < _; omega)).trans rf2
  have rf3 := (hb.frozen (p := ⟨w.heap.size + 2, 3, none⟩) (by show w.heap.size + 2 < _; omega)).trans rf3
  have rf4 := (hb.frozen (p := ⟨w.heap.size + 2, 4, none⟩) (by show w.heap.size + 2 < _; omega)).trans rf4
  have z2 : w.heap.size + 2 < w2.heap.size := by have := hb.size; omega
  clear hb
  cases hg : goodS s1 with
  | false =>
    have hno : uniB s0 s1 = false := uni2 hg
    have e1 := HB.out
    rw [hno] at e1
    have e2 := HR.out
    rw [uniR_no hno] at e2
    subst e1; subst e2
    clear hg
    go_wp2_with fail
    generalize hWX : (((((w2.setCell ⟨w.heap.size + 2, 0, none⟩ (.int .i64 0)).setCell ⟨w.heap.size + 2, 1, none⟩ (.slice none 0 0)).setCell ⟨w.heap.size + 2, 2, none⟩ (.slice none 0 0)).setCell ⟨w.heap.size + 2, 3, none⟩ (.slice none 0 0)).setCell ⟨w.heap.size + 2, 4, none⟩ (.string ⟨#[]⟩)) = WX
    obtain ⟨q0, q1, q2, q3, q4⟩ := put5_cells hWX r0 r1 r2 r3 r4
    have hbf := put5_below hWX hw2 (by omega)
    clear hWX
    refine bodyPost_ret (v := .tuple #[.agg #[.int .i64 0, .slice none 0 0, .slice none 0 0, .slice none 0 0, .string ⟨#[]⟩], .bool false]) (by simp [results, Try.results38, go_sem, q0, q1, q2, q3, q4]) rfl ?_
    exact ⟨_, rfl, (SepStg.zero _).wide hbf.size (Nat.le_refl _) (Nat.le_refl _), hbf⟩
  | true =>
  have HG1 := Lib.hid hg; clear hg
  go_wp2_with fail
  refine (UnionNets_any _ _ s0.net s1.net _ lo (HNA.out.keep (Carries.of lo hw2)) HS0.out.1 (HNB.out.keep (Carries.of lo hw2)) HS1.out.1).mono ?_
  rintro e w3 ⟨u, rfl, hsep, htat, hb⟩
  have hw3 : Below w.heap.size w w3 := hw2.trans (hb.mono hw2.size)
  have x0 := cell_carry x0 (Carries.of 0 hb)
  have x1 := cell_carry x1 (Carries.of 0 hb)
  have x2 := cell_carry x2 (Carries.of 0 hb)
  have x3 := cell_carry x3 (Carries.of 0 hb)
  have x4 := cell_carry x4 (Carries.of 0 hb)
  have y0 := cell_carry y0 (Carries.of 0 hb)
  have y1 := cell_carry y1 (Carries.of 0 hb)
  have y2 := cell_carry y2 (Carries.of 0 hb)
  have y3 := cell_carry y3 (Carries.of 0 hb)
  have y4 := cell_carry y4 (Carries.of 0 hb)
  have r0 := cell_carry r0 (Carries.of 0 hb)
  have r1 := cell_carry r1 (Carries.of 0 hb)
  have r2 := cell_carry r2 (Carries.of 0 hb)
  have r3 := cell_carry r3 (Carries.of 0 hb)
  have r4 := cell_carry r4 (Carries.of 0 hb)
  have rf0 := (hb.frozen (p := ⟨w.heap.size + 2, 0, none⟩) (by show w.heap.size + 2 < _; omega)).trans rf0
  have rf1 := (hb.frozen (p := ⟨w.heap.size + 2, 1, none⟩) (by show w.heap.size + 2 < _; omega)).trans rf1
  have rf2 := (hb.frozen (p := ⟨w.heap.size + 2, 2, none⟩) (by show w.heap.size + 2 < _; omega)).trans rf2
  have rf3 := (hb.frozen (p := ⟨w.heap.size + 2, 3, none⟩) (by show w.heap.size + 2 < _; omega)).trans rf3
  have rf4 := (hb.frozen (p := ⟨w.heap.size + 2, 4, none⟩) (by show w.heap.size + 2 < _; omega)).trans rf4
  have z3 : w2.heap.size ≤ w3.heap.size := hb.size
  clear hb
  cases hg : unB s0.net s1.net with
  | false =>
    have eR : unR s0.net s1.net = ⟨0, []⟩ := by unfold unR; rw [hg]; rfl
    rw [eR] at hsep htat ⊢
    obtain ⟨ua, uc, rfl, _⟩ := id htat
    have hb : Below w3.heap.size w3 (w3.alloc (.cells #[.int .i64 0, .slice ua 0 uc] 60)) := (Below.refl _ _).alloc (Nat.le_refl _) _
    have hw4 := hw3.trans (hb.mono hw3.size)
    have x0 := cell_carry x0 (Carries.of 0 hb)
    have x1 := cell_carry x1 (Carries.of 0 hb)
    have x2 := cell_carry x2 (Carries.of 0 hb)
    have x3 := cell_carry x3 (Carries.of 0 hb)
    have x4 := cell_carry x4 (Carries.of 0 hb)
    have y0 := cell_carry y0 (Carries.of 0 hb)
    have y1 := cell_carry y1 (Carries.of 0 hb)
    have y2 := cell_carry y2 (Carries.of 0 hb)
    have y3 := cell_carry y3 (Carries.of 0 hb)
    have y4 := cell_carry y4 (Carries.of 0 hb)
    have r0 := cell_carry r0 (Carries.of 0 hb)
    have r1 := cell_carry r1 (Carries.of 0 hb)
    have r2 := cell_carry r2 (Carries.of 0 hb)
    have r3 := cell_carry r3 (Carries.of 0 hb)
    have r4 := cell_carry r4 (Carries.of 0 hb)
    have rf0 := (hb.frozen (p := ⟨w.heap.size + 2, 0, none⟩) (by show w.heap.size + 2 < _; omega)).trans rf0
    have rf1 := (hb.frozen (p := ⟨w.heap.size + 2, 1, none⟩) (by show w.heap.size + 2 < _; omega)).trans rf1
    have rf2 := (hb.frozen (p := ⟨w.heap.size + 2, 2, none⟩) (by show w.heap.size + 2 < _; omega)).trans rf2
    have rf3 := (hb.frozen (p := ⟨w.heap.size + 2, 3, none⟩) (by show w.heap.size + 2 < _; omega)).trans rf3
    have rf4 := (hb.frozen (p := ⟨w.heap.size + 2, 4, none⟩) (by show w.heap.size + 2 < _; omega)).trans rf4
    have hno : uniB s0 s1 = false := uni3 hg
    have e1 := HB.out
    rw [hno] at e1
    have e2 := HR.out
    rw [uniR_no hno] at e2
    subst e1; subst e2
    clear hg
    go_wp2_with fail
    generalize hWX : ((((((w3.alloc (.cells #[.int .i64 0, .slice ua 0 uc] 60)).setCell ⟨w.heap.size + 2, 0, none⟩ (.int .i64 0)).setCell ⟨w.heap.size + 2, 1, none⟩ (.slice none 0 0)).setCell ⟨w.heap.size + 2, 2, none⟩ (.slice none 0 0)).setCell ⟨w.heap.size + 2, 3, none⟩ (.slice none 0 0)).setCell ⟨w.heap.size + 2, 4, none⟩ (.string ⟨#[]⟩)) = WX
    obtain ⟨q0, q1, q2, q3, q4⟩ := put5_cells hWX r0 r1 r2 r3 r4
    have hbf := put5_below hWX hw4 (by omega)
    clear hWX
    refine bodyPost_ret (v := .tuple #[.agg #[.int .i64 0, .slice none 0 0, .slice none 0 0, .slice none 0 0, .string ⟨#[]⟩], .bool false]) (by simp [results, Try.results38, go_sem, q0, q1, q2, q3, q4]) rfl ?_
    exact ⟨_, rfl, (SepStg.zero _).wide hbf.size (Nat.le_refl _) (Nat.le_refl _), hbf⟩
  | true =>
  have eR : unR s0.net s1.net = unN s0.net s1.net := by unfold unR; rw [hg]; rfl
  rw [eR] at hsep htat ⊢
  obtain ⟨ua, uc, rfl, _⟩ := id htat
  have HGU := Lib.hid hg; clear hg eR
  have HSM := Lib.hid (uniS_small HS0.out HS1.out HG0.out HG1.out HGU.out)
  have k8a := goodS_8 HG0.out
  have k8b := goodS_8 HG1.out
  rw [← HP0.out.2.2.1] at k8a
  rw [← HP1.out.2.2.1] at k8b
  have HLOW := Lib.hid (fun i hi => (⟨(goodS_lab HG1.out hi).1, by have := (goodS_lab HG1.out hi).2; omega⟩ : -1 ≤ lbS s1.labs i ∧ lbS s1.labs i ≤ 1048576))
  have k30a := goodS_start HG0.out
  have k30b := goodS_start HG1.out
  rw [← HP0.out.2.2.2.2] at k30a
  rw [← HP1.out.2.2.2.2] at k30b
  obtain ⟨P, hP⟩ : ∃ P, P = (unN s0.net s1.net).places := ⟨_, rfl⟩
  obtain ⟨M, hM⟩ : ∃ M, M = (unN s0.net s1.net).ts.length := ⟨_, rfl⟩
  rw [← hP]
  rw [← hM] at hsep htat ⊢
  have HPM := Lib.hid (And.intro hP hM); clear hP hM
  have HSEP := Lib.hid hsep; clear hsep
  have HTAT := Lib.hid htat; clear htat
  clear x0 x1 y0 y1
  go_wp2_with fail
  rename_i K0 hK0
  have HK : ∀ (x_29 x_30 x_31 x_32 x_33 x_34 x_35 x_36 x_37 x_38 x_39 x_40 x_41 x_42 x_43 x_44 x_45 x_46 x_47 x_48 x_49 x_50 x_51 : Value) (tb B1 B2 : Nat) (WX : World) (a5 a7 : Option Addr) (k5 k7 : Nat), Below w3.heap.size w3 WX → WX.cell? ⟨tb, 0, none⟩ = some (.int .i64 P) → WX.cell? ⟨tb, 1, none⟩ = some (.slice ua M uc) → WX.cell? ⟨tb, 2, none⟩ = some (.slice a5 (n0 + n1) k5) → WX.cell? ⟨tb, 3, none⟩ = some (.slice a7 (l0 + l1) k7) → WX.cell? ⟨tb, 4, none⟩ = some (.string (t0 ++ t1)) →
      Hid (WX.ownsRow B1 118 2 (.slice a5 (n0 + n1) k5) (n0 + n1) (pairCells (sgX (s0.sigs ++ s1.sigs)) (sgY (s0.sigs ++ s1.sigs)) (n0 + n1))) → w3.heap.size ≤ B1 →
      Hid (WX.ownsRow B2 113 2 (.slice a7 (l0 + l1) k7) (l0 + l1) (pairCells (lbX (s0.labs ++ movL n0 l1 s1.labs)) (lbY (s0.labs ++ movL n0 l1 s1.labs)) (l0 + l1))) → w3.heap.size ≤ B2 →
      K0 { tmps := #[.agg #[.int .i64 p0, .slice a0 m0 c0, .slice a1 n0 c1, .slice a2 l0 c2, .string t0], .agg #[.int .i64 p1, .slice b0 m1 d0, .slice b1 n1 d1, .slice b2 l1 d2, .string t1], .pointer (some ⟨w.heap.size, 0, none⟩), .pointer (some ⟨w.heap.size + 1, 0, none⟩), .pointer (some ⟨w.heap.size + 1 + 1, 0, none⟩), .bool false, .pointer (some ⟨w3.heap.size, 0, none⟩), .bool true, .pointer (some ⟨tb, 0, none⟩), .agg #[.int .i64 p0, .slice a0 m0 c0, .slice a1 n0 c1, .slice a2 l0 c2, .string t0], .bool true, .bool false, .bool false, .agg #[.int .i64 p1, .slice b0 m1 d0, .slice b1 n1 d1, .slice b2 l1 d2, .string t1], .bool true, .bool false, .bool false, undef, .tuple #[.agg #[.int .i64 P, .slice ua M uc], .bool true], .pointer (some ⟨w.heap.size, 0, none⟩), .agg #[.int .i64 p0, .slice a0 m0 c0], .pointer (some ⟨w.heap.size + 1, 0, none⟩), .agg #[.int .i64 p1, .slice b0 m1 d0], .tuple #[.agg #[.int .i64 P, .slice ua M uc], .bool true], .agg #[.int .i64 P, .slice ua M uc], .bool true, .bool true, .bool false, undef, x_29, x_30, x_31, x_32, x_33, x_34, x_35, x_36, x_37, x_38, x_39, x_40, x_41, x_42, x_43, x_44, x_45, x_46, x_47, x_48, x_49, x_50, x_51, undef, undef, undef, undef, undef], defers := [] } WX := by
    intro x_29 x_30 x_31 x_32 x_33 x_34 x_35 x_36 x_37 x_38 x_39 x_40 x_41 x_42 x_43 x_44 x_45 x_46 x_47 x_48 x_49 x_50 x_51 tb B1 B2 WX a5 a7 k5 k7 h3X u0 u1 u2 u3 u4 HRSX hB1 HRLX hB2
    apply hK0
    clear hK0 x2 x3 x4 y2 y3 y4
    have HST := Lib.hid (uni_sep HP0.out.2.2.1 HP1.out.2.2.1 HP0.out.2.2.2.1 HP1.out.2.2.2.1 HP0.out.2.2.2.2 HP1.out.2.2.2.2 HPM.out.1 HPM.out.2 (by rw [HPM.out.1]; exact unB_places HGU.out) HSEP.out HTAT.out h3X HRSX.out hB1 HRLX.out hB2)
    have hwX : Below w.heap.size w WX := hw3.trans (h3X.mono hw3.size)
    have r0 := cell_carry r0 (Carries.of 0 h3X)
    have r1 := cell_carry r1 (Carries.of 0 h3X)
    have r2 := cell_carry r2 (Carries.of 0 h3X)
    have r3 := cell_carry r3 (Carries.of 0 h3X)
    have r4 := cell_carry r4 (Carries.of 0 h3X)
    have rf0 := (h3X.frozen (p := ⟨w.heap.size + 2, 0, none⟩) (by show w.heap.size + 2 < _; omega)).trans rf0
    have rf1 := (h3X.frozen (p := ⟨w.heap.size + 2, 1, none⟩) (by show w.heap.size + 2 < _; omega)).trans rf1
    have rf2 := (h3X.frozen (p := ⟨w.heap.size + 2, 2, none⟩) (by show w.heap.size + 2 < _; omega)).trans rf2
    have rf3 := (h3X.frozen (p := ⟨w.heap.size + 2, 3, none⟩) (by show w.heap.size + 2 < _; omega)).trans rf3
    have rf4 := (h3X.frozen (p := ⟨w.heap.size + 2, 4, none⟩) (by show w.heap.size + 2 < _; omega)).trans rf4
    have zX := h3X.size
    go_wp2_with fail
    refine (IsValidSTG_any _ (uniS s0 s1) _ _ HST.out.at HSM.out).mono ?_
    rintro e w9 ⟨rfl, hb⟩
    have hw9 := hwX.trans (hb.mono hwX.size)
    have u0 := cell_carry u0 (Carries.of 0 hb)
    have u1 := cell_carry u1 (Carries.of 0 hb)
    have u2 := cell_carry u2 (Carries.of 0 hb)
    have u3 := cell_carry u3 (Carries.of 0 hb)
    have u4 := cell_carry u4 (Carries.of 0 hb)
    have r0 := cell_carry r0 (Carries.of 0 hb)
    have r1 := cell_carry r1 (Carries.of 0 hb)
    have r2 := cell_carry r2 (Carries.of 0 hb)
    have r3 := cell_carry r3 (Carries.of 0 hb)
    have r4 := cell_carry r4 (Carries.of 0 hb)
    have rf0 := (hb.frozen (p := ⟨w.heap.size + 2, 0, none⟩) (by show w.heap.size + 2 < _; omega)).trans rf0
    have rf1 := (hb.frozen (p := ⟨w.heap.size + 2, 1, none⟩) (by show w.heap.size + 2 < _; omega)).trans rf1
    have rf2 := (hb.frozen (p := ⟨w.heap.size + 2, 2, none⟩) (by show w.heap.size + 2 < _; omega)).trans rf2
    have rf3 := (hb.frozen (p := ⟨w.heap.size + 2, 3, none⟩) (by show w.heap.size + 2 < _; omega)).trans rf3
    have rf4 := (hb.frozen (p := ⟨w.heap.size + 2, 4, none⟩) (by show w.heap.size + 2 < _; omega)).trans rf4
    have HST9 := Lib.hid (HST.out.keep (Same.of _ hb))
    have z9 := hb.size
    clear hb HST
    cases hg : goodS (uniS s0 s1) with
    | false =>
      have hno : uniB s0 s1 = false := uni4 hg
      have e1 := HB.out
      rw [hno] at e1
      have e2 := HR.out
      rw [uniR_no hno] at e2
      subst e1; subst e2
      clear hg
      go_wp2_with fail
      generalize hWX : (((((w9.setCell ⟨w.heap.size + 2, 0, none⟩ (.int .i64 0)).setCell ⟨w.heap.size + 2, 1, none⟩ (.slice none 0 0)).setCell ⟨w.heap.size + 2, 2, none⟩ (.slice none 0 0)).setCell ⟨w.heap.size + 2, 3, none⟩ (.slice none 0 0)).setCell ⟨w.heap.size + 2, 4, none⟩ (.string ⟨#[]⟩)) = WX
      obtain ⟨q0, q1, q2, q3, q4⟩ := put5_cells hWX r0 r1 r2 r3 r4
      have hbf := put5_below hWX hw9 (by omega)
      clear hWX
      refine bodyPost_ret (v := .tuple #[.agg #[.int .i64 0, .slice none 0 0, .slice none 0 0, .slice none 0 0, .string ⟨#[]⟩], .bool false]) (by simp [results, Try.results38, go_sem, q0, q1, q2, q3, q4]) rfl ?_
      exact ⟨_, rfl, (SepStg.zero _).wide hbf.size (Nat.le_refl _) (Nat.le_refl _), hbf⟩
    | true =>
      have hyes := uni5 HG0.out HG1.out HGU.out hg
      have e1 := HB.out
      rw [hyes] at e1
      have e2 := HR.out
      rw [uniR_yes hyes] at e2
      subst e1; subst e2
      clear hg hyes
      go_wp2_with fail
      generalize hWY : (((((w9.setCell ⟨w.heap.size + 2, 0, none⟩ (.int .i64 P)).setCell ⟨w.heap.size + 2, 1, none⟩ (.slice ua M uc)).setCell ⟨w.heap.size + 2, 2, none⟩ (.slice a5 (n0 + n1) k5)).setCell ⟨w.heap.size + 2, 3, none⟩ (.slice a7 (l0 + l1) k7)).setCell ⟨w.heap.size + 2, 4, none⟩ (.string (t0 ++ t1))) = WY
      obtain ⟨q0, q1, q2, q3, q4⟩ := put5_cells hWY r0 r1 r2 r3 r4
      have hbf := put5_below hWY hw9 (by omega)
      have hsam := put5_same hWY (B := w2.heap.size) (by omega)
      clear hWY
      refine bodyPost_ret (v := .tuple #[.agg #[.int .i64 P, .slice ua M uc, .slice a5 (n0 + n1) k5, .slice a7 (l0 + l1) k7, .string (t0 ++ t1)], .bool true]) (by simp [results, Try.results38, go_sem, q0, q1, q2, q3, q4]) rfl ?_
      exact ⟨_, rfl, (HST9.out.keep hsam).wide (by omega) (by have := hsam.1; omega) (Nat.le_refl _), hbf⟩
  have hal : Below w3.heap.size w3 (w3.alloc (.cells #[.int .i64 P, .slice ua M uc] 60)) := (Below.refl _ _).alloc (Nat.le_refl _) _
  have g0 : (w3.alloc (.cells #[.int .i64 P, .slice ua M uc] 60)).cell? ⟨w3.heap.size, 0, none⟩ = some (.int .i64 P) := by simp
  have g1 : (w3.alloc (.cells #[.int .i64 P, .slice ua M uc] 60)).cell? ⟨w3.heap.size, 1, none⟩ = some (.slice ua M uc) := by simp
  have gz : w3.heap.size < (w3.alloc (.cells #[.int .i64 P, .slice ua M uc] 60)).heap.size := by simp
  generalize w3.alloc (.cells #[.int .i64 P, .slice ua M uc] 60) = U at hal g0 g1 gz ⊢
  have x2 := cell_carry x2 (Carries.of 0 hal)
  have x3 := cell_carry x3 (Carries.of 0 hal)
  have x4 := cell_carry x4 (Carries.of 0 hal)
  have y2 := cell_carry y2 (Carries.of 0 hal)
  have y3 := cell_carry y3 (Carries.of 0 hal)
  have y4 := cell_carry y4 (Carries.of 0 hal)
  have r0 := cell_carry r0 (Carries.of 0 hal)
  have r1 := cell_carry r1 (Carries.of 0 hal)
  have r2 := cell_carry r2 (Carries.of 0 hal)
  have r3 := cell_carry r3 (Carries.of 0 hal)
  have r4 := cell_carry r4 (Carries.of 0 hal)
  have rf0 := (hal.frozen (p := ⟨w.heap.size + 2, 0, none⟩) (by show w.heap.size + 2 < _; omega)).trans rf0
  have rf1 := (hal.frozen (p := ⟨w.heap.size + 2, 1, none⟩) (by show w.heap.size + 2 < _; omega)).trans rf1
  have rf2 := (hal.frozen (p := ⟨w.heap.size + 2, 2, none⟩) (by show w.heap.size + 2 < _; omega)).trans rf2
  have rf3 := (hal.frozen (p := ⟨w.heap.size + 2, 3, none⟩) (by show w.heap.size + 2 < _; omega)).trans rf3
  have rf4 := (hal.frozen (p := ⟨w.heap.size + 2, 4, none⟩) (by show w.heap.size + 2 < _; omega)).trans rf4
  refine wp_region_held_drew (S := fun w' => w'.cell? ⟨w.heap.size, 2, none⟩ = some (.slice a1 n0 c1) ∧ w'.cell? ⟨w.heap.size, 3, none⟩ = some (.slice a2 l0 c2) ∧ w'.cell? ⟨w.heap.size, 4, none⟩ = some (.string t0) ∧ w'.cell? ⟨w.heap.size + 1, 2, none⟩ = some (.slice b1 n1 d1) ∧ w'.cell? ⟨w.heap.size + 1, 3, none⟩ = some (.slice b2 l1 d2) ∧ w'.cell? ⟨w.heap.size + 1, 4, none⟩ = some (.string t1) ∧ w'.cell? ⟨w3.heap.size, 0, none⟩ = some (.int .i64 P) ∧ w'.cell? ⟨w3.heap.size, 1, none⟩ = some (.slice ua M uc)) (by kernel_rfl) ⟨x2, x3, x4, y2, y3, y4, g0, g1⟩ (fun hHeld => ?_)
  have hd : Below U.heap.size U U.drew := (Below.refl _ _).drew
  generalize U.drew = V at hd hHeld ⊢
  have x2 := cell_carry x2 (Carries.of 0 hd)
  have x3 := cell_carry x3 (Carries.of 0 hd)
  have x4 := cell_carry x4 (Carries.of 0 hd)
  have y2 := cell_carry y2 (Carries.of 0 hd)
  have y3 := cell_carry y3 (Carries.of 0 hd)
  have y4 := cell_carry y4 (Carries.of 0 hd)
  have r0 := cell_carry r0 (Carries.of 0 hd)
  have r1 := cell_carry r1 (Carries.of 0 hd)
  have r2 := cell_carry r2 (Carries.of 0 hd)
  have r3 := cell_carry r3 (Carries.of 0 hd)
  have r4 := cell_carry r4 (Carries.of 0 hd)
  have rf0 := (hd.frozen (p := ⟨w.heap.size + 2, 0, none⟩) (by show w.heap.size + 2 < _; omega)).trans rf0
  have rf1 := (hd.frozen (p := ⟨w.heap.size + 2, 1, none⟩) (by show w.heap.size + 2 < _; omega)).trans rf1
  have rf2 := (hd.frozen (p := ⟨w.heap.size + 2, 2, none⟩) (by show w.heap.size + 2 < _; omega)).trans rf2
  have rf3 := (hd.frozen (p := ⟨w.heap.size + 2, 3, none⟩) (by show w.heap.size + 2 < _; omega)).trans rf3
  have rf4 := (hd.frozen (p := ⟨w.heap.size + 2, 4, none⟩) (by show w.heap.size + 2 < _; omega)).trans rf4
  have g0 := cell_carry g0 (Carries.of 0 hd)
  have g1 := cell_carry g1 (Carries.of 0 hd)
  have gzV : w3.heap.size < V.heap.size := by have := hd.size; omega
  have hV3 : Below w3.heap.size w3 V := hal.trans (hd.mono hal.size)
  have hVw : Below w.heap.size w V := hw3.trans (hV3.mono hw3.size)
  have belV : Below V.heap.size V V := Below.refl _ _
  clear hal hd gz
  have x2V := x2
  have x3V := x3
  have x4V := x4
  have y2V := y2
  have y3V := y3
  have y4V := y4
  have g0V := g0
  have g1V := g1
  refine tk0 (v := ?_) (by kernel_rfl) (by kernel_rfl) (by kernel_rfl) (by first | exact fun _ _ _ h => h | exact fun _ _ _ h => absurd h.1 (by simp)) (Or.inl ⟨by rfl, ?_⟩) (by assumption) ?_
  rotate_left 1
  focus (intro wx hSw; (try dsimp only at hSw); go_simp; try (with_reducible rfl))
  try simp only [Act.put, List.setIfInBounds_toArray, List.set_cons_zero, List.set_cons_succ]
  refine tk1 (v := ?_) (by kernel_rfl) (by kernel_rfl) (by kernel_rfl) (by first | exact fun _ _ _ h => h | exact fun _ _ _ h => absurd h.1 (by simp)) (Or.inl ⟨by rfl, ?_⟩) (by assumption) ?_
  rotate_left 1
  focus (intro wx hSw; (try dsimp only at hSw); go_simp; try (with_reducible rfl))
  try simp only [Act.put, List.setIfInBounds_toArray, List.set_cons_zero, List.set_cons_succ]
  refine tk2 (v := ?_) (by kernel_rfl) (by kernel_rfl) (by kernel_rfl) (by first | exact fun _ _ _ h => h | exact fun _ _ _ h => absurd h.1 (by simp)) (Or.inl ⟨by rfl, ?_⟩) (by assumption) ?_
  rotate_left 1
  focus (intro wx hSw; (try dsimp only at hSw); go_simp; try (with_reducible rfl))
  try simp only [Act.put, List.setIfInBounds_toArray, List.set_cons_zero, List.set_cons_succ]
  refine tk3 (v := ?_) (by kernel_rfl) (by kernel_rfl) (by kernel_rfl) (by first | exact fun _ _ _ h => h | exact fun _ _ _ h => absurd h.1 (by simp)) (Or.inl ⟨by rfl, ?_⟩) (by assumption) ?_
  rotate_left 1
  focus (intro wx hSw; (try dsimp only at hSw); go_simp; try (with_reducible rfl))
  try simp only [Act.put, List.setIfInBounds_toArray, List.set_cons_zero, List.set_cons_succ]
  refine tk4 (v := ?_) (by kernel_rfl) (by kernel_rfl) (by kernel_rfl) (by first | exact fun _ _ _ h => h | exact fun _ _ _ h => absurd h.1 (by simp)) (Or.inl ⟨by rfl, ?_⟩) (by assumption) ?_
  rotate_left 1
  focus (intro wx hSw; (try dsimp only at hSw); go_simp; try (with_reducible rfl))
  try simp only [Act.put, List.setIfInBounds_toArray, List.set_cons_zero, List.set_cons_succ]
  refine tk7 (v := ?_) (by kernel_rfl) (by kernel_rfl) (by kernel_rfl) (by first | exact fun _ _ _ h => h | exact fun _ _ _ h => absurd h.1 (by simp)) (Or.inl ⟨by rfl, ?_⟩) (by assumption) ?_
  rotate_left 1
  focus (intro wx hSw; (try dsimp only at hSw); go_simp; try (with_reducible rfl))
  try simp only [Act.put, List.setIfInBounds_toArray, List.set_cons_zero, List.set_cons_succ]
  refine tk8 (v := ?_) (by kernel_rfl) (by kernel_rfl) (by kernel_rfl) (by first | exact fun _ _ _ h => h | exact fun _ _ _ h => absurd h.1 (by simp)) (Or.inl ⟨by rfl, ?_⟩) (by assumption) ?_
  rotate_left 1
  focus (intro wx hSw; (try dsimp only at hSw); go_simp; try (with_reducible rfl))
  try simp only [Act.put, List.setIfInBounds_toArray, List.set_cons_zero, List.set_cons_succ]
  refine tk9 (v := ?_) (by kernel_rfl) (by kernel_rfl) (by kernel_rfl) (by first | exact fun _ _ _ h => h | exact fun _ _ _ h => absurd h.1 (by simp)) (Or.inl ⟨by rfl, ?_⟩) (by assumption) ?_
  rotate_left 1
  focus (intro wx hSw; (try dsimp only at hSw); go_simp; try (with_reducible rfl))
  try simp only [Act.put, List.setIfInBounds_toArray, List.set_cons_zero, List.set_cons_succ]
  refine tk10 (v := ?_) (by kernel_rfl) (by kernel_rfl) (by kernel_rfl) (by first | exact fun _ _ _ h => h | exact fun _ _ _ h => absurd h.1 (by simp)) (Or.inl ⟨by rfl, ?_⟩) (by assumption) ?_
  rotate_left 1
  focus (intro wx hSw; (try dsimp only at hSw); go_simp; try (with_reducible rfl))
  try simp only [Act.put, List.setIfInBounds_toArray, List.set_cons_zero, List.set_cons_succ]
  refine tk11 (v := ?_) (by kernel_rfl) (by kernel_rfl) (by kernel_rfl) (by first | exact fun _ _ _ h => h | exact fun _ _ _ h => absurd h.1 (by simp)) (Or.inl ⟨by rfl, ?_⟩) (by assumption) ?_
  rotate_left 1
  focus (intro wx hSw; (try dsimp only at hSw); go_simp; try (with_reducible rfl))
  try simp only [Act.put, List.setIfInBounds_toArray, List.set_cons_zero, List.set_cons_succ]
  refine tk12 (v := ?_) (by kernel_rfl) (by kernel_rfl) (by kernel_rfl) (by first | exact fun _ _ _ h => h | exact fun _ _ _ h => absurd h.1 (by simp)) (Or.inl ⟨by rfl, ?_⟩) (by assumption) ?_
  rotate_left 1
  focus (intro wx hSw; (try dsimp only at hSw); go_simp; try (with_reducible rfl))
  try simp only [Act.put, List.setIfInBounds_toArray, List.set_cons_zero, List.set_cons_succ]
  refine tk13 (v := ?_) (by kernel_rfl) (by kernel_rfl) (by kernel_rfl) (by first | exact fun _ _ _ h => h | exact fun _ _ _ h => absurd h.1 (by simp)) (Or.inl ⟨by rfl, ?_⟩) (by assumption) ?_
  rotate_left 1
  focus (intro wx hSw; (try dsimp only at hSw); go_simp; try (with_reducible rfl))
  try simp only [Act.put, List.setIfInBounds_toArray, List.set_cons_zero, List.set_cons_succ]
  refine tk17 (v := ?_) (by kernel_rfl) (by kernel_rfl) (by kernel_rfl) (by first | exact fun _ _ _ h => h | exact fun _ _ _ h => absurd h.1 (by simp)) (Or.inl ⟨by rfl, ?_⟩) (by assumption) ?_
  rotate_left 1
  focus (intro wx hSw; (try dsimp only at hSw); go_simp; try (with_reducible rfl))
  try simp only [Act.put, List.setIfInBounds_toArray, List.set_cons_zero, List.set_cons_succ]
  refine tk18 (v := ?_) (by kernel_rfl) (by kernel_rfl) (by kernel_rfl) (by first | exact fun _ _ _ h => h | exact fun _ _ _ h => absurd h.1 (by simp)) (Or.inl ⟨by rfl, ?_⟩) (by assumption) ?_
  rotate_left 1
  focus (intro wx hSw; (try dsimp only at hSw); go_simp; try (with_reducible rfl))
  try simp only [Act.put, List.setIfInBounds_toArray, List.set_cons_zero, List.set_cons_succ]
  refine tk19 (v := ?_) (by kernel_rfl) (by kernel_rfl) (by kernel_rfl) (by first | exact fun _ _ _ h => h | exact fun _ _ _ h => absurd h.1 (by simp)) (Or.inl ⟨by rfl, ?_⟩) (by assumption) ?_
  rotate_left 1
  focus (intro wx hSw; (try dsimp only at hSw); go_simp; try (with_reducible rfl))
  try simp only [Act.put, List.setIfInBounds_toArray, List.set_cons_zero, List.set_cons_succ]
  refine tk20 (v := ?_) (by kernel_rfl) (by kernel_rfl) (by kernel_rfl) (by first | exact fun _ _ _ h => h | exact fun _ _ _ h => absurd h.1 (by simp)) (Or.inl ⟨by rfl, ?_⟩) (by assumption) ?_
  rotate_left 1
  focus (intro wx hSw; (try dsimp only at hSw); go_simp; try (with_reducible rfl))
  try simp only [Act.put, List.setIfInBounds_toArray, List.set_cons_zero, List.set_cons_succ]
  refine tk21 (v := ?_) (by kernel_rfl) (by kernel_rfl) (by kernel_rfl) (by first | exact fun _ _ _ h => h | exact fun _ _ _ h => absurd h.1 (by simp)) (Or.inl ⟨by rfl, ?_⟩) (by assumption) ?_
  rotate_left 1
  focus (intro wx hSw; (try dsimp only at hSw); go_simp; rw [if_neg (by omega)])
  try simp only [Act.put, List.setIfInBounds_toArray, List.set_cons_zero, List.set_cons_succ]
  refine wpAnyH_ready (rs := [5, 23]) (by kernel_rfl) (by simp) ?_
  refine ar5 (fun K hK => ?_) ?_
  · go_simp
    have hbb : Below V.heap.size V (V.alloc (.cells #[.slice a1 n0 c1, .slice b1 n1 d1] 31)) := (Below.refl _ _).alloc (Nat.le_refl _) _
    have e0 : (V.alloc (.cells #[.slice a1 n0 c1, .slice b1 n1 d1] 31)).cell? ⟨V.heap.size, 0, none⟩ = some (.slice a1 n0 c1) := by simp
    have e1 : (V.alloc (.cells #[.slice a1 n0 c1, .slice b1 n1 d1] 31)).cell? ⟨V.heap.size, 1, none⟩ = some (.slice b1 n1 d1) := by simp
    generalize V.alloc (.cells #[.slice a1 n0 c1, .slice b1 n1 d1] 31) = W1 at hbb e0 e1 ⊢
    have belW1 : Below V.heap.size V W1 := belV.trans (hbb.mono belV.size)
    have zdW1 := hbb.size
    have x2W1 := cell_carry x2 (Carries.of 0 belW1)
    have x3W1 := cell_carry x3 (Carries.of 0 belW1)
    have x4W1 := cell_carry x4 (Carries.of 0 belW1)
    have y2W1 := cell_carry y2 (Carries.of 0 belW1)
    have y3W1 := cell_carry y3 (Carries.of 0 belW1)
    have y4W1 := cell_carry y4 (Carries.of 0 belW1)
    have g0W1 := cell_carry g0 (Carries.of 0 belW1)
    have g1W1 := cell_carry g1 (Carries.of 0 belW1)
    have s0W1 := e0
    have s1W1 := e1
    clear hbb e0 e1
    refine hK.out _ _ ⟨x2W1, x3W1, x4W1, y2W1, y3W1, y4W1, g0W1, g1W1⟩ (fun hHeld => ?_)
    clear hK K
    try simp only [Act.put, List.setIfInBounds_toArray, List.set_cons_zero, List.set_cons_succ]
    refine wpAnyH_ready (rs := [6, 23]) (by kernel_rfl) (by simp) ?_
    refine ar6 (fun K hK => ?_) ?_
    · go_simp
      refine (concatsigs_any _ 2 _ _ s0.sigs s1.sigs W1 lo s0W1 s1W1 (HSA.out.keep (Carries.of lo (hVw.trans (belW1.mono hVw.size)))) (HSB.out.keep (Carries.of lo (hVw.trans (belW1.mono hVw.size)))) HS0.out.2.1.1 HS1.out.2.1.1).mono ?_
      rintro e W2 ⟨v5, rfl, hos, hbb⟩
      have hos2 : W2.ownsRow W1.heap.size 118 2 v5 (s0.sigs.length + s1.sigs.length) (pairCells (sgX (s0.sigs ++ s1.sigs)) (sgY (s0.sigs ++ s1.sigs)) (s0.sigs.length + s1.sigs.length)) := by rw [← sigs_app]; exact hos
      rw [← HP0.out.2.2.1, ← HP1.out.2.2.1] at hos2
      obtain ⟨a5, k5, rfl⟩ := owns_form hos2
      clear hos
      have belW2 : Below V.heap.size V W2 := belW1.trans (hbb.mono belW1.size)
      have zdW2 := hbb.size
      have x2W2 := cell_carry x2 (Carries.of 0 belW2)
      have x3W2 := cell_carry x3 (Carries.of 0 belW2)
      have x4W2 := cell_carry x4 (Carries.of 0 belW2)
      have y2W2 := cell_carry y2 (Carries.of 0 belW2)
      have y3W2 := cell_carry y3 (Carries.of 0 belW2)
      have y4W2 := cell_carry y4 (Carries.of 0 belW2)
      have g0W2 := cell_carry g0 (Carries.of 0 belW2)
      have g1W2 := cell_carry g1 (Carries.of 0 belW2)
      have HRSW2 := Lib.hid hos2
      clear hos2 hbb
      refine hK.out _ _ ⟨x2W2, x3W2, x4W2, y2W2, y3W2, y4W2, g0W2, g1W2⟩ (fun hHeld => ?_)
      clear hK K
      try simp only [Act.put, List.setIfInBounds_toArray, List.set_cons_zero, List.set_cons_succ]
      refine wpAnyH_ready (rs := [14, 23]) (by kernel_rfl) (by simp) ?_
      refine ar14 (fun K hK => ?_) ?_
      · go_simp
        refine (movedLabels_any _ s1.labs n0 W2 lo (HLB.out.keep (Carries.of lo (hVw.trans (belW2.mono hVw.size)))) HS1.out.2.2.1 (by omega) HLOW.out).mono ?_
        rintro e W3 ⟨v6, rfl, hom, hbb⟩
        rw [← HP1.out.2.2.2.1] at hom
        obtain ⟨a6, k6, rfl⟩ := owns_form hom
        have belW3 : Below V.heap.size V W3 := belW2.trans (hbb.mono belW2.size)
        have zdW3 := hbb.size
        have x2W3 := cell_carry x2 (Carries.of 0 belW3)
        have x3W3 := cell_carry x3 (Carries.of 0 belW3)
        have x4W3 := cell_carry x4 (Carries.of 0 belW3)
        have y2W3 := cell_carry y2 (Carries.of 0 belW3)
        have y3W3 := cell_carry y3 (Carries.of 0 belW3)
        have y4W3 := cell_carry y4 (Carries.of 0 belW3)
        have g0W3 := cell_carry g0 (Carries.of 0 belW3)
        have g1W3 := cell_carry g1 (Carries.of 0 belW3)
        have HRSW3 := Lib.hid (owns_after HRSW2.out hbb)
        have HRMW3 := Lib.hid hom
        clear hom hbb
        refine hK.out _ _ ⟨x2W3, x3W3, x4W3, y2W3, y3W3, y4W3, g0W3, g1W3⟩ (fun hHeld => ?_)
        clear hK K
        try simp only [Act.put, List.setIfInBounds_toArray, List.set_cons_zero, List.set_cons_succ]
        refine wpAnyH_ready (rs := [15, 23]) (by kernel_rfl) (by simp) ?_
        refine ar15 (fun K hK => ?_) ?_
        · go_simp
          have hbb : Below W3.heap.size W3 (W3.alloc (.cells #[.slice a2 l0 c2, .slice a6 l1 k6] 61)) := (Below.refl _ _).alloc (Nat.le_refl _) _
          have e0 : (W3.alloc (.cells #[.slice a2 l0 c2, .slice a6 l1 k6] 61)).cell? ⟨W3.heap.size, 0, none⟩ = some (.slice a2 l0 c2) := by simp
          have e1 : (W3.alloc (.cells #[.slice a2 l0 c2, .slice a6 l1 k6] 61)).cell? ⟨W3.heap.size, 1, none⟩ = some (.slice a6 l1 k6) := by simp
          generalize W3.alloc (.cells #[.slice a2 l0 c2, .slice a6 l1 k6] 61) = W4 at hbb e0 e1 ⊢
          have belW4 : Below V.heap.size V W4 := belW3.trans (hbb.mono belW3.size)
          have zdW4 := hbb.size
          have x2W4 := cell_carry x2 (Carries.of 0 belW4)
          have x3W4 := cell_carry x3 (Carries.of 0 belW4)
          have x4W4 := cell_carry x4 (Carries.of 0 belW4)
          have y2W4 := cell_carry y2 (Carries.of 0 belW4)
          have y3W4 := cell_carry y3 (Carries.of 0 belW4)
          have y4W4 := cell_carry y4 (Carries.of 0 belW4)
          have g0W4 := cell_carry g0 (Carries.of 0 belW4)
          have g1W4 := cell_carry g1 (Carries.of 0 belW4)
          have HRSW4 := Lib.hid (owns_after HRSW3.out hbb)
          have HRMW4 := Lib.hid (owns_after HRMW3.out hbb)
          have q0W4 := e0
          have q1W4 := e1
          clear hbb e0 e1
          refine hK.out _ _ ⟨x2W4, x3W4, x4W4, y2W4, y3W4, y4W4, g0W4, g1W4⟩ (fun hHeld => ?_)
          clear hK K
          try simp only [Act.put, List.setIfInBounds_toArray, List.set_cons_zero, List.set_cons_succ]
          refine wpAnyH_ready (rs := [16, 23]) (by kernel_rfl) (by simp) ?_
          refine ar16 (fun K hK => ?_) ?_
          · go_simp
            have hml : LabsAt 0 W4 (.slice a6 l1 k6) (movL n0 l1 s1.labs) := by
              have h := pairs_of_owns HRMW4.out
              unfold LabsAt
              rw [movL_length, ← HP1.out.2.2.2.1]
              exact PairsAt.low h (Nat.zero_le _)
            refine (concatlabs_any _ 2 _ _ s0.labs (movL n0 l1 s1.labs) W4 0 q0W4 q1W4 ((HLA.out.low (Nat.zero_le _)).keep (Carries.of 0 (hVw.trans (belW4.mono hVw.size)))) hml HS0.out.2.2.1 (by rw [movL_length]; exact HS1.out.2.2.1)).mono ?_
            rintro e W5 ⟨v7, rfl, hol, hbb⟩
            have hol2 : W5.ownsRow W4.heap.size 113 2 v7 (s0.labs.length + (movL n0 l1 s1.labs).length) (pairCells (lbX (s0.labs ++ movL n0 l1 s1.labs)) (lbY (s0.labs ++ movL n0 l1 s1.labs)) (s0.labs.length + (movL n0 l1 s1.labs).length)) := by rw [← labs_app]; exact hol
            rw [movL_length, ← HP0.out.2.2.2.1, ← HP1.out.2.2.2.1] at hol2
            obtain ⟨a7, k7, rfl⟩ := owns_form hol2
            clear hol hml
            have belW5 : Below V.heap.size V W5 := belW4.trans (hbb.mono belW4.size)
            have zdW5 := hbb.size
            have x2W5 := cell_carry x2 (Carries.of 0 belW5)
            have x3W5 := cell_carry x3 (Carries.of 0 belW5)
            have x4W5 := cell_carry x4 (Carries.of 0 belW5)
            have y2W5 := cell_carry y2 (Carries.of 0 belW5)
            have y3W5 := cell_carry y3 (Carries.of 0 belW5)
            have y4W5 := cell_carry y4 (Carries.of 0 belW5)
            have g0W5 := cell_carry g0 (Carries.of 0 belW5)
            have g1W5 := cell_carry g1 (Carries.of 0 belW5)
            have HRSW5 := Lib.hid (owns_after HRSW4.out hbb)
            have HRLW5 := Lib.hid hol2
            clear hol2 hbb
            refine hK.out _ _ ⟨x2W5, x3W5, x4W5, y2W5, y3W5, y4W5, g0W5, g1W5⟩ (fun hHeld => ?_)
            clear hK K
            try simp only [Act.put, List.setIfInBounds_toArray, List.set_cons_zero, List.set_cons_succ]
            refine tk22 (v := ?_) (by kernel_rfl) (by kernel_rfl) (by kernel_rfl) (by first | exact fun _ _ _ h => h | exact fun _ _ _ h => absurd h.1 (by simp)) (Or.inl ⟨by rfl, ?_⟩) (by assumption) ?_
            rotate_left 1
            focus (intro wx hSw; (try dsimp only at hSw); go_simp; try (with_reducible rfl))
            try simp only [Act.put, List.setIfInBounds_toArray, List.set_cons_zero, List.set_cons_succ]
            refine rd23 (by kernel_rfl) (fun K hK => ?_)
            go_simp
            have hbb : Below W5.heap.size W5 (W5.alloc (.cells #[.int .i64 0, .slice none 0 0, .slice none 0 0, .slice none 0 0, .string ⟨#[]⟩] 63)) := (Below.refl _ _).alloc (Nat.le_refl _) _
            have zt : W5.heap.size < (W5.alloc (.cells #[.int .i64 0, .slice none 0 0, .slice none 0 0, .slice none 0 0, .string ⟨#[]⟩] 63)).heap.size := by simp
            have e0 : (W5.alloc (.cells #[.int .i64 0, .slice none 0 0, .slice none 0 0, .slice none 0 0, .string ⟨#[]⟩] 63)).cell? ⟨W5.heap.size, 0, none⟩ = some (.int .i64 0) := by simp
            have e1 : (W5.alloc (.cells #[.int .i64 0, .slice none 0 0, .slice none 0 0, .slice none 0 0, .string ⟨#[]⟩] 63)).cell? ⟨W5.heap.size, 1, none⟩ = some (.slice none 0 0) := by simp
            have e2 : (W5.alloc (.cells #[.int .i64 0, .slice none 0 0, .slice none 0 0, .slice none 0 0, .string ⟨#[]⟩] 63)).cell? ⟨W5.heap.size, 2, none⟩ = some (.slice none 0 0) := by simp
            have e3 : (W5.alloc (.cells #[.int .i64 0, .slice none 0 0, .slice none 0 0, .slice none 0 0, .string ⟨#[]⟩] 63)).cell? ⟨W5.heap.size, 3, none⟩ = some (.slice none 0 0) := by simp
            have e4 : (W5.alloc (.cells #[.int .i64 0, .slice none 0 0, .slice none 0 0, .slice none 0 0, .string ⟨#[]⟩] 63)).cell? ⟨W5.heap.size, 4, none⟩ = some (.string ⟨#[]⟩) := by simp
            have f0 : (W5.alloc (.cells #[.int .i64 0, .slice none 0 0, .slice none 0 0, .slice none 0 0, .string ⟨#[]⟩] 63)).frozen? ⟨W5.heap.size, 0, none⟩ = false := by simp
            have f1 : (W5.alloc (.cells #[.int .i64 0, .slice none 0 0, .slice none 0 0, .slice none 0 0, .string ⟨#[]⟩] 63)).frozen? ⟨W5.heap.size, 1, none⟩ = false := by simp
            have f2 : (W5.alloc (.cells #[.int .i64 0, .slice none 0 0, .slice none 0 0, .slice none 0 0, .string ⟨#[]⟩] 63)).frozen? ⟨W5.heap.size, 2, none⟩ = false := by simp
            have f3 : (W5.alloc (.cells #[.int .i64 0, .slice none 0 0, .slice none 0 0, .slice none 0 0, .string ⟨#[]⟩] 63)).frozen? ⟨W5.heap.size, 3, none⟩ = false := by simp
            have f4 : (W5.alloc (.cells #[.int .i64 0, .slice none 0 0, .slice none 0 0, .slice none 0 0, .string ⟨#[]⟩] 63)).frozen? ⟨W5.heap.size, 4, none⟩ = false := by simp
            generalize W5.alloc (.cells #[.int .i64 0, .slice none 0 0, .slice none 0 0, .slice none 0 0, .string ⟨#[]⟩] 63) = W6 at hbb zt e0 e1 e2 e3 e4 f0 f1 f2 f3 f4 ⊢
            obtain ⟨tb, htb⟩ : ∃ t, t = W5.heap.size := ⟨_, rfl⟩
            rw [← htb] at zt e0 e1 e2 e3 e4 f0 f1 f2 f3 f4 ⊢
            have htl : W5.heap.size ≤ tb := by omega
            clear htb
            have belW6 : Below V.heap.size V W6 := belW5.trans (hbb.mono belW5.size)
            have zdW6 := hbb.size
            have hTW6 : Below W5.heap.size W5 W6 := hbb
            have x2W6 := cell_carry x2 (Carries.of 0 belW6)
            have x3W6 := cell_carry x3 (Carries.of 0 belW6)
            have x4W6 := cell_carry x4 (Carries.of 0 belW6)
            have y2W6 := cell_carry y2 (Carries.of 0 belW6)
            have y3W6 := cell_carry y3 (Carries.of 0 belW6)
            have y4W6 := cell_carry y4 (Carries.of 0 belW6)
            have g0W6 := cell_carry g0 (Carries.of 0 belW6)
            have g1W6 := cell_carry g1 (Carries.of 0 belW6)
            have HRSW6 := Lib.hid (owns_after HRSW5.out hbb)
            have HRLW6 := Lib.hid (owns_after HRLW5.out hbb)
            have t0xW6 := e0
            have t1xW6 := e1
            have t2xW6 := e2
            have t3xW6 := e3
            have t4xW6 := e4
            have tf0W6 := f0
            have tf1W6 := f1
            have tf2W6 := f2
            have tf3W6 := f3
            have tf4W6 := f4
            have ztW6 := zt
            clear hbb zt e0 e1 e2 e3 e4 f0 f1 f2 f3 f4
            refine hK.out _ _ ⟨x2W6, x3W6, x4W6, y2W6, y3W6, y4W6, g0W6, g1W6⟩ (fun hHeld => ?_)
            clear hK K
            try simp only [Act.put, List.setIfInBounds_toArray, List.set_cons_zero, List.set_cons_succ]
            refine rd24 (by kernel_rfl) (fun K hK => ?_)
            go_simp
            generalize hWX : (((((W6.setCell ⟨tb, 0, none⟩ (.int .i64 P)).setCell ⟨tb, 1, none⟩ (.slice ua M uc)).setCell ⟨tb, 2, none⟩ (.slice a5 (n0 + n1) k5)).setCell ⟨tb, 3, none⟩ (.slice a7 (l0 + l1) k7)).setCell ⟨tb, 4, none⟩ (.string (t0 ++ t1))) = WX
            obtain ⟨u0, u1, u2, u3, u4⟩ := put5_cells hWX t0xW6 t1xW6 t2xW6 t3xW6 t4xW6
            have belX : Below V.heap.size V WX := put5_below hWX belW6 (by omega)
            have HRSX := Lib.hid (owns_after HRSW5.out (put5_below hWX hTW6 (by omega)))
            have HRLX := Lib.hid (owns_after HRLW5.out (put5_below hWX hTW6 (by omega)))
            clear hWX
            refine hK.out _ _ ⟨cell_carry x2 (Carries.of 0 belX), cell_carry x3 (Carries.of 0 belX), cell_carry x4 (Carries.of 0 belX), cell_carry y2 (Carries.of 0 belX), cell_carry y3 (Carries.of 0 belX), cell_carry y4 (Carries.of 0 belX), cell_carry g0 (Carries.of 0 belX), cell_carry g1 (Carries.of 0 belX)⟩ (fun hHeld => ?_)
            clear hK K
            try simp only [Act.put, List.setIfInBounds_toArray, List.set_cons_zero, List.set_cons_succ]
            refine wpAnyH_done (by kernel_rfl) ?_ _
            exact HK _ _ _ _ _ _ _ _ _ _ _ _ _ _ _ _ _ _ _ _ _ _ _ tb _ _ WX a5 a7 k5 k7 (hV3.trans (belX.mono hV3.size)) u0 u1 u2 u3 u4 HRSX (by omega) HRLX (by omega)
          refine ar23 (fun K hK => ?_) AllReadyH.nil
          go_simp
          have hbb : Below W4.heap.size W4 (W4.alloc (.cells #[.int .i64 0, .slice none 0 0, .slice none 0 0, .slice none 0 0, .string ⟨#[]⟩] 63)) := (Below.refl _ _).alloc (Nat.le_refl _) _
          have zt : W4.heap.size < (W4.alloc (.cells #[.int .i64 0, .slice none 0 0, .slice none 0 0, .slice none 0 0, .string ⟨#[]⟩] 63)).heap.size := by simp
          have e0 : (W4.alloc (.cells #[.int .i64 0, .slice none 0 0, .slice none 0 0, .slice none 0 0, .string ⟨#[]⟩] 63)).cell? ⟨W4.heap.size, 0, none⟩ = some (.int .i64 0) := by simp
          have e1 : (W4.alloc (.cells #[.int .i64 0, .slice none 0 0, .slice none 0 0, .slice none 0 0, .string ⟨#[]⟩] 63)).cell? ⟨W4.heap.size, 1, none⟩ = some (.slice none 0 0) := by simp
          have e2 : (W4.alloc (.cells #[.int .i64 0, .slice none 0 0, .slice none 0 0, .slice none 0 0, .string ⟨#[]⟩] 63)).cell? ⟨W4.heap.size, 2, none⟩ = some (.slice none 0 0) := by simp
          have e3 : (W4.alloc (.cells #[.int .i64 0, .slice none 0 0, .slice none 0 0, .slice none 0 0, .string ⟨#[]⟩] 63)).cell? ⟨W4.heap.size, 3, none⟩ = some (.slice none 0 0) := by simp
          have e4 : (W4.alloc (.cells #[.int .i64 0, .slice none 0 0, .slice none 0 0, .slice none 0 0, .string ⟨#[]⟩] 63)).cell? ⟨W4.heap.size, 4, none⟩ = some (.string ⟨#[]⟩) := by simp
          have f0 : (W4.alloc (.cells #[.int .i64 0, .slice none 0 0, .slice none 0 0, .slice none 0 0, .string ⟨#[]⟩] 63)).frozen? ⟨W4.heap.size, 0, none⟩ = false := by simp
          have f1 : (W4.alloc (.cells #[.int .i64 0, .slice none 0 0, .slice none 0 0, .slice none 0 0, .string ⟨#[]⟩] 63)).frozen? ⟨W4.heap.size, 1, none⟩ = false := by simp
          have f2 : (W4.alloc (.cells #[.int .i64 0, .slice none 0 0, .slice none 0 0, .slice none 0 0, .string ⟨#[]⟩] 63)).frozen? ⟨W4.heap.size, 2, none⟩ = false := by simp
          have f3 : (W4.alloc (.cells #[.int .i64 0, .slice none 0 0, .slice none 0 0, .slice none 0 0, .string ⟨#[]⟩] 63)).frozen? ⟨W4.heap.size, 3, none⟩ = false := by simp
          have f4 : (W4.alloc (.cells #[.int .i64 0, .slice none 0 0, .slice none 0 0, .slice none 0 0, .string ⟨#[]⟩] 63)).frozen? ⟨W4.heap.size, 4, none⟩ = false := by simp
          generalize W4.alloc (.cells #[.int .i64 0, .slice none 0 0, .slice none 0 0, .slice none 0 0, .string ⟨#[]⟩] 63) = W7 at hbb zt e0 e1 e2 e3 e4 f0 f1 f2 f3 f4 ⊢
          obtain ⟨tb, htb⟩ : ∃ t, t = W4.heap.size := ⟨_, rfl⟩
          rw [← htb] at zt e0 e1 e2 e3 e4 f0 f1 f2 f3 f4 ⊢
          have htl : W4.heap.size ≤ tb := by omega
          clear htb
          have belW7 : Below V.heap.size V W7 := belW4.trans (hbb.mono belW4.size)
          have zdW7 := hbb.size
          have hTW7 : Below W4.heap.size W4 W7 := hbb
          have x2W7 := cell_carry x2 (Carries.of 0 belW7)
          have x3W7 := cell_carry x3 (Carries.of 0 belW7)
          have x4W7 := cell_carry x4 (Carries.of 0 belW7)
          have y2W7 := cell_carry y2 (Carries.of 0 belW7)
          have y3W7 := cell_carry y3 (Carries.of 0 belW7)
          have y4W7 := cell_carry y4 (Carries.of 0 belW7)
          have g0W7 := cell_carry g0 (Carries.of 0 belW7)
          have g1W7 := cell_carry g1 (Carries.of 0 belW7)
          have HRSW7 := Lib.hid (owns_after HRSW4.out hbb)
          have HRMW7 := Lib.hid (owns_after HRMW4.out hbb)
          have q0W7 := cell_carry q0W4 (Carries.of 0 hbb)
          have q1W7 := cell_carry q1W4 (Carries.of 0 hbb)
          have t0xW7 := e0
          have t1xW7 := e1
          have t2xW7 := e2
          have t3xW7 := e3
          have t4xW7 := e4
          have tf0W7 := f0
          have tf1W7 := f1
          have tf2W7 := f2
          have tf3W7 := f3
          have tf4W7 := f4
          have ztW7 := zt
          clear hbb zt e0 e1 e2 e3 e4 f0 f1 f2 f3 f4
          refine hK.out _ _ ⟨x2W7, x3W7, x4W7, y2W7, y3W7, y4W7, g0W7, g1W7⟩ (fun hHeld => ?_)
          clear hK K
          try simp only [Act.put, List.setIfInBounds_toArray, List.set_cons_zero, List.set_cons_succ]
          refine rd16 (by kernel_rfl) (fun K hK => ?_)
          go_simp
          have hml : LabsAt 0 W7 (.slice a6 l1 k6) (movL n0 l1 s1.labs) := by
            have h := pairs_of_owns HRMW7.out
            unfold LabsAt
            rw [movL_length, ← HP1.out.2.2.2.1]
            exact PairsAt.low h (Nat.zero_le _)
          refine (concatlabs_any _ 2 _ _ s0.labs (movL n0 l1 s1.labs) W7 0 q0W7 q1W7 ((HLA.out.low (Nat.zero_le _)).keep (Carries.of 0 (hVw.trans (belW7.mono hVw.size)))) hml HS0.out.2.2.1 (by rw [movL_length]; exact HS1.out.2.2.1)).mono ?_
          rintro e W8 ⟨v7, rfl, hol, hbb⟩
          have hol2 : W8.ownsRow W7.heap.size 113 2 v7 (s0.labs.length + (movL n0 l1 s1.labs).length) (pairCells (lbX (s0.labs ++ movL n0 l1 s1.labs)) (lbY (s0.labs ++ movL n0 l1 s1.labs)) (s0.labs.length + (movL n0 l1 s1.labs).length)) := by rw [← labs_app]; exact hol
          rw [movL_length, ← HP0.out.2.2.2.1, ← HP1.out.2.2.2.1] at hol2
          obtain ⟨a7, k7, rfl⟩ := owns_form hol2
          clear hol hml
          have belW8 : Below V.heap.size V W8 := belW7.trans (hbb.mono belW7.size)
          have zdW8 := hbb.size
          have hTW8 : Below W4.heap.size W4 W8 := hTW7.trans (hbb.mono hTW7.size)
          have x2W8 := cell_carry x2 (Carries.of 0 belW8)
          have x3W8 := cell_carry x3 (Carries.of 0 belW8)
          have x4W8 := cell_carry x4 (Carries.of 0 belW8)
          have y2W8 := cell_carry y2 (Carries.of 0 belW8)
          have y3W8 := cell_carry y3 (Carries.of 0 belW8)
          have y4W8 := cell_carry y4 (Carries.of 0 belW8)
          have g0W8 := cell_carry g0 (Carries.of 0 belW8)
          have g1W8 := cell_carry g1 (Carries.of 0 belW8)
          have HRSW8 := Lib.hid (owns_after HRSW7.out hbb)
          have t0xW8 := cell_carry t0xW7 (Carries.of 0 hbb)
          have t1xW8 := cell_carry t1xW7 (Carries.of 0 hbb)
          have t2xW8 := cell_carry t2xW7 (Carries.of 0 hbb)
          have t3xW8 := cell_carry t3xW7 (Carries.of 0 hbb)
          have t4xW8 := cell_carry t4xW7 (Carries.of 0 hbb)
          have tf0W8 := (hbb.frozen (p := ⟨tb, 0, none⟩) (by show tb < _; omega)).trans tf0W7
          have tf1W8 := (hbb.frozen (p := ⟨tb, 1, none⟩) (by show tb < _; omega)).trans tf1W7
          have tf2W8 := (hbb.frozen (p := ⟨tb, 2, none⟩) (by show tb < _; omega)).trans tf2W7
          have tf3W8 := (hbb.frozen (p := ⟨tb, 3, none⟩) (by show tb < _; omega)).trans tf3W7
          have tf4W8 := (hbb.frozen (p := ⟨tb, 4, none⟩) (by show tb < _; omega)).trans tf4W7
          have ztW8 : tb < W8.heap.size := by omega
          have HRLW8 := Lib.hid hol2
          clear hol2 hbb
          refine hK.out _ _ ⟨x2W8, x3W8, x4W8, y2W8, y3W8, y4W8, g0W8, g1W8⟩ (fun hHeld => ?_)
          clear hK K
          try simp only [Act.put, List.setIfInBounds_toArray, List.set_cons_zero, List.set_cons_succ]
          refine tk22 (v := ?_) (by kernel_rfl) (by kernel_rfl) (by kernel_rfl) (by first | exact fun _ _ _ h => h | exact fun _ _ _ h => absurd h.1 (by simp)) (Or.inl ⟨by rfl, ?_⟩) (by assumption) ?_
          rotate_left 1
          focus (intro wx hSw; (try dsimp only at hSw); go_simp; try (with_reducible rfl))
          try simp only [Act.put, List.setIfInBounds_toArray, List.set_cons_zero, List.set_cons_succ]
          refine rd24 (by kernel_rfl) (fun K hK => ?_)
          go_simp
          generalize hWX : (((((W8.setCell ⟨tb, 0, none⟩ (.int .i64 P)).setCell ⟨tb, 1, none⟩ (.slice ua M uc)).setCell ⟨tb, 2, none⟩ (.slice a5 (n0 + n1) k5)).setCell ⟨tb, 3, none⟩ (.slice a7 (l0 + l1) k7)).setCell ⟨tb, 4, none⟩ (.string (t0 ++ t1))) = WX
          obtain ⟨u0, u1, u2, u3, u4⟩ := put5_cells hWX t0xW8 t1xW8 t2xW8 t3xW8 t4xW8
          have belX : Below V.heap.size V WX := put5_below hWX belW8 (by omega)
          have HRSX := Lib.hid (owns_after HRSW4.out (put5_below hWX hTW8 (by omega)))
          have HRLX := Lib.hid (put5_owns hWX HRLW8.out (by omega))
          clear hWX
          refine hK.out _ _ ⟨cell_carry x2 (Carries.of 0 belX), cell_carry x3 (Carries.of 0 belX), cell_carry x4 (Carries.of 0 belX), cell_carry y2 (Carries.of 0 belX), cell_carry y3 (Carries.of 0 belX), cell_carry y4 (Carries.of 0 belX), cell_carry g0 (Carries.of 0 belX), cell_carry g1 (Carries.of 0 belX)⟩ (fun hHeld => ?_)
          clear hK K
          try simp only [Act.put, List.setIfInBounds_toArray, List.set_cons_zero, List.set_cons_succ]
          refine wpAnyH_done (by kernel_rfl) ?_ _
          exact HK _ _ _ _ _ _ _ _ _ _ _ _ _ _ _ _ _ _ _ _ _ _ _ tb _ _ WX a5 a7 k5 k7 (hV3.trans (belX.mono hV3.size)) u0 u1 u2 u3 u4 HRSX (by omega) HRLX (by omega)
        refine ar23 (fun K hK => ?_) AllReadyH.nil
        go_simp
        have hbb : Below W3.heap.size W3 (W3.alloc (.cells #[.int .i64 0, .slice none 0 0, .slice none 0 0, .slice none 0 0, .string ⟨#[]⟩] 63)) := (Below.refl _ _).alloc (Nat.le_refl _) _
        have zt : W3.heap.size < (W3.alloc (.cells #[.int .i64 0, .slice none 0 0, .slice none 0 0, .slice none 0 0, .string ⟨#[]⟩] 63)).heap.size := by simp
        have e0 : (W3.alloc (.cells #[.int .i64 0, .slice none 0 0, .slice none 0 0, .slice none 0 0, .string ⟨#[]⟩] 63)).cell? ⟨W3.heap.size, 0, none⟩ = some (.int .i64 0) := by simp
        have e1 : (W3.alloc (.cells #[.int .i64 0, .slice none 0 0, .slice none 0 0, .slice none 0 0, .string ⟨#[]⟩] 63)).cell? ⟨W3.heap.size, 1, none⟩ = some (.slice none 0 0) := by simp
        have e2 : (W3.alloc (.cells #[.int .i64 0, .slice none 0 0, .slice none 0 0, .slice none 0 0, .string ⟨#[]⟩] 63)).cell? ⟨W3.heap.size, 2, none⟩ = some (.slice none 0 0) := by simp
        have e3 : (W3.alloc (.cells #[.int .i64 0, .slice none 0 0, .slice none 0 0, .slice none 0 0, .string ⟨#[]⟩] 63)).cell? ⟨W3.heap.size, 3, none⟩ = some (.slice none 0 0) := by simp
        have e4 : (W3.alloc (.cells #[.int .i64 0, .slice none 0 0, .slice none 0 0, .slice none 0 0, .string ⟨#[]⟩] 63)).cell? ⟨W3.heap.size, 4, none⟩ = some (.string ⟨#[]⟩) := by simp
        have f0 : (W3.alloc (.cells #[.int .i64 0, .slice none 0 0, .slice none 0 0, .slice none 0 0, .string ⟨#[]⟩] 63)).frozen? ⟨W3.heap.size, 0, none⟩ = false := by simp
        have f1 : (W3.alloc (.cells #[.int .i64 0, .slice none 0 0, .slice none 0 0, .slice none 0 0, .string ⟨#[]⟩] 63)).frozen? ⟨W3.heap.size, 1, none⟩ = false := by simp
        have f2 : (W3.alloc (.cells #[.int .i64 0, .slice none 0 0, .slice none 0 0, .slice none 0 0, .string ⟨#[]⟩] 63)).frozen? ⟨W3.heap.size, 2, none⟩ = false := by simp
        have f3 : (W3.alloc (.cells #[.int .i64 0, .slice none 0 0, .slice none 0 0, .slice none 0 0, .string ⟨#[]⟩] 63)).frozen? ⟨W3.heap.size, 3, none⟩ = false := by simp
        have f4 : (W3.alloc (.cells #[.int .i64 0, .slice none 0 0, .slice none 0 0, .slice none 0 0, .string ⟨#[]⟩] 63)).frozen? ⟨W3.heap.size, 4, none⟩ = false := by simp
        generalize W3.alloc (.cells #[.int .i64 0, .slice none 0 0, .slice none 0 0, .slice none 0 0, .string ⟨#[]⟩] 63) = W9 at hbb zt e0 e1 e2 e3 e4 f0 f1 f2 f3 f4 ⊢
        obtain ⟨tb, htb⟩ : ∃ t, t = W3.heap.size := ⟨_, rfl⟩
        rw [← htb] at zt e0 e1 e2 e3 e4 f0 f1 f2 f3 f4 ⊢
        have htl : W3.heap.size ≤ tb := by omega
        clear htb
        have belW9 : Below V.heap.size V W9 := belW3.trans (hbb.mono belW3.size)
        have zdW9 := hbb.size
        have hTW9 : Below W3.heap.size W3 W9 := hbb
        have x2W9 := cell_carry x2 (Carries.of 0 belW9)
        have x3W9 := cell_carry x3 (Carries.of 0 belW9)
        have x4W9 := cell_carry x4 (Carries.of 0 belW9)
        have y2W9 := cell_carry y2 (Carries.of 0 belW9)
        have y3W9 := cell_carry y3 (Carries.of 0 belW9)
        have y4W9 := cell_carry y4 (Carries.of 0 belW9)
        have g0W9 := cell_carry g0 (Carries.of 0 belW9)
        have g1W9 := cell_carry g1 (Carries.of 0 belW9)
        have HRSW9 := Lib.hid (owns_after HRSW3.out hbb)
        have HRMW9 := Lib.hid (owns_after HRMW3.out hbb)
        have t0xW9 := e0
        have t1xW9 := e1
        have t2xW9 := e2
        have t3xW9 := e3
        have t4xW9 := e4
        have tf0W9 := f0
        have tf1W9 := f1
        have tf2W9 := f2
        have tf3W9 := f3
        have tf4W9 := f4
        have ztW9 := zt
        clear hbb zt e0 e1 e2 e3 e4 f0 f1 f2 f3 f4
        refine hK.out _ _ ⟨x2W9, x3W9, x4W9, y2W9, y3W9, y4W9, g0W9, g1W9⟩ (fun hHeld => ?_)
        clear hK K
        try simp only [Act.put, List.setIfInBounds_toArray, List.set_cons_zero, List.set_cons_succ]
        refine rd15 (by kernel_rfl) (fun K hK => ?_)
        go_simp
        have hbb : Below W9.heap.size W9 (W9.alloc (.cells #[.slice a2 l0 c2, .slice a6 l1 k6] 61)) := (Below.refl _ _).alloc (Nat.le_refl _) _
        have e0 : (W9.alloc (.cells #[.slice a2 l0 c2, .slice a6 l1 k6] 61)).cell? ⟨W9.heap.size, 0, none⟩ = some (.slice a2 l0 c2) := by simp
        have e1 : (W9.alloc (.cells #[.slice a2 l0 c2, .slice a6 l1 k6] 61)).cell? ⟨W9.heap.size, 1, none⟩ = some (.slice a6 l1 k6) := by simp
        generalize W9.alloc (.cells #[.slice a2 l0 c2, .slice a6 l1 k6] 61) = W10 at hbb e0 e1 ⊢
        have belW10 : Below V.heap.size V W10 := belW9.trans (hbb.mono belW9.size)
        have zdW10 := hbb.size
        have hTW10 : Below W3.heap.size W3 W10 := hTW9.trans (hbb.mono hTW9.size)
        have x2W10 := cell_carry x2 (Carries.of 0 belW10)
        have x3W10 := cell_carry x3 (Carries.of 0 belW10)
        have x4W10 := cell_carry x4 (Carries.of 0 belW10)
        have y2W10 := cell_carry y2 (Carries.of 0 belW10)
        have y3W10 := cell_carry y3 (Carries.of 0 belW10)
        have y4W10 := cell_carry y4 (Carries.of 0 belW10)
        have g0W10 := cell_carry g0 (Carries.of 0 belW10)
        have g1W10 := cell_carry g1 (Carries.of 0 belW10)
        have HRSW10 := Lib.hid (owns_after HRSW9.out hbb)
        have HRMW10 := Lib.hid (owns_after HRMW9.out hbb)
        have t0xW10 := cell_carry t0xW9 (Carries.of 0 hbb)
        have t1xW10 := cell_carry t1xW9 (Carries.of 0 hbb)
        have t2xW10 := cell_carry t2xW9 (Carries.of 0 hbb)
        have t3xW10 := cell_carry t3xW9 (Carries.of 0 hbb)
        have t4xW10 := cell_carry t4xW9 (Carries.of 0 hbb)
        have tf0W10 := (hbb.frozen (p := ⟨tb, 0, none⟩) (by show tb < _; omega)).trans tf0W9
        have tf1W10 := (hbb.frozen (p := ⟨tb, 1, none⟩) (by show tb < _; omega)).trans tf1W9
        have tf2W10 := (hbb.frozen (p := ⟨tb, 2, none⟩) (by show tb < _; omega)).trans tf2W9
        have tf3W10 := (hbb.frozen (p := ⟨tb, 3, none⟩) (by show tb < _; omega)).trans tf3W9
        have tf4W10 := (hbb.frozen (p := ⟨tb, 4, none⟩) (by show tb < _; omega)).trans tf4W9
        have ztW10 : tb < W10.heap.size := by omega
        have q0W10 := e0
        have q1W10 := e1
        clear hbb e0 e1
        refine hK.out _ _ ⟨x2W10, x3W10, x4W10, y2W10, y3W10, y4W10, g0W10, g1W10⟩ (fun hHeld => ?_)
        clear hK K
        try simp only [Act.put, List.setIfInBounds_toArray, List.set_cons_zero, List.set_cons_succ]
        refine rd16 (by kernel_rfl) (fun K hK => ?_)
        go_simp
        have hml : LabsAt 0 W10 (.slice a6 l1 k6) (movL n0 l1 s1.labs) := by
          have h := pairs_of_owns HRMW10.out
          unfold LabsAt
          rw [movL_length, ← HP1.out.2.2.2.1]
          exact PairsAt.low h (Nat.zero_le _)
        refine (concatlabs_any _ 2 _ _ s0.labs (movL n0 l1 s1.labs) W10 0 q0W10 q1W10 ((HLA.out.low (Nat.zero_le _)).keep (Carries.of 0 (hVw.trans (belW10.mono hVw.size)))) hml HS0.out.2.2.1 (by rw [movL_length]; exact HS1.out.2.2.1)).mono ?_
        rintro e W11 ⟨v7, rfl, hol, hbb⟩
        have hol2 : W11.ownsRow W10.heap.size 113 2 v7 (s0.labs.length + (movL n0 l1 s1.labs).length) (pairCells (lbX (s0.labs ++ movL n0 l1 s1.labs)) (lbY (s0.labs ++ movL n0 l1 s1.labs)) (s0.labs.length + (movL n0 l1 s1.labs).length)) := by rw [← labs_app]; exact hol
        rw [movL_length, ← HP0.out.2.2.2.1, ← HP1.out.2.2.2.1] at hol2
        obtain ⟨a7, k7, rfl⟩ := owns_form hol2
        clear hol hml
        have belW11 : Below V.heap.size V W11 := belW10.trans (hbb.mono belW10.size)
        have zdW11 := hbb.size
        have hTW11 : Below W3.heap.size W3 W11 := hTW10.trans (hbb.mono hTW10.size)
        have x2W11 := cell_carry x2 (Carries.of 0 belW11)
        have x3W11 := cell_carry x3 (Carries.of 0 belW11)
        have x4W11 := cell_carry x4 (Carries.of 0 belW11)
        have y2W11 := cell_carry y2 (Carries.of 0 belW11)
        have y3W11 := cell_carry y3 (Carries.of 0 belW11)
        have y4W11 := cell_carry y4 (Carries.of 0 belW11)
        have g0W11 := cell_carry g0 (Carries.of 0 belW11)
        have g1W11 := cell_carry g1 (Carries.of 0 belW11)
        have HRSW11 := Lib.hid (owns_after HRSW10.out hbb)
        have t0xW11 := cell_carry t0xW10 (Carries.of 0 hbb)
        have t1xW11 := cell_carry t1xW10 (Carries.of 0 hbb)
        have t2xW11 := cell_carry t2xW10 (Carries.of 0 hbb)
        have t3xW11 := cell_carry t3xW10 (Carries.of 0 hbb)
        have t4xW11 := cell_carry t4xW10 (Carries.of 0 hbb)
        have tf0W11 := (hbb.frozen (p := ⟨tb, 0, none⟩) (by show tb < _; omega)).trans tf0W10
        have tf1W11 := (hbb.frozen (p := ⟨tb, 1, none⟩) (by show tb < _; omega)).trans tf1W10
        have tf2W11 := (hbb.frozen (p := ⟨tb, 2, none⟩) (by show tb < _; omega)).trans tf2W10
        have tf3W11 := (hbb.frozen (p := ⟨tb, 3, none⟩) (by show tb < _; omega)).trans tf3W10
        have tf4W11 := (hbb.frozen (p := ⟨tb, 4, none⟩) (by show tb < _; omega)).trans tf4W10
        have ztW11 : tb < W11.heap.size := by omega
        have HRLW11 := Lib.hid hol2
        clear hol2 hbb
        refine hK.out _ _ ⟨x2W11, x3W11, x4W11, y2W11, y3W11, y4W11, g0W11, g1W11⟩ (fun hHeld => ?_)
        clear hK K
        try simp only [Act.put, List.setIfInBounds_toArray, List.set_cons_zero, List.set_cons_succ]
        refine tk22 (v := ?_) (by kernel_rfl) (by kernel_rfl) (by kernel_rfl) (by first | exact fun _ _ _ h => h | exact fun _ _ _ h => absurd h.1 (by simp)) (Or.inl ⟨by rfl, ?_⟩) (by assumption) ?_
        rotate_left 1
        focus (intro wx hSw; (try dsimp only at hSw); go_simp; try (with_reducible rfl))
        try simp only [Act.put, List.setIfInBounds_toArray, List.set_cons_zero, List.set_cons_succ]
        refine rd24 (by kernel_rfl) (fun K hK => ?_)
        go_simp
        generalize hWX : (((((W11.setCell ⟨tb, 0, none⟩ (.int .i64 P)).setCell ⟨tb, 1, none⟩ (.slice ua M uc)).setCell ⟨tb, 2, none⟩ (.slice a5 (n0 + n1) k5)).setCell ⟨tb, 3, none⟩ (.slice a7 (l0 + l1) k7)).setCell ⟨tb, 4, none⟩ (.string (t0 ++ t1))) = WX
        obtain ⟨u0, u1, u2, u3, u4⟩ := put5_cells hWX t0xW11 t1xW11 t2xW11 t3xW11 t4xW11
        have belX : Below V.heap.size V WX := put5_below hWX belW11 (by omega)
        have HRSX := Lib.hid (owns_after HRSW3.out (put5_below hWX hTW11 (by omega)))
        have HRLX := Lib.hid (put5_owns hWX HRLW11.out (by omega))
        clear hWX
        refine hK.out _ _ ⟨cell_carry x2 (Carries.of 0 belX), cell_carry x3 (Carries.of 0 belX), cell_carry x4 (Carries.of 0 belX), cell_carry y2 (Carries.of 0 belX), cell_carry y3 (Carries.of 0 belX), cell_carry y4 (Carries.of 0 belX), cell_carry g0 (Carries.of 0 belX), cell_carry g1 (Carries.of 0 belX)⟩ (fun hHeld => ?_)
        clear hK K
        try simp only [Act.put, List.setIfInBounds_toArray, List.set_cons_zero, List.set_cons_succ]
        refine wpAnyH_done (by kernel_rfl) ?_ _
        exact HK _ _ _ _ _ _ _ _ _ _ _ _ _ _ _ _ _ _ _ _ _ _ _ tb _ _ WX a5 a7 k5 k7 (hV3.trans (belX.mono hV3.size)) u0 u1 u2 u3 u4 HRSX (by omega) HRLX (by omega)
      refine ar23 (fun K hK => ?_) AllReadyH.nil
      go_simp
      have hbb : Below W2.heap.size W2 (W2.alloc (.cells #[.int .i64 0, .slice none 0 0, .slice none 0 0, .slice none 0 0, .string ⟨#[]⟩] 63)) := (Below.refl _ _).alloc (Nat.le_refl _) _
      have zt : W2.heap.size < (W2.alloc (.cells #[.int .i64 0, .slice none 0 0, .slice none 0 0, .slice none 0 0, .string ⟨#[]⟩] 63)).heap.size := by simp
      have e0 : (W2.alloc (.cells #[.int .i64 0, .slice none 0 0, .slice none 0 0, .slice none 0 0, .string ⟨#[]⟩] 63)).cell? ⟨W2.heap.size, 0, none⟩ = some (.int .i64 0) := by simp
      have e1 : (W2.alloc (.cells #[.int .i64 0, .slice none 0 0, .slice none 0 0, .slice none 0 0, .string ⟨#[]⟩] 63)).cell? ⟨W2.heap.size, 1, none⟩ = some (.slice none 0 0) := by simp
      have e2 : (W2.alloc (.cells #[.int .i64 0, .slice none 0 0, .slice none 0 0, .slice none 0 0, .string ⟨#[]⟩] 63)).cell? ⟨W2.heap.size, 2, none⟩ = some (.slice none 0 0) := by simp
      have e3 : (W2.alloc (.cells #[.int .i64 0, .slice none 0 0, .slice none 0 0, .slice none 0 0, .string ⟨#[]⟩] 63)).cell? ⟨W2.heap.size, 3, none⟩ = some (.slice none 0 0) := by simp
      have e4 : (W2.alloc (.cells #[.int .i64 0, .slice none 0 0, .slice none 0 0, .slice none 0 0, .string ⟨#[]⟩] 63)).cell? ⟨W2.heap.size, 4, none⟩ = some (.string ⟨#[]⟩) := by simp
      have f0 : (W2.alloc (.cells #[.int .i64 0, .slice none 0 0, .slice none 0 0, .slice none 0 0, .string ⟨#[]⟩] 63)).frozen? ⟨W2.heap.size, 0, none⟩ = false := by simp
      have f1 : (W2.alloc (.cells #[.int .i64 0, .slice none 0 0, .slice none 0 0, .slice none 0 0, .string ⟨#[]⟩] 63)).frozen? ⟨W2.heap.size, 1, none⟩ = false := by simp
      have f2 : (W2.alloc (.cells #[.int .i64 0, .slice none 0 0, .slice none 0 0, .slice none 0 0, .string ⟨#[]⟩] 63)).frozen? ⟨W2.heap.size, 2, none⟩ = false := by simp
      have f3 : (W2.alloc (.cells #[.int .i64 0, .slice none 0 0, .slice none 0 0, .slice none 0 0, .string ⟨#[]⟩] 63)).frozen? ⟨W2.heap.size, 3, none⟩ = false := by simp
      have f4 : (W2.alloc (.cells #[.int .i64 0, .slice none 0 0, .slice none 0 0, .slice none 0 0, .string ⟨#[]⟩] 63)).frozen? ⟨W2.heap.size, 4, none⟩ = false := by simp
      generalize W2.alloc (.cells #[.int .i64 0, .slice none 0 0, .slice none 0 0, .slice none 0 0, .string ⟨#[]⟩] 63) = W12 at hbb zt e0 e1 e2 e3 e4 f0 f1 f2 f3 f4 ⊢
      obtain ⟨tb, htb⟩ : ∃ t, t = W2.heap.size := ⟨_, rfl⟩
      rw [← htb] at zt e0 e1 e2 e3 e4 f0 f1 f2 f3 f4 ⊢
      have htl : W2.heap.size ≤ tb := by omega
      clear htb
      have belW12 : Below V.heap.size V W12 := belW2.trans (hbb.mono belW2.size)
      have zdW12 := hbb.size
      have hTW12 : Below W2.heap.size W2 W12 := hbb
      have x2W12 := cell_carry x2 (Carries.of 0 belW12)
      have x3W12 := cell_carry x3 (Carries.of 0 belW12)
      have x4W12 := cell_carry x4 (Carries.of 0 belW12)
      have y2W12 := cell_carry y2 (Carries.of 0 belW12)
      have y3W12 := cell_carry y3 (Carries.of 0 belW12)
      have y4W12 := cell_carry y4 (Carries.of 0 belW12)
      have g0W12 := cell_carry g0 (Carries.of 0 belW12)
      have g1W12 := cell_carry g1 (Carries.of 0 belW12)
      have HRSW12 := Lib.hid (owns_after HRSW2.out hbb)
      have t0xW12 := e0
      have t1xW12 := e1
      have t2xW12 := e2
      have t3xW12 := e3
      have t4xW12 := e4
      have tf0W12 := f0
      have tf1W12 := f1
      have tf2W12 := f2
      have tf3W12 := f3
      have tf4W12 := f4
      have ztW12 := zt
      clear hbb zt e0 e1 e2 e3 e4 f0 f1 f2 f3 f4
      refine hK.out _ _ ⟨x2W12, x3W12, x4W12, y2W12, y3W12, y4W12, g0W12, g1W12⟩ (fun hHeld => ?_)
      clear hK K
      try simp only [Act.put, List.setIfInBounds_toArray, List.set_cons_zero, List.set_cons_succ]
      refine rd14 (by kernel_rfl) (fun K hK => ?_)
      go_simp
      refine (movedLabels_any _ s1.labs n0 W12 lo (HLB.out.keep (Carries.of lo (hVw.trans (belW12.mono hVw.size)))) HS1.out.2.2.1 (by omega) HLOW.out).mono ?_
      rintro e W13 ⟨v6, rfl, hom, hbb⟩
      rw [← HP1.out.2.2.2.1] at hom
      obtain ⟨a6, k6, rfl⟩ := owns_form hom
      have belW13 : Below V.heap.size V W13 := belW12.trans (hbb.mono belW12.size)
      have zdW13 := hbb.size
      have hTW13 : Below W2.heap.size W2 W13 := hTW12.trans (hbb.mono hTW12.size)
      have x2W13 := cell_carry x2 (Carries.of 0 belW13)
      have x3W13 := cell_carry x3 (Carries.of 0 belW13)
      have x4W13 := cell_carry x4 (Carries.of 0 belW13)
      have y2W13 := cell_carry y2 (Carries.of 0 belW13)
      have y3W13 := cell_carry y3 (Carries.of 0 belW13)
      have y4W13 := cell_carry y4 (Carries.of 0 belW13)
      have g0W13 := cell_carry g0 (Carries.of 0 belW13)
      have g1W13 := cell_carry g1 (Carries.of 0 belW13)
      have HRSW13 := Lib.hid (owns_after HRSW12.out hbb)
      have t0xW13 := cell_carry t0xW12 (Carries.of 0 hbb)
      have t1xW13 := cell_carry t1xW12 (Carries.of 0 hbb)
      have t2xW13 := cell_carry t2xW12 (Carries.of 0 hbb)
      have t3xW13 := cell_carry t3xW12 (Carries.of 0 hbb)
      have t4xW13 := cell_carry t4xW12 (Carries.of 0 hbb)
      have tf0W13 := (hbb.frozen (p := ⟨tb, 0, none⟩) (by show tb < _; omega)).trans tf0W12
      have tf1W13 := (hbb.frozen (p := ⟨tb, 1, none⟩) (by show tb < _; omega)).trans tf1W12
      have tf2W13 := (hbb.frozen (p := ⟨tb, 2, none⟩) (by show tb < _; omega)).trans tf2W12
      have tf3W13 := (hbb.frozen (p := ⟨tb, 3, none⟩) (by show tb < _; omega)).trans tf3W12
      have tf4W13 := (hbb.frozen (p := ⟨tb, 4, none⟩) (by show tb < _; omega)).trans tf4W12
      have ztW13 : tb < W13.heap.size := by omega
      have HRMW13 := Lib.hid hom
      clear hom hbb
      refine hK.out _ _ ⟨x2W13, x3W13, x4W13, y2W13, y3W13, y4W13, g0W13, g1W13⟩ (fun hHeld => ?_)
      clear hK K
      try simp only [Act.put, List.setIfInBounds_toArray, List.set_cons_zero, List.set_cons_succ]
      refine rd15 (by kernel_rfl) (fun K hK => ?_)
      go_simp
      have hbb : Below W13.heap.size W13 (W13.alloc (.cells #[.slice a2 l0 c2, .slice a6 l1 k6] 61)) := (Below.refl _ _).alloc (Nat.le_refl _) _
      have e0 : (W13.alloc (.cells #[.slice a2 l0 c2, .slice a6 l1 k6] 61)).cell? ⟨W13.heap.size, 0, none⟩ = some (.slice a2 l0 c2) := by simp
      have e1 : (W13.alloc (.cells #[.slice a2 l0 c2, .slice a6 l1 k6] 61)).cell? ⟨W13.heap.size, 1, none⟩ = some (.slice a6 l1 k6) := by simp
      generalize W13.alloc (.cells #[.slice a2 l0 c2, .slice a6 l1 k6] 61) = W14 at hbb e0 e1 ⊢
      have belW14 : Below V.heap.size V W14 := belW13.trans (hbb.mono belW13.size)
      have zdW14 := hbb.size
      have hTW14 : Below W2.heap.size W2 W14 := hTW13.trans (hbb.mono hTW13.size)
      have x2W14 := cell_carry x2 (Carries.of 0 belW14)
      have x3W14 := cell_carry x3 (Carries.of 0 belW14)
      have x4W14 := cell_carry x4 (Carries.of 0 belW14)
      have y2W14 := cell_carry y2 (Carries.of 0 belW14)
      have y3W14 := cell_carry y3 (Carries.of 0 belW14)
      have y4W14 := cell_carry y4 (Carries.of 0 belW14)
      have g0W14 := cell_carry g0 (Carries.of 0 belW14)
      have g1W14 := cell_carry g1 (Carries.of 0 belW14)
      have HRSW14 := Lib.hid (owns_after HRSW13.out hbb)
      have t0xW14 := cell_carry t0xW13 (Carries.of 0 hbb)
      have t1xW14 := cell_carry t1xW13 (Carries.of 0 hbb)
      have t2xW14 := cell_carry t2xW13 (Carries.of 0 hbb)
      have t3xW14 := cell_carry t3xW13 (Carries.of 0 hbb)
      have t4xW14 := cell_carry t4xW13 (Carries.of 0 hbb)
      have tf0W14 := (hbb.frozen (p := ⟨tb, 0, none⟩) (by show tb < _; omega)).trans tf0W13
      have tf1W14 := (hbb.frozen (p := ⟨tb, 1, none⟩) (by show tb < _; omega)).trans tf1W13
      have tf2W14 := (hbb.frozen (p := ⟨tb, 2, none⟩) (by show tb < _; omega)).trans tf2W13
      have tf3W14 := (hbb.frozen (p := ⟨tb, 3, none⟩) (by show tb < _; omega)).trans tf3W13
      have tf4W14 := (hbb.frozen (p := ⟨tb, 4, none⟩) (by show tb < _; omega)).trans tf4W13
      have ztW14 : tb < W14.heap.size := by omega
      have HRMW14 := Lib.hid (owns_after HRMW13.out hbb)
      have q0W14 := e0
      have q1W14 := e1
      clear hbb e0 e1
      refine hK.out _ _ ⟨x2W14, x3W14, x4W14, y2W14, y3W14, y4W14, g0W14, g1W14⟩ (fun hHeld => ?_)
      clear hK K
      try simp only [Act.put, List.setIfInBounds_toArray, List.set_cons_zero, List.set_cons_succ]
      refine rd16 (by kernel_rfl) (fun K hK => ?_)
      go_simp
      have hml : LabsAt 0 W14 (.slice a6 l1 k6) (movL n0 l1 s1.labs) := by
        have h := pairs_of_owns HRMW14.out
        unfold LabsAt
        rw [movL_length, ← HP1.out.2.2.2.1]
        exact PairsAt.low h (Nat.zero_le _)
      refine (concatlabs_any _ 2 _ _ s0.labs (movL n0 l1 s1.labs) W14 0 q0W14 q1W14 ((HLA.out.low (Nat.zero_le _)).keep (Carries.of 0 (hVw.trans (belW14.mono hVw.size)))) hml HS0.out.2.2.1 (by rw [movL_length]; exact HS1.out.2.2.1)).mono ?_
      rintro e W15 ⟨v7, rfl, hol, hbb⟩
      have hol2 : W15.ownsRow W14.heap.size 113 2 v7 (s0.labs.length + (movL n0 l1 s1.labs).length) (pairCells (lbX (s0.labs ++ movL n0 l1 s1.labs)) (lbY (s0.labs ++ movL n0 l1 s1.labs)) (s0.labs.length + (movL n0 l1 s1.labs).length)) := by rw [← labs_app]; exact hol
      rw [movL_length, ← HP0.out.2.2.2.1, ← HP1.out.2.2.2.1] at hol2
      obtain ⟨a7, k7, rfl⟩ := owns_form hol2
      clear hol hml
      have belW15 : Below V.heap.size V W15 := belW14.trans (hbb.mono belW14.size)
      have zdW15 := hbb.size
      have hTW15 : Below W2.heap.size W2 W15 := hTW14.trans (hbb.mono hTW14.size)
      have x2W15 := cell_carry x2 (Carries.of 0 belW15)
      have x3W15 := cell_carry x3 (Carries.of 0 belW15)
      have x4W15 := cell_carry x4 (Carries.of 0 belW15)
      have y2W15 := cell_carry y2 (Carries.of 0 belW15)
      have y3W15 := cell_carry y3 (Carries.of 0 belW15)
      have y4W15 := cell_carry y4 (Carries.of 0 belW15)
      have g0W15 := cell_carry g0 (Carries.of 0 belW15)
      have g1W15 := cell_carry g1 (Carries.of 0 belW15)
      have HRSW15 := Lib.hid (owns_after HRSW14.out hbb)
      have t0xW15 := cell_carry t0xW14 (Carries.of 0 hbb)
      have t1xW15 := cell_carry t1xW14 (Carries.of 0 hbb)
      have t2xW15 := cell_carry t2xW14 (Carries.of 0 hbb)
      have t3xW15 := cell_carry t3xW14 (Carries.of 0 hbb)
      have t4xW15 := cell_carry t4xW14 (Carries.of 0 hbb)
      have tf0W15 := (hbb.frozen (p := ⟨tb, 0, none⟩) (by show tb < _; omega)).trans tf0W14
      have tf1W15 := (hbb.frozen (p := ⟨tb, 1, none⟩) (by show tb < _; omega)).trans tf1W14
      have tf2W15 := (hbb.frozen (p := ⟨tb, 2, none⟩) (by show tb < _; omega)).trans tf2W14
      have tf3W15 := (hbb.frozen (p := ⟨tb, 3, none⟩) (by show tb < _; omega)).trans tf3W14
      have tf4W15 := (hbb.frozen (p := ⟨tb, 4, none⟩) (by show tb < _; omega)).trans tf4W14
      have ztW15 : tb < W15.heap.size := by omega
      have HRLW15 := Lib.hid hol2
      clear hol2 hbb
      refine hK.out _ _ ⟨x2W15, x3W15, x4W15, y2W15, y3W15, y4W15, g0W15, g1W15⟩ (fun hHeld => ?_)
      clear hK K
      try simp only [Act.put, List.setIfInBounds_toArray, List.set_cons_zero, List.set_cons_succ]
      refine tk22 (v := ?_) (by kernel_rfl) (by kernel_rfl) (by kernel_rfl) (by first | exact fun _ _ _ h => h | exact fun _ _ _ h => absurd h.1 (by simp)) (Or.inl ⟨by rfl, ?_⟩) (by assumption) ?_
      rotate_left 1
      focus (intro wx hSw; (try dsimp only at hSw); go_simp; try (with_reducible rfl))
      try simp only [Act.put, List.setIfInBounds_toArray, List.set_cons_zero, List.set_cons_succ]
      refine rd24 (by kernel_rfl) (fun K hK => ?_)
      go_simp
      generalize hWX : (((((W15.setCell ⟨tb, 0, none⟩ (.int .i64 P)).setCell ⟨tb, 1, none⟩ (.slice ua M uc)).setCell ⟨tb, 2, none⟩ (.slice a5 (n0 + n1) k5)).setCell ⟨tb, 3, none⟩ (.slice a7 (l0 + l1) k7)).setCell ⟨tb, 4, none⟩ (.string (t0 ++ t1))) = WX
      obtain ⟨u0, u1, u2, u3, u4⟩ := put5_cells hWX t0xW15 t1xW15 t2xW15 t3xW15 t4xW15
      have belX : Below V.heap.size V WX := put5_below hWX belW15 (by omega)
      have HRSX := Lib.hid (owns_after HRSW2.out (put5_below hWX hTW15 (by omega)))
      have HRLX := Lib.hid (put5_owns hWX HRLW15.out (by omega))
      clear hWX
      refine hK.out _ _ ⟨cell_carry x2 (Carries.of 0 belX), cell_carry x3 (Carries.of 0 belX), cell_carry x4 (Carries.of 0 belX), cell_carry y2 (Carries.of 0 belX), cell_carry y3 (Carries.of 0 belX), cell_carry y4 (Carries.of 0 belX), cell_carry g0 (Carries.of 0 belX), cell_carry g1 (Carries.of 0 belX)⟩ (fun hHeld => ?_)
      clear hK K
      try simp only [Act.put, List.setIfInBounds_toArray, List.set_cons_zero, List.set_cons_succ]
      refine wpAnyH_done (by kernel_rfl) ?_ _
      exact HK _ _ _ _ _ _ _ _ _ _ _ _ _ _ _ _ _ _ _ _ _ _ _ tb _ _ WX a5 a7 k5 k7 (hV3.trans (belX.mono hV3.size)) u0 u1 u2 u3 u4 HRSX (by omega) HRLX (by omega)
    refine ar23 (fun K hK => ?_) AllReadyH.nil
    go_simp
    have hbb : Below W1.heap.size W1 (W1.alloc (.cells #[.int .i64 0, .slice none 0 0, .slice none 0 0, .slice none 0 0, .string ⟨#[]⟩] 63)) := (Below.refl _ _).alloc (Nat.le_refl _) _
    have zt : W1.heap.size < (W1.alloc (.cells #[.int .i64 0, .slice none 0 0, .slice none 0 0, .slice none 0 0, .string ⟨#[]⟩] 63)).heap.size := by simp
    have e0 : (W1.alloc (.cells #[.int .i64 0, .slice none 0 0, .slice none 0 0, .slice none 0 0, .string ⟨#[]⟩] 63)).cell? ⟨W1.heap.size, 0, none⟩ = some (.int .i64 0) := by simp
    have e1 : (W1.alloc (.cells #[.int .i64 0, .slice none 0 0, .slice none 0 0, .slice none 0 0, .string ⟨#[]⟩] 63)).cell? ⟨W1.heap.size, 1, none⟩ = some (.slice none 0 0) := by simp
    have e2 : (W1.alloc (.cells #[.int .i64 0, .slice none 0 0, .slice none 0 0, .slice none 0 0, .string ⟨#[]⟩] 63)).cell? ⟨W1.heap.size, 2, none⟩ = some (.slice none 0 0) := by simp
    have e3 : (W1.alloc (.cells #[.int .i64 0, .slice none 0 0, .slice none 0 0, .slice none 0 0, .string ⟨#[]⟩] 63)).cell? ⟨W1.heap.size, 3, none⟩ = some (.slice none 0 0) := by simp
    have e4 : (W1.alloc (.cells #[.int .i64 0, .slice none 0 0, .slice none 0 0, .slice none 0 0, .string ⟨#[]⟩] 63)).cell? ⟨W1.heap.size, 4, none⟩ = some (.string ⟨#[]⟩) := by simp
    have f0 : (W1.alloc (.cells #[.int .i64 0, .slice none 0 0, .slice none 0 0, .slice none 0 0, .string ⟨#[]⟩] 63)).frozen? ⟨W1.heap.size, 0, none⟩ = false := by simp
    have f1 : (W1.alloc (.cells #[.int .i64 0, .slice none 0 0, .slice none 0 0, .slice none 0 0, .string ⟨#[]⟩] 63)).frozen? ⟨W1.heap.size, 1, none⟩ = false := by simp
    have f2 : (W1.alloc (.cells #[.int .i64 0, .slice none 0 0, .slice none 0 0, .slice none 0 0, .string ⟨#[]⟩] 63)).frozen? ⟨W1.heap.size, 2, none⟩ = false := by simp
    have f3 : (W1.alloc (.cells #[.int .i64 0, .slice none 0 0, .slice none 0 0, .slice none 0 0, .string ⟨#[]⟩] 63)).frozen? ⟨W1.heap.size, 3, none⟩ = false := by simp
    have f4 : (W1.alloc (.cells #[.int .i64 0, .slice none 0 0, .slice none 0 0, .slice none 0 0, .string ⟨#[]⟩] 63)).frozen? ⟨W1.heap.size, 4, none⟩ = false := by simp
    generalize W1.alloc (.cells #[.int .i64 0, .slice none 0 0, .slice none 0 0, .slice none 0 0, .string ⟨#[]⟩] 63) = W16 at hbb zt e0 e1 e2 e3 e4 f0 f1 f2 f3 f4 ⊢
    obtain ⟨tb, htb⟩ : ∃ t, t = W1.heap.size := ⟨_, rfl⟩
    rw [← htb] at zt e0 e1 e2 e3 e4 f0 f1 f2 f3 f4 ⊢
    have htl : W1.heap.size ≤ tb := by omega
    clear htb
    have belW16 : Below V.heap.size V W16 := belW1.trans (hbb.mono belW1.size)
    have zdW16 := hbb.size
    have hTW16 : Below W1.heap.size W1 W16 := hbb
    have x2W16 := cell_carry x2 (Carries.of 0 belW16)
    have x3W16 := cell_carry x3 (Carries.of 0 belW16)
    have x4W16 := cell_carry x4 (Carries.of 0 belW16)
    have y2W16 := cell_carry y2 (Carries.of 0 belW16)
    have y3W16 := cell_carry y3 (Carries.of 0 belW16)
    have y4W16 := cell_carry y4 (Carries.of 0 belW16)
    have g0W16 := cell_carry g0 (Carries.of 0 belW16)
    have g1W16 := cell_carry g1 (Carries.of 0 belW16)
    have s0W16 := cell_carry s0W1 (Carries.of 0 hbb)
    have s1W16 := cell_carry s1W1 (Carries.of 0 hbb)
    have t0xW16 := e0
    have t1xW16 := e1
    have t2xW16 := e2
    have t3xW16 := e3
    have t4xW16 := e4
    have tf0W16 := f0
    have tf1W16 := f1
    have tf2W16 := f2
    have tf3W16 := f3
    have tf4W16 := f4
    have ztW16 := zt
    clear hbb zt e0 e1 e2 e3 e4 f0 f1 f2 f3 f4
    refine hK.out _ _ ⟨x2W16, x3W16, x4W16, y2W16, y3W16, y4W16, g0W16, g1W16⟩ (fun hHeld => ?_)
    clear hK K
    try simp only [Act.put, List.setIfInBounds_toArray, List.set_cons_zero, List.set_cons_succ]
    refine rd6 (by kernel_rfl) (fun K hK => ?_)
    go_simp
    refine (concatsigs_any _ 2 _ _ s0.sigs s1.sigs W16 lo s0W16 s1W16 (HSA.out.keep (Carries.of lo (hVw.trans (belW16.mono hVw.size)))) (HSB.out.keep (Carries.of lo (hVw.trans (belW16.mono hVw.size)))) HS0.out.2.1.1 HS1.out.2.1.1).mono ?_
    rintro e W17 ⟨v5, rfl, hos, hbb⟩
    have hos2 : W17.ownsRow W16.heap.size 118 2 v5 (s0.sigs.length + s1.sigs.length) (pairCells (sgX (s0.sigs ++ s1.sigs)) (sgY (s0.sigs ++ s1.sigs)) (s0.sigs.length + s1.sigs.length)) := by rw [← sigs_app]; exact hos
    rw [← HP0.out.2.2.1, ← HP1.out.2.2.1] at hos2
    obtain ⟨a5, k5, rfl⟩ := owns_form hos2
    clear hos
    have belW17 : Below V.heap.size V W17 := belW16.trans (hbb.mono belW16.size)
    have zdW17 := hbb.size
    have hTW17 : Below W1.heap.size W1 W17 := hTW16.trans (hbb.mono hTW16.size)
    have x2W17 := cell_carry x2 (Carries.of 0 belW17)
    have x3W17 := cell_carry x3 (Carries.of 0 belW17)
    have x4W17 := cell_carry x4 (Carries.of 0 belW17)
    have y2W17 := cell_carry y2 (Carries.of 0 belW17)
    have y3W17 := cell_carry y3 (Carries.of 0 belW17)
    have y4W17 := cell_carry y4 (Carries.of 0 belW17)
    have g0W17 := cell_carry g0 (Carries.of 0 belW17)
    have g1W17 := cell_carry g1 (Carries.of 0 belW17)
    have t0xW17 := cell_carry t0xW16 (Carries.of 0 hbb)
    have t1xW17 := cell_carry t1xW16 (Carries.of 0 hbb)
    have t2xW17 := cell_carry t2xW16 (Carries.of 0 hbb)
    have t3xW17 := cell_carry t3xW16 (Carries.of 0 hbb)
    have t4xW17 := cell_carry t4xW16 (Carries.of 0 hbb)
    have tf0W17 := (hbb.frozen (p := ⟨tb, 0, none⟩) (by show tb < _; omega)).trans tf0W16
    have tf1W17 := (hbb.frozen (p := ⟨tb, 1, none⟩) (by show tb < _; omega)).trans tf1W16
    have tf2W17 := (hbb.frozen (p := ⟨tb, 2, none⟩) (by show tb < _; omega)).trans tf2W16
    have tf3W17 := (hbb.frozen (p := ⟨tb, 3, none⟩) (by show tb < _; omega)).trans tf3W16
    have tf4W17 := (hbb.frozen (p := ⟨tb, 4, none⟩) (by show tb < _; omega)).trans tf4W16
    have ztW17 : tb < W17.heap.size := by omega
    have HRSW17 := Lib.hid hos2
    clear hos2 hbb
    refine hK.out _ _ ⟨x2W17, x3W17, x4W17, y2W17, y3W17, y4W17, g0W17, g1W17⟩ (fun hHeld => ?_)
    clear hK K
    try simp only [Act.put, List.setIfInBounds_toArray, List.set_cons_zero, List.set_cons_succ]
    refine rd14 (by kernel_rfl) (fun K hK => ?_)
    go_simp
    refine (movedLabels_any _ s1.labs n0 W17 lo (HLB.out.keep (Carries.of lo (hVw.trans (belW17.mono hVw.size)))) HS1.out.2.2.1 (by omega) HLOW.out).mono ?_
    rintro e W18 ⟨v6, rfl, hom, hbb⟩
    rw [← HP1.out.2.2.2.1] at hom
    obtain ⟨a6, k6, rfl⟩ := owns_form hom
    have belW18 : Below V.heap.size V W18 := belW17.trans (hbb.mono belW17.size)
    have zdW18 := hbb.size
    have hTW18 : Below W1.heap.size W1 W18 := hTW17.trans (hbb.mono hTW17.size)
    have x2W18 := cell_carry x2 (Carries.of 0 belW18)
    have x3W18 := cell_carry x3 (Carries.of 0 belW18)
    have x4W18 := cell_carry x4 (Carries.of 0 belW18)
    have y2W18 := cell_carry y2 (Carries.of 0 belW18)
    have y3W18 := cell_carry y3 (Carries.of 0 belW18)
    have y4W18 := cell_carry y4 (Carries.of 0 belW18)
    have g0W18 := cell_carry g0 (Carries.of 0 belW18)
    have g1W18 := cell_carry g1 (Carries.of 0 belW18)
    have t0xW18 := cell_carry t0xW17 (Carries.of 0 hbb)
    have t1xW18 := cell_carry t1xW17 (Carries.of 0 hbb)
    have t2xW18 := cell_carry t2xW17 (Carries.of 0 hbb)
    have t3xW18 := cell_carry t3xW17 (Carries.of 0 hbb)
    have t4xW18 := cell_carry t4xW17 (Carries.of 0 hbb)
    have tf0W18 := (hbb.frozen (p := ⟨tb, 0, none⟩) (by show tb < _; omega)).trans tf0W17
    have tf1W18 := (hbb.frozen (p := ⟨tb, 1, none⟩) (by show tb < _; omega)).trans tf1W17
    have tf2W18 := (hbb.frozen (p := ⟨tb, 2, none⟩) (by show tb < _; omega)).trans tf2W17
    have tf3W18 := (hbb.frozen (p := ⟨tb, 3, none⟩) (by show tb < _; omega)).trans tf3W17
    have tf4W18 := (hbb.frozen (p := ⟨tb, 4, none⟩) (by show tb < _; omega)).trans tf4W17
    have ztW18 : tb < W18.heap.size := by omega
    have HRSW18 := Lib.hid (owns_after HRSW17.out hbb)
    have HRMW18 := Lib.hid hom
    clear hom hbb
    refine hK.out _ _ ⟨x2W18, x3W18, x4W18, y2W18, y3W18, y4W18, g0W18, g1W18⟩ (fun hHeld => ?_)
    clear hK K
    try simp only [Act.put, List.setIfInBounds_toArray, List.set_cons_zero, List.set_cons_succ]
    refine rd15 (by kernel_rfl) (fun K hK => ?_)
    go_simp
    have hbb : Below W18.heap.size W18 (W18.alloc (.cells #[.slice a2 l0 c2, .slice a6 l1 k6] 61)) := (Below.refl _ _).alloc (Nat.le_refl _) _
    have e0 : (W18.alloc (.cells #[.slice a2 l0 c2, .slice a6 l1 k6] 61)).cell? ⟨W18.heap.size, 0, none⟩ = some (.slice a2 l0 c2) := by simp
    have e1 : (W18.alloc (.cells #[.slice a2 l0 c2, .slice a6 l1 k6] 61)).cell? ⟨W18.heap.size, 1, none⟩ = some (.slice a6 l1 k6) := by simp
    generalize W18.alloc (.cells #[.slice a2 l0 c2, .slice a6 l1 k6] 61) = W19 at hbb e0 e1 ⊢
    have belW19 : Below V.heap.size V W19 := belW18.trans (hbb.mono belW18.size)
    have zdW19 := hbb.size
    have hTW19 : Below W1.heap.size W1 W19 := hTW18.trans (hbb.mono hTW18.size)
    have x2W19 := cell_carry x2 (Carries.of 0 belW19)
    have x3W19 := cell_carry x3 (Carries.of 0 belW19)
    have x4W19 := cell_carry x4 (Carries.of 0 belW19)
    have y2W19 := cell_carry y2 (Carries.of 0 belW19)
    have y3W19 := cell_carry y3 (Carries.of 0 belW19)
    have y4W19 := cell_carry y4 (Carries.of 0 belW19)
    have g0W19 := cell_carry g0 (Carries.of 0 belW19)
    have g1W19 := cell_carry g1 (Carries.of 0 belW19)
    have t0xW19 := cell_carry t0xW18 (Carries.of 0 hbb)
    have t1xW19 := cell_carry t1xW18 (Carries.of 0 hbb)
    have t2xW19 := cell_carry t2xW18 (Carries.of 0 hbb)
    have t3xW19 := cell_carry t3xW18 (Carries.of 0 hbb)
    have t4xW19 := cell_carry t4xW18 (Carries.of 0 hbb)
    have tf0W19 := (hbb.frozen (p := ⟨tb, 0, none⟩) (by show tb < _; omega)).trans tf0W18
    have tf1W19 := (hbb.frozen (p := ⟨tb, 1, none⟩) (by show tb < _; omega)).trans tf1W18
    have tf2W19 := (hbb.frozen (p := ⟨tb, 2, none⟩) (by show tb < _; omega)).trans tf2W18
    have tf3W19 := (hbb.frozen (p := ⟨tb, 3, none⟩) (by show tb < _; omega)).trans tf3W18
    have tf4W19 := (hbb.frozen (p := ⟨tb, 4, none⟩) (by show tb < _; omega)).trans tf4W18
    have ztW19 : tb < W19.heap.size := by omega
    have HRSW19 := Lib.hid (owns_after HRSW18.out hbb)
    have HRMW19 := Lib.hid (owns_after HRMW18.out hbb)
    have q0W19 := e0
    have q1W19 := e1
    clear hbb e0 e1
    refine hK.out _ _ ⟨x2W19, x3W19, x4W19, y2W19, y3W19, y4W19, g0W19, g1W19⟩ (fun hHeld => ?_)
    clear hK K
    try simp only [Act.put, List.setIfInBounds_toArray, List.set_cons_zero, List.set_cons_succ]
    refine rd16 (by kernel_rfl) (fun K hK => ?_)
    go_simp
    have hml : LabsAt 0 W19 (.slice a6 l1 k6) (movL n0 l1 s1.labs) := by
      have h := pairs_of_owns HRMW19.out
      unfold LabsAt
      rw [movL_length, ← HP1.out.2.2.2.1]
      exact PairsAt.low h (Nat.zero_le _)
    refine (concatlabs_any _ 2 _ _ s0.labs (movL n0 l1 s1.labs) W19 0 q0W19 q1W19 ((HLA.out.low (Nat.zero_le _)).keep (Carries.of 0 (hVw.trans (belW19.mono hVw.size)))) hml HS0.out.2.2.1 (by rw [movL_length]; exact HS1.out.2.2.1)).mono ?_
    rintro e W20 ⟨v7, rfl, hol, hbb⟩
    have hol2 : W20.ownsRow W19.heap.size 113 2 v7 (s0.labs.length + (movL n0 l1 s1.labs).length) (pairCells (lbX (s0.labs ++ movL n0 l1 s1.labs)) (lbY (s0.labs ++ movL n0 l1 s1.labs)) (s0.labs.length + (movL n0 l1 s1.labs).length)) := by rw [← labs_app]; exact hol
    rw [movL_length, ← HP0.out.2.2.2.1, ← HP1.out.2.2.2.1] at hol2
    obtain ⟨a7, k7, rfl⟩ := owns_form hol2
    clear hol hml
    have belW20 : Below V.heap.size V W20 := belW19.trans (hbb.mono belW19.size)
    have zdW20 := hbb.size
    have hTW20 : Below W1.heap.size W1 W20 := hTW19.trans (hbb.mono hTW19.size)
    have x2W20 := cell_carry x2 (Carries.of 0 belW20)
    have x3W20 := cell_carry x3 (Carries.of 0 belW20)
    have x4W20 := cell_carry x4 (Carries.of 0 belW20)
    have y2W20 := cell_carry y2 (Carries.of 0 belW20)
    have y3W20 := cell_carry y3 (Carries.of 0 belW20)
    have y4W20 := cell_carry y4 (Carries.of 0 belW20)
    have g0W20 := cell_carry g0 (Carries.of 0 belW20)
    have g1W20 := cell_carry g1 (Carries.of 0 belW20)
    have t0xW20 := cell_carry t0xW19 (Carries.of 0 hbb)
    have t1xW20 := cell_carry t1xW19 (Carries.of 0 hbb)
    have t2xW20 := cell_carry t2xW19 (Carries.of 0 hbb)
    have t3xW20 := cell_carry t3xW19 (Carries.of 0 hbb)
    have t4xW20 := cell_carry t4xW19 (Carries.of 0 hbb)
    have tf0W20 := (hbb.frozen (p := ⟨tb, 0, none⟩) (by show tb < _; omega)).trans tf0W19
    have tf1W20 := (hbb.frozen (p := ⟨tb, 1, none⟩) (by show tb < _; omega)).trans tf1W19
    have tf2W20 := (hbb.frozen (p := ⟨tb, 2, none⟩) (by show tb < _; omega)).trans tf2W19
    have tf3W20 := (hbb.frozen (p := ⟨tb, 3, none⟩) (by show tb < _; omega)).trans tf3W19
    have tf4W20 := (hbb.frozen (p := ⟨tb, 4, none⟩) (by show tb < _; omega)).trans tf4W19
    have ztW20 : tb < W20.heap.size := by omega
    have HRSW20 := Lib.hid (owns_after HRSW19.out hbb)
    have HRLW20 := Lib.hid hol2
    clear hol2 hbb
    refine hK.out _ _ ⟨x2W20, x3W20, x4W20, y2W20, y3W20, y4W20, g0W20, g1W20⟩ (fun hHeld => ?_)
    clear hK K
    try simp only [Act.put, List.setIfInBounds_toArray, List.set_cons_zero, List.set_cons_succ]
    refine tk22 (v := ?_) (by kernel_rfl) (by kernel_rfl) (by kernel_rfl) (by first | exact fun _ _ _ h => h | exact fun _ _ _ h => absurd h.1 (by simp)) (Or.inl ⟨by rfl, ?_⟩) (by assumption) ?_
    rotate_left 1
    focus (intro wx hSw; (try dsimp only at hSw); go_simp; try (with_reducible rfl))
    try simp only [Act.put, List.setIfInBounds_toArray, List.set_cons_zero, List.set_cons_succ]
    refine rd24 (by kernel_rfl) (fun K hK => ?_)
    go_simp
    generalize hWX : (((((W20.setCell ⟨tb, 0, none⟩ (.int .i64 P)).setCell ⟨tb, 1, none⟩ (.slice ua M uc)).setCell ⟨tb, 2, none⟩ (.slice a5 (n0 + n1) k5)).setCell ⟨tb, 3, none⟩ (.slice a7 (l0 + l1) k7)).setCell ⟨tb, 4, none⟩ (.string (t0 ++ t1))) = WX
    obtain ⟨u0, u1, u2, u3, u4⟩ := put5_cells hWX t0xW20 t1xW20 t2xW20 t3xW20 t4xW20
    have belX : Below V.heap.size V WX := put5_below hWX belW20 (by omega)
    have HRSX := Lib.hid (put5_owns hWX HRSW20.out (by omega))
    have HRLX := Lib.hid (put5_owns hWX HRLW20.out (by omega))
    clear hWX
    refine hK.out _ _ ⟨cell_carry x2 (Carries.of 0 belX), cell_carry x3 (Carries.of 0 belX), cell_carry x4 (Carries.of 0 belX), cell_carry y2 (Carries.of 0 belX), cell_carry y3 (Carries.of 0 belX), cell_carry y4 (Carries.of 0 belX), cell_carry g0 (Carries.of 0 belX), cell_carry g1 (Carries.of 0 belX)⟩ (fun hHeld => ?_)
    clear hK K
    try simp only [Act.put, List.setIfInBounds_toArray, List.set_cons_zero, List.set_cons_succ]
    refine wpAnyH_done (by kernel_rfl) ?_ _
    exact HK _ _ _ _ _ _ _ _ _ _ _ _ _ _ _ _ _ _ _ _ _ _ _ tb _ _ WX a5 a7 k5 k7 (hV3.trans (belX.mono hV3.size)) u0 u1 u2 u3 u4 HRSX (by omega) HRLX (by omega)
  refine ar23 (fun K hK => ?_) AllReadyH.nil
  go_simp
  have hbb : Below V.heap.size V (V.alloc (.cells #[.int .i64 0, .slice none 0 0, .slice none 0 0, .slice none 0 0, .string ⟨#[]⟩] 63)) := (Below.refl _ _).alloc (Nat.le_refl _) _
  have zt : V.heap.size < (V.alloc (.cells #[.int .i64 0, .slice none 0 0, .slice none 0 0, .slice none 0 0, .string ⟨#[]⟩] 63)).heap.size := by simp
  have e0 : (V.alloc (.cells #[.int .i64 0, .slice none 0 0, .slice none 0 0, .slice none 0 0, .string ⟨#[]⟩] 63)).cell? ⟨V.heap.size, 0, none⟩ = some (.int .i64 0) := by simp
  have e1 : (V.alloc (.cells #[.int .i64 0, .slice none 0 0, .slice none 0 0, .slice none 0 0, .string ⟨#[]⟩] 63)).cell? ⟨V.heap.size, 1, none⟩ = some (.slice none 0 0) := by simp
  have e2 : (V.alloc (.cells #[.int .i64 0, .slice none 0 0, .slice none 0 0, .slice none 0 0, .string ⟨#[]⟩] 63)).cell? ⟨V.heap.size, 2, none⟩ = some (.slice none 0 0) := by simp
  have e3 : (V.alloc (.cells #[.int .i64 0, .slice none 0 0, .slice none 0 0, .slice none 0 0, .string ⟨#[]⟩] 63)).cell? ⟨V.heap.size, 3, none⟩ = some (.slice none 0 0) := by simp
  have e4 : (V.alloc (.cells #[.int .i64 0, .slice none 0 0, .slice none 0 0, .slice none 0 0, .string ⟨#[]⟩] 63)).cell? ⟨V.heap.size, 4, none⟩ = some (.string ⟨#[]⟩) := by simp
  have f0 : (V.alloc (.cells #[.int .i64 0, .slice none 0 0, .slice none 0 0, .slice none 0 0, .string ⟨#[]⟩] 63)).frozen? ⟨V.heap.size, 0, none⟩ = false := by simp
  have f1 : (V.alloc (.cells #[.int .i64 0, .slice none 0 0, .slice none 0 0, .slice none 0 0, .string ⟨#[]⟩] 63)).frozen? ⟨V.heap.size, 1, none⟩ = false := by simp
  have f2 : (V.alloc (.cells #[.int .i64 0, .slice none 0 0, .slice none 0 0, .slice none 0 0, .string ⟨#[]⟩] 63)).frozen? ⟨V.heap.size, 2, none⟩ = false := by simp
  have f3 : (V.alloc (.cells #[.int .i64 0, .slice none 0 0, .slice none 0 0, .slice none 0 0, .string ⟨#[]⟩] 63)).frozen? ⟨V.heap.size, 3, none⟩ = false := by simp
  have f4 : (V.alloc (.cells #[.int .i64 0, .slice none 0 0, .slice none 0 0, .slice none 0 0, .string ⟨#[]⟩] 63)).frozen? ⟨V.heap.size, 4, none⟩ = false := by simp
  generalize V.alloc (.cells #[.int .i64 0, .slice none 0 0, .slice none 0 0, .slice none 0 0, .string ⟨#[]⟩] 63) = W21 at hbb zt e0 e1 e2 e3 e4 f0 f1 f2 f3 f4 ⊢
  obtain ⟨tb, htb⟩ : ∃ t, t = V.heap.size := ⟨_, rfl⟩
  rw [← htb] at zt e0 e1 e2 e3 e4 f0 f1 f2 f3 f4 ⊢
  have htl : V.heap.size ≤ tb := by omega
  clear htb
  have belW21 : Below V.heap.size V W21 := belV.trans (hbb.mono belV.size)
  have zdW21 := hbb.size
  have hTW21 : Below V.heap.size V W21 := hbb
  have x2W21 := cell_carry x2 (Carries.of 0 belW21)
  have x3W21 := cell_carry x3 (Carries.of 0 belW21)
  have x4W21 := cell_carry x4 (Carries.of 0 belW21)
  have y2W21 := cell_carry y2 (Carries.of 0 belW21)
  have y3W21 := cell_carry y3 (Carries.of 0 belW21)
  have y4W21 := cell_carry y4 (Carries.of 0 belW21)
  have g0W21 := cell_carry g0 (Carries.of 0 belW21)
  have g1W21 := cell_carry g1 (Carries.of 0 belW21)
  have t0xW21 := e0
  have t1xW21 := e1
  have t2xW21 := e2
  have t3xW21 := e3
  have t4xW21 := e4
  have tf0W21 := f0
  have tf1W21 := f1
  have tf2W21 := f2
  have tf3W21 := f3
  have tf4W21 := f4
  have ztW21 := zt
  clear hbb zt e0 e1 e2 e3 e4 f0 f1 f2 f3 f4
  refine hK.out _ _ ⟨x2W21, x3W21, x4W21, y2W21, y3W21, y4W21, g0W21, g1W21⟩ (fun hHeld => ?_)
  clear hK K
  try simp only [Act.put, List.setIfInBounds_toArray, List.set_cons_zero, List.set_cons_succ]
  refine rd5 (by kernel_rfl) (fun K hK => ?_)
  go_simp
  have hbb : Below W21.heap.size W21 (W21.alloc (.cells #[.slice a1 n0 c1, .slice b1 n1 d1] 31)) := (Below.refl _ _).alloc (Nat.le_refl _) _
  have e0 : (W21.alloc (.cells #[.slice a1 n0 c1, .slice b1 n1 d1] 31)).cell? ⟨W21.heap.size, 0, none⟩ = some (.slice a1 n0 c1) := by simp
  have e1 : (W21.alloc (.cells #[.slice a1 n0 c1, .slice b1 n1 d1] 31)).cell? ⟨W21.heap.size, 1, none⟩ = some (.slice b1 n1 d1) := by simp
  generalize W21.alloc (.cells #[.slice a1 n0 c1, .slice b1 n1 d1] 31) = W22 at hbb e0 e1 ⊢
  have belW22 : Below V.heap.size V W22 := belW21.trans (hbb.mono belW21.size)
  have zdW22 := hbb.size
  have hTW22 : Below V.heap.size V W22 := hTW21.trans (hbb.mono hTW21.size)
  have x2W22 := cell_carry x2 (Carries.of 0 belW22)
  have x3W22 := cell_carry x3 (Carries.of 0 belW22)
  have x4W22 := cell_carry x4 (Carries.of 0 belW22)
  have y2W22 := cell_carry y2 (Carries.of 0 belW22)
  have y3W22 := cell_carry y3 (Carries.of 0 belW22)
  have y4W22 := cell_carry y4 (Carries.of 0 belW22)
  have g0W22 := cell_carry g0 (Carries.of 0 belW22)
  have g1W22 := cell_carry g1 (Carries.of 0 belW22)
  have t0xW22 := cell_carry t0xW21 (Carries.of 0 hbb)
  have t1xW22 := cell_carry t1xW21 (Carries.of 0 hbb)
  have t2xW22 := cell_carry t2xW21 (Carries.of 0 hbb)
  have t3xW22 := cell_carry t3xW21 (Carries.of 0 hbb)
  have t4xW22 := cell_carry t4xW21 (Carries.of 0 hbb)
  have tf0W22 := (hbb.frozen (p := ⟨tb, 0, none⟩) (by show tb < _; omega)).trans tf0W21
  have tf1W22 := (hbb.frozen (p := ⟨tb, 1, none⟩) (by show tb < _; omega)).trans tf1W21
  have tf2W22 := (hbb.frozen (p := ⟨tb, 2, none⟩) (by show tb < _; omega)).trans tf2W21
  have tf3W22 := (hbb.frozen (p := ⟨tb, 3, none⟩) (by show tb < _; omega)).trans tf3W21
  have tf4W22 := (hbb.frozen (p := ⟨tb, 4, none⟩) (by show tb < _; omega)).trans tf4W21
  have ztW22 : tb < W22.heap.size := by omega
  have s0W22 := e0
  have s1W22 := e1
  clear hbb e0 e1
  refine hK.out _ _ ⟨x2W22, x3W22, x4W22, y2W22, y3W22, y4W22, g0W22, g1W22⟩ (fun hHeld => ?_)
  clear hK K
  try simp only [Act.put, List.setIfInBounds_toArray, List.set_cons_zero, List.set_cons_succ]
  refine rd6 (by kernel_rfl) (fun K hK => ?_)
  go_simp
  refine (concatsigs_any _ 2 _ _ s0.sigs s1.sigs W22 lo s0W22 s1W22 (HSA.out.keep (Carries.of lo (hVw.trans (belW22.mono hVw.size)))) (HSB.out.keep (Carries.of lo (hVw.trans (belW22.mono hVw.size)))) HS0.out.2.1.1 HS1.out.2.1.1).mono ?_
  rintro e W23 ⟨v5, rfl, hos, hbb⟩
  have hos2 : W23.ownsRow W22.heap.size 118 2 v5 (s0.sigs.length + s1.sigs.length) (pairCells (sgX (s0.sigs ++ s1.sigs)) (sgY (s0.sigs ++ s1.sigs)) (s0.sigs.length + s1.sigs.length)) := by rw [← sigs_app]; exact hos
  rw [← HP0.out.2.2.1, ← HP1.out.2.2.1] at hos2
  obtain ⟨a5, k5, rfl⟩ := owns_form hos2
  clear hos
  have belW23 : Below V.heap.size V W23 := belW22.trans (hbb.mono belW22.size)
  have zdW23 := hbb.size
  have hTW23 : Below V.heap.size V W23 := hTW22.trans (hbb.mono hTW22.size)
  have x2W23 := cell_carry x2 (Carries.of 0 belW23)
  have x3W23 := cell_carry x3 (Carries.of 0 belW23)
  have x4W23 := cell_carry x4 (Carries.of 0 belW23)
  have y2W23 := cell_carry y2 (Carries.of 0 belW23)
  have y3W23 := cell_carry y3 (Carries.of 0 belW23)
  have y4W23 := cell_carry y4 (Carries.of 0 belW23)
  have g0W23 := cell_carry g0 (Carries.of 0 belW23)
  have g1W23 := cell_carry g1 (Carries.of 0 belW23)
  have t0xW23 := cell_carry t0xW22 (Carries.of 0 hbb)
  have t1xW23 := cell_carry t1xW22 (Carries.of 0 hbb)
  have t2xW23 := cell_carry t2xW22 (Carries.of 0 hbb)
  have t3xW23 := cell_carry t3xW22 (Carries.of 0 hbb)
  have t4xW23 := cell_carry t4xW22 (Carries.of 0 hbb)
  have tf0W23 := (hbb.frozen (p := ⟨tb, 0, none⟩) (by show tb < _; omega)).trans tf0W22
  have tf1W23 := (hbb.frozen (p := ⟨tb, 1, none⟩) (by show tb < _; omega)).trans tf1W22
  have tf2W23 := (hbb.frozen (p := ⟨tb, 2, none⟩) (by show tb < _; omega)).trans tf2W22
  have tf3W23 := (hbb.frozen (p := ⟨tb, 3, none⟩) (by show tb < _; omega)).trans tf3W22
  have tf4W23 := (hbb.frozen (p := ⟨tb, 4, none⟩) (by show tb < _; omega)).trans tf4W22
  have ztW23 : tb < W23.heap.size := by omega
  have HRSW23 := Lib.hid hos2
  clear hos2 hbb
  refine hK.out _ _ ⟨x2W23, x3W23, x4W23, y2W23, y3W23, y4W23, g0W23, g1W23⟩ (fun hHeld => ?_)
  clear hK K
  try simp only [Act.put, List.setIfInBounds_toArray, List.set_cons_zero, List.set_cons_succ]
  refine rd14 (by kernel_rfl) (fun K hK => ?_)
  go_simp
  refine (movedLabels_any _ s1.labs n0 W23 lo (HLB.out.keep (Carries.of lo (hVw.trans (belW23.mono hVw.size)))) HS1.out.2.2.1 (by omega) HLOW.out).mono ?_
  rintro e W24 ⟨v6, rfl, hom, hbb⟩
  rw [← HP1.out.2.2.2.1] at hom
  obtain ⟨a6, k6, rfl⟩ := owns_form hom
  have belW24 : Below V.heap.size V W24 := belW23.trans (hbb.mono belW23.size)
  have zdW24 := hbb.size
  have hTW24 : Below V.heap.size V W24 := hTW23.trans (hbb.mono hTW23.size)
  have x2W24 := cell_carry x2 (Carries.of 0 belW24)
  have x3W24 := cell_carry x3 (Carries.of 0 belW24)
  have x4W24 := cell_carry x4 (Carries.of 0 belW24)
  have y2W24 := cell_carry y2 (Carries.of 0 belW24)
  have y3W24 := cell_carry y3 (Carries.of 0 belW24)
  have y4W24 := cell_carry y4 (Carries.of 0 belW24)
  have g0W24 := cell_carry g0 (Carries.of 0 belW24)
  have g1W24 := cell_carry g1 (Carries.of 0 belW24)
  have t0xW24 := cell_carry t0xW23 (Carries.of 0 hbb)
  have t1xW24 := cell_carry t1xW23 (Carries.of 0 hbb)
  have t2xW24 := cell_carry t2xW23 (Carries.of 0 hbb)
  have t3xW24 := cell_carry t3xW23 (Carries.of 0 hbb)
  have t4xW24 := cell_carry t4xW23 (Carries.of 0 hbb)
  have tf0W24 := (hbb.frozen (p := ⟨tb, 0, none⟩) (by show tb < _; omega)).trans tf0W23
  have tf1W24 := (hbb.frozen (p := ⟨tb, 1, none⟩) (by show tb < _; omega)).trans tf1W23
  have tf2W24 := (hbb.frozen (p := ⟨tb, 2, none⟩) (by show tb < _; omega)).trans tf2W23
  have tf3W24 := (hbb.frozen (p := ⟨tb, 3, none⟩) (by show tb < _; omega)).trans tf3W23
  have tf4W24 := (hbb.frozen (p := ⟨tb, 4, none⟩) (by show tb < _; omega)).trans tf4W23
  have ztW24 : tb < W24.heap.size := by omega
  have HRSW24 := Lib.hid (owns_after HRSW23.out hbb)
  have HRMW24 := Lib.hid hom
  clear hom hbb
  refine hK.out _ _ ⟨x2W24, x3W24, x4W24, y2W24, y3W24, y4W24, g0W24, g1W24⟩ (fun hHeld => ?_)
  clear hK K
  try simp only [Act.put, List.setIfInBounds_toArray, List.set_cons_zero, List.set_cons_succ]
  refine rd15 (by kernel_rfl) (fun K hK => ?_)
  go_simp
  have hbb : Below W24.heap.size W24 (W24.alloc (.cells #[.slice a2 l0 c2, .slice a6 l1 k6] 61)) := (Below.refl _ _).alloc (Nat.le_refl _) _
  have e0 : (W24.alloc (.cells #[.slice a2 l0 c2, .slice a6 l1 k6] 61)).cell? ⟨W24.heap.size, 0, none⟩ = some (.slice a2 l0 c2) := by simp
  have e1 : (W24.alloc (.cells #[.slice a2 l0 c2, .slice a6 l1 k6] 61)).cell? ⟨W24.heap.size, 1, none⟩ = some (.slice a6 l1 k6) := by simp
  generalize W24.alloc (.cells #[.slice a2 l0 c2, .slice a6 l1 k6] 61) = W25 at hbb e0 e1 ⊢
  have belW25 : Below V.heap.size V W25 := belW24.trans (hbb.mono belW24.size)
  have zdW25 := hbb.size
  have hTW25 : Below V.heap.size V W25 := hTW24.trans (hbb.mono hTW24.size)
  have x2W25 := cell_carry x2 (Carries.of 0 belW25)
  have x3W25 := cell_carry x3 (Carries.of 0 belW25)
  have x4W25 := cell_carry x4 (Carries.of 0 belW25)
  have y2W25 := cell_carry y2 (Carries.of 0 belW25)
  have y3W25 := cell_carry y3 (Carries.of 0 belW25)
  have y4W25 := cell_carry y4 (Carries.of 0 belW25)
  have g0W25 := cell_carry g0 (Carries.of 0 belW25)
  have g1W25 := cell_carry g1 (Carries.of 0 belW25)
  have t0xW25 := cell_carry t0xW24 (Carries.of 0 hbb)
  have t1xW25 := cell_carry t1xW24 (Carries.of 0 hbb)
  have t2xW25 := cell_carry t2xW24 (Carries.of 0 hbb)
  have t3xW25 := cell_carry t3xW24 (Carries.of 0 hbb)
  have t4xW25 := cell_carry t4xW24 (Carries.of 0 hbb)
  have tf0W25 := (hbb.frozen (p := ⟨tb, 0, none⟩) (by show tb < _; omega)).trans tf0W24
  have tf1W25 := (hbb.frozen (p := ⟨tb, 1, none⟩) (by show tb < _; omega)).trans tf1W24
  have tf2W25 := (hbb.frozen (p := ⟨tb, 2, none⟩) (by show tb < _; omega)).trans tf2W24
  have tf3W25 := (hbb.frozen (p := ⟨tb, 3, none⟩) (by show tb < _; omega)).trans tf3W24
  have tf4W25 := (hbb.frozen (p := ⟨tb, 4, none⟩) (by show tb < _; omega)).trans tf4W24
  have ztW25 : tb < W25.heap.size := by omega
  have HRSW25 := Lib.hid (owns_after HRSW24.out hbb)
  have HRMW25 := Lib.hid (owns_after HRMW24.out hbb)
  have q0W25 := e0
  have q1W25 := e1
  clear hbb e0 e1
  refine hK.out _ _ ⟨x2W25, x3W25, x4W25, y2W25, y3W25, y4W25, g0W25, g1W25⟩ (fun hHeld => ?_)
  clear hK K
  try simp only [Act.put, List.setIfInBounds_toArray, List.set_cons_zero, List.set_cons_succ]
  refine rd16 (by kernel_rfl) (fun K hK => ?_)
  go_simp
  have hml : LabsAt 0 W25 (.slice a6 l1 k6) (movL n0 l1 s1.labs) := by
    have h := pairs_of_owns HRMW25.out
    unfold LabsAt
    rw [movL_length, ← HP1.out.2.2.2.1]
    exact PairsAt.low h (Nat.zero_le _)
  refine (concatlabs_any _ 2 _ _ s0.labs (movL n0 l1 s1.labs) W25 0 q0W25 q1W25 ((HLA.out.low (Nat.zero_le _)).keep (Carries.of 0 (hVw.trans (belW25.mono hVw.size)))) hml HS0.out.2.2.1 (by rw [movL_length]; exact HS1.out.2.2.1)).mono ?_
  rintro e W26 ⟨v7, rfl, hol, hbb⟩
  have hol2 : W26.ownsRow W25.heap.size 113 2 v7 (s0.labs.length + (movL n0 l1 s1.labs).length) (pairCells (lbX (s0.labs ++ movL n0 l1 s1.labs)) (lbY (s0.labs ++ movL n0 l1 s1.labs)) (s0.labs.length + (movL n0 l1 s1.labs).length)) := by rw [← labs_app]; exact hol
  rw [movL_length, ← HP0.out.2.2.2.1, ← HP1.out.2.2.2.1] at hol2
  obtain ⟨a7, k7, rfl⟩ := owns_form hol2
  clear hol hml
  have belW26 : Below V.heap.size V W26 := belW25.trans (hbb.mono belW25.size)
  have zdW26 := hbb.size
  have hTW26 : Below V.heap.size V W26 := hTW25.trans (hbb.mono hTW25.size)
  have x2W26 := cell_carry x2 (Carries.of 0 belW26)
  have x3W26 := cell_carry x3 (Carries.of 0 belW26)
  have x4W26 := cell_carry x4 (Carries.of 0 belW26)
  have y2W26 := cell_carry y2 (Carries.of 0 belW26)
  have y3W26 := cell_carry y3 (Carries.of 0 belW26)
  have y4W26 := cell_carry y4 (Carries.of 0 belW26)
  have g0W26 := cell_carry g0 (Carries.of 0 belW26)
  have g1W26 := cell_carry g1 (Carries.of 0 belW26)
  have t0xW26 := cell_carry t0xW25 (Carries.of 0 hbb)
  have t1xW26 := cell_carry t1xW25 (Carries.of 0 hbb)
  have t2xW26 := cell_carry t2xW25 (Carries.of 0 hbb)
  have t3xW26 := cell_carry t3xW25 (Carries.of 0 hbb)
  have t4xW26 := cell_carry t4xW25 (Carries.of 0 hbb)
  have tf0W26 := (hbb.frozen (p := ⟨tb, 0, none⟩) (by show tb < _; omega)).trans tf0W25
  have tf1W26 := (hbb.frozen (p := ⟨tb, 1, none⟩) (by show tb < _; omega)).trans tf1W25
  have tf2W26 := (hbb.frozen (p := ⟨tb, 2, none⟩) (by show tb < _; omega)).trans tf2W25
  have tf3W26 := (hbb.frozen (p := ⟨tb, 3, none⟩) (by show tb < _; omega)).trans tf3W25
  have tf4W26 := (hbb.frozen (p := ⟨tb, 4, none⟩) (by show tb < _; omega)).trans tf4W25
  have ztW26 : tb < W26.heap.size := by omega
  have HRSW26 := Lib.hid (owns_after HRSW25.out hbb)
  have HRLW26 := Lib.hid hol2
  clear hol2 hbb
  refine hK.out _ _ ⟨x2W26, x3W26, x4W26, y2W26, y3W26, y4W26, g0W26, g1W26⟩ (fun hHeld => ?_)
  clear hK K
  try simp only [Act.put, List.setIfInBounds_toArray, List.set_cons_zero, List.set_cons_succ]
  refine tk22 (v := ?_) (by kernel_rfl) (by kernel_rfl) (by kernel_rfl) (by first | exact fun _ _ _ h => h | exact fun _ _ _ h => absurd h.1 (by simp)) (Or.inl ⟨by rfl, ?_⟩) (by assumption) ?_
  rotate_left 1
  focus (intro wx hSw; (try dsimp only at hSw); go_simp; try (with_reducible rfl))
  try simp only [Act.put, List.setIfInBounds_toArray, List.set_cons_zero, List.set_cons_succ]
  refine rd24 (by kernel_rfl) (fun K hK => ?_)
  go_simp
  generalize hWX : (((((W26.setCell ⟨tb, 0, none⟩ (.int .i64 P)).setCell ⟨tb, 1, none⟩ (.slice ua M uc)).setCell ⟨tb, 2, none⟩ (.slice a5 (n0 + n1) k5)).setCell ⟨tb, 3, none⟩ (.slice a7 (l0 + l1) k7)).setCell ⟨tb, 4, none⟩ (.string (t0 ++ t1))) = WX
  obtain ⟨u0, u1, u2, u3, u4⟩ := put5_cells hWX t0xW26 t1xW26 t2xW26 t3xW26 t4xW26
  have belX : Below V.heap.size V WX := put5_below hWX belW26 (by omega)
  have HRSX := Lib.hid (put5_owns hWX HRSW26.out (by omega))
  have HRLX := Lib.hid (put5_owns hWX HRLW26.out (by omega))
  clear hWX
  refine hK.out _ _ ⟨cell_carry x2 (Carries.of 0 belX), cell_carry x3 (Carries.of 0 belX), cell_carry x4 (Carries.of 0 belX), cell_carry y2 (Carries.of 0 belX), cell_carry y3 (Carries.of 0 belX), cell_carry y4 (Carries.of 0 belX), cell_carry g0 (Carries.of 0 belX), cell_carry g1 (Carries.of 0 belX)⟩ (fun hHeld => ?_)
  clear hK K
  try simp only [Act.put, List.setIfInBounds_toArray, List.set_cons_zero, List.set_cons_succ]
  refine wpAnyH_done (by kernel_rfl) ?_ _
  exact HK _ _ _ _ _ _ _ _ _ _ _ _ _ _ _ _ _ _ _ _ _ _ _ tb _ _ WX a5 a7 k5 k7 (hV3.trans (belX.mono hV3.size)) u0 u1 u2 u3 u4 HRSX (by omega) HRLX (by omega)
end Go.Proofs.Ytgmnknlnlmcmfaa
