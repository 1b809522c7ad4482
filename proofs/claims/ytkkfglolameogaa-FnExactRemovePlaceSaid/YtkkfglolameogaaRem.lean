/-
  WALK: RemovePlace of the program.
-/
import Derived.Test.YtkkfglolameogaaMirr
import Derived.Test.YtkkfglolameogaaProdb
import Derived.Test.YtkkfglolameogaaClg
import Derived.StillTailTactics
import Derived.Laws.DeepStrings4
namespace Go.Proofs.Ytkkfglolameogaa
open Go.RowKit

/-- the numbers of the first j transitions above g go down by one -/
def clTs (j : Nat) (ts : List Tr) (g : Int) : List Tr := (List.range ts.length).map fun i => if i < j then (clI (ts.getD i ([], [])).1 g, clI (ts.getD i ([], [])).2 g) else ts.getD i ([], [])
theorem clTs_length (j : Nat) (ts : List Tr) (g : Int) : (clTs j ts g).length = ts.length := by simp [clTs]
theorem clTs_get {j : Nat} {ts : List Tr} {g : Int} {i : Nat} (h : i < ts.length) : (clTs j ts g).getD i ([], []) = if i < j then (clI (ts.getD i ([], [])).1 g, clI (ts.getD i ([], [])).2 g) else ts.getD i ([], []) := by simp [clTs, List.getD, h]
theorem clTs_at {j : Nat} {ts : List Tr} {g : Int} (h : j < ts.length) : (clTs j ts g).getD j ([], []) = ts.getD j ([], []) := by rw [clTs_get h, if_neg (Nat.lt_irrefl _)]
theorem clTs_new {j : Nat} {ts : List Tr} {g : Int} (h : j < ts.length) : (clTs (j + 1) ts g).getD j ([], []) = (clI (ts.getD j ([], [])).1 g, clI (ts.getD j ([], [])).2 g) := by rw [clTs_get h, if_pos (Nat.lt_succ_self _)]
theorem clTs_old {j : Nat} {ts : List Tr} {g : Int} {i : Nat} (h : i < ts.length) (hi : i ≠ j) : (clTs (j + 1) ts g).getD i ([], []) = (clTs j ts g).getD i ([], []) := by
  rw [clTs_get h, clTs_get h]
  by_cases h1 : i < j
  · rw [if_pos h1, if_pos (by omega)]
  · rw [if_neg h1, if_neg (by omega)]
def cutS (s : ByteArray) (k : Nat) : ByteArray := s.extract 0 k ++ s.extract (k + 1) s.size
def remB (s : StgD) (g : Int) : Bool := goodS s && (decide (0 ≤ g ∧ g < s.net.places) && (unusedB s.net.ts g && decide (s.net.places ≠ 1)))
def remR (s : StgD) (g : Int) : StgD := if remB s g = true then ⟨⟨s.net.places - 1, clTs s.net.ts.length s.net.ts g⟩, s.sigs, s.labs, cutS s.start g.toNat⟩ else zeroS
theorem remR_no {s : StgD} {g : Int} (h : remB s g = false) : remR s g = zeroS := by unfold remR; rw [h]; rfl
theorem remR_yes {s : StgD} {g : Int} (h : remB s g = true) : remR s g = ⟨⟨s.net.places - 1, clTs s.net.ts.length s.net.ts g⟩, s.sigs, s.labs, cutS s.start g.toNat⟩ := by unfold remR; rw [h]; rfl
theorem cutS_size {s : ByteArray} {k : Nat} (h : k < s.size) : (cutS s k).size = s.size - 1 := by
  simp [cutS, ByteArray.size_append, ByteArray.size_extract]; omega
theorem clTs_small {j : Nat} {ts : List Tr} {g : Int} (h : SmallTrs ts) : SmallTrs (clTs j ts g) :=
  ⟨by rw [clTs_length]; exact h.1, fun i hi => by
    rw [clTs_length] at hi; rw [clTs_get hi]
    split
    · simp only [clI_length]; exact h.2 i hi
    · exact h.2 i hi⟩
theorem remR_small {s : StgD} {g : Int} (h : SmallStg s) : SmallStg (remR s g) := by
  by_cases hb : remB s g = true
  · rw [remR_yes hb]
    refine ⟨clTs_small h.1, h.2.1, h.2.2.1, ?_⟩
    show (cutS s.start g.toNat).size ≤ 1048576
    have := h.2.2.2
    simp [cutS, ByteArray.size_append, ByteArray.size_extract]; omega
  · rw [remR_no (by simpa using hb)]; exact zeroS_small
theorem goodS_mark {s : StgD} (h : goodS s = true) : (s.start.size : Int) = s.net.places := by
  unfold goodS markB at h
  simp only [Bool.and_eq_true, decide_eq_true_eq] at h
  exact h.1.2.2
theorem goodS_pl {s : StgD} (h : goodS s = true) : 1 ≤ s.net.places ∧ s.net.places ≤ 30 := by
  unfold goodS goodN at h
  simp only [Bool.and_eq_true, decide_eq_true_eq] at h
  exact h.1.1.1.1

theorem Bound.le {h h' : Nat} {v : Value} (hb : Bound h v) (hl : h ≤ h') : Bound h' v := fun b off len cap hv hp => Nat.lt_of_lt_of_le (hb b off len cap hv hp) hl
theorem IntsOw.keep2 {lo l k : Nat} {w w' : World} {v : Value} {zs : List Int} (h : IntsOw lo w v zs) (hm : Marks l k w w') (hB : Bound l v) : IntsOw lo w' v zs := by
  obtain ⟨ao, cap, rfl, hc, hz⟩ := h
  refine ⟨ao, cap, rfl, hc, ?_⟩
  rcases hz with hz | ⟨b, off, rfl, hlo, hcell⟩
  · exact Or.inl hz
  · exact Or.inr ⟨b, off, rfl, hlo, fun i hi => ⟨hm.cell (Or.inl (by have := hB b off _ _ rfl (by omega); simp; omega)) (hcell i hi).1, (hm.frozen _).trans (hcell i hi).2⟩⟩
theorem SepRow.congr {c : Nat → Nat} {R : Nat} {w : World} {m k : Nat} {ts us : List Tr} (h : SepRow c R w m k ts) (he : ∀ i, i < k → us.getD i ([], []) = ts.getD i ([], [])) : SepRow c R w m k us := by
  obtain ⟨hc, f, hr, hx⟩ := h
  exact ⟨hc, f, hr, fun i hi => by rw [he i hi]; exact hx i hi⟩
/-- list number j of a row written anew: the first, then the second -/
theorem SepRow.mark2 {c : Nat → Nat} {R : Nat} {w w1 w2 : World} {m : Nat} {ts us : List Tr} {j : Nat} {v0 v1 : Value} (h : SepRow c R w m m ts) (hR : R < c 0) (hj : j < m)
    (e0 : w.cell? ⟨R, j * 2, none⟩ = some v0) (e1 : w.cell? ⟨R, j * 2 + 1, none⟩ = some v1) (m1 : Marks (c (2 * j)) (c (2 * j + 1)) w w1) (m2 : Marks (c (2 * j + 1)) (c (2 * j + 2)) w1 w2)
    (h0 : IntsOw (c (2 * j)) w1 v0 (us.getD j ([], [])).1) (h1 : IntsOw (c (2 * j + 1)) w2 v1 (us.getD j ([], [])).2) (ho : ∀ i, i < m → i ≠ j → us.getD i ([], []) = ts.getD i ([], [])) : SepRow c R w2 m m us := by
  obtain ⟨hc, f, hr, hx⟩ := h
  have l0 : ∀ i, R < c i := fun i => Nat.lt_of_lt_of_le hR (mono_le hc (Nat.zero_le i))
  have f0 : v0 = f (j * 2) := by have := hr.cell (i := j * 2) (by omega); rw [e0] at this; exact Option.some.inj this
  have f1 : v1 = f (j * 2 + 1) := by have := hr.cell (i := j * 2 + 1) (by omega); rw [e1] at this; exact Option.some.inj this
  subst f0; subst f1
  refine ⟨hc, f, (hr.of_block (m1.block _ (Or.inl (l0 _)))).of_block (m2.block _ (Or.inl (l0 _))), fun i hi => ?_⟩
  obtain ⟨⟨g0, d0⟩, g1, d1⟩ := hx i hi
  by_cases e : i = j
  · subst e
    exact ⟨⟨h0.keep2 m2 (Bound.le d0 (Nat.le_refl _)), d0⟩, h1, d1⟩
  · rw [ho i hi e]
    by_cases hlt : i < j
    · have q1 : c (2 * i + 1) ≤ c (2 * j) := mono_le hc (by omega)
      have q2 : c (2 * i + 2) ≤ c (2 * j) := mono_le hc (by omega)
      have q3 : c (2 * j) ≤ c (2 * j + 1) := hc _
      exact ⟨⟨(g0.keep2 m1 (Bound.le d0 q1)).keep2 m2 (Bound.le d0 (Nat.le_trans q1 q3)), d0⟩, (g1.keep2 m1 (Bound.le d1 q2)).keep2 m2 (Bound.le d1 (Nat.le_trans q2 q3)), d1⟩
    · have q1 : c (2 * j + 2) ≤ c (2 * i) := mono_le hc (by omega)
      have q3 : c (2 * j + 1) ≤ c (2 * j + 2) := hc _
      have q4 : c (2 * i) ≤ c (2 * i + 1) := hc _
      exact ⟨⟨(g0.above m1 (by omega)).above m2 q1, d0⟩, (g1.above m1 (by omega)).above m2 (by omega), d1⟩
theorem SepRow.same {c : Nat → Nat} {R : Nat} {w w' : World} {m k : Nat} {ts : List Tr} (h : SepRow c R w m k ts) (hR : R < c 0) (hs : Same R w w') : SepRow c R w' m k ts := by
  obtain ⟨hc, f, hr, hx⟩ := h
  have l0 : ∀ i, R < c i := fun i => Nat.lt_of_lt_of_le hR (mono_le hc (Nat.zero_le i))
  refine ⟨hc, f, hr.of_block (hs.2 R (Nat.le_refl _) hr.lt), fun i hi => ?_⟩
  obtain ⟨⟨h0, b0⟩, h1, b1⟩ := hx i hi
  exact ⟨⟨h0.keep (hs.lower (Nat.le_of_lt (l0 _))), b0⟩, h1.keep (hs.lower (Nat.le_of_lt (l0 _))), b1⟩
theorem SepRow.but {c : Nat → Nat} {R hi : Nat} {o1 o2 : Option Nat} {w w' : World} {m k : Nat} {ts : List Tr} (h : SepRow c R w m k ts) (hR : R < c 0) (hci : ∀ i, c i ≤ hi) (hs : But R o1 o2 w w') (hne : ∀ b, b < hi → some b ≠ o1 ∧ some b ≠ o2) : SepRow c R w' m k ts := by
  obtain ⟨hc, f, hr, hx⟩ := h
  have l0 : ∀ i, R < c i := fun i => Nat.lt_of_lt_of_le hR (mono_le hc (Nat.zero_le i))
  obtain ⟨n1, n2⟩ := hne R (Nat.lt_of_lt_of_le hR (hci 0))
  refine ⟨hc, f, hr.of_block (hs.2 R (Nat.le_refl _) hr.lt n1 n2), fun i hi' => ?_⟩
  obtain ⟨⟨h0, b0⟩, h1, b1⟩ := hx i hi'
  exact ⟨⟨h0.but hs (Nat.le_of_lt (l0 _)) (fun b off len cap hv hp => hne b (Nat.lt_of_lt_of_le (b0 b off len cap hv hp) (hci _))), b0⟩, h1.but hs (Nat.le_of_lt (l0 _)) (fun b off len cap hv hp => hne b (Nat.lt_of_lt_of_le (b1 b off len cap hv hp) (hci _))), b1⟩
theorem SepRow.entry {c : Nat → Nat} {R : Nat} {w : World} {m : Nat} {ts : List Tr} (h : SepRow c R w m m ts) {i : Nat} (hi : i < m) : ∃ v0 v1, w.cell? ⟨R, i * 2, none⟩ = some v0 ∧ w.cell? ⟨R, i * 2 + 1, none⟩ = some v1 ∧
    IntsOw (c (2 * i)) w v0 (ts.getD i ([], [])).1 ∧ Bound (c (2 * i + 1)) v0 ∧ IntsOw (c (2 * i + 1)) w v1 (ts.getD i ([], [])).2 ∧ Bound (c (2 * i + 2)) v1 := by
  obtain ⟨_, f, hr, hx⟩ := h
  obtain ⟨⟨h0, b0⟩, h1, b1⟩ := hx i hi
  exact ⟨_, _, hr.cell (by omega), hr.cell (by omega), h0, b0, h1, b1⟩

theorem netTrs {lo : Nat} {w : World} {p : Int} {u : Value} {n : NetD} (h : NetAt lo w (.agg #[.int .i64 p, u]) n) : TrsAt lo w u n.ts := by
  obtain ⟨_, _, u', hu, ht⟩ := h
  simp only [Value.agg.injEq, Array.mk.injEq, List.cons.injEq, and_true] at hu
  obtain ⟨_, rfl⟩ := hu
  exact ht
set_option maxRecDepth 100000 in
set_option maxHeartbeats 4000000 in
theorem RemovePlace_any (v : Value) (s : StgD) (g0 : Int) (w : World) (lo : Nat) (hv : StgAt lo w v s) (hs : SmallStg s) :
    Calls Try.prog 28 #[v, .int .i64 g0] w (RetSO w (remR s g0) (remB s g0)) := by
  obtain ⟨a0, c0, a1, c1, a2, c2, rfl, hn_, hsg, hl_⟩ := hv.form
  have HN := Lib.hid (netTrs hn_); clear hn_
  have HV := Lib.hid hv; clear hv
  have HG := Lib.hid hsg; clear hsg
  have HLA := Lib.hid hl_; clear hl_
  have HS := Lib.hid hs; clear hs
  obtain ⟨RR, hRR⟩ : ∃ R, R = (remR s g0) := ⟨_, rfl⟩
  obtain ⟨BB, hBB⟩ : ∃ B, B = (remB s g0) := ⟨_, rfl⟩
  rw [← hRR, ← hBB]
  have HR := Lib.hid hRR; clear hRR
  have HB := Lib.hid hBB; clear hBB
  obtain ⟨p, hp⟩ : ∃ x, x = s.net.places := ⟨_, rfl⟩
  obtain ⟨m, hm⟩ : ∃ x, x = s.net.ts.length := ⟨_, rfl⟩
  obtain ⟨ns, hns⟩ : ∃ x, x = s.sigs.length := ⟨_, rfl⟩
  obtain ⟨nl, hnl⟩ : ∃ x, x = s.labs.length := ⟨_, rfl⟩
  obtain ⟨st, hst⟩ : ∃ x, x = s.start := ⟨_, rfl⟩
  rw [← hp, ← hm, ← hns, ← hnl, ← hst] at HV ⊢
  rw [← hns] at HG
  rw [← hnl] at HLA
  have HP := Lib.hid (And.intro hp (And.intro hm (And.intro hns (And.intro hnl hst)))); clear hp hm hns hnl hst
  have HT := Lib.hid (show TrsAt lo w (.slice a0 m c0) s.net.ts by rw [HP.out.2.1]; exact HN.out); clear HN
  go_enter Try.func28, Try.ntmps28
  go_wp2_with fail
  refine (IsValidSTG_any _ s _ lo (HV.out.keep ?_) HS.out).mono ?_
  · (repeat' (first | (with_reducible exact Carries.refl _ _) | (with_reducible assumption) | (with_reducible refine Carries.alloc ?_ _) | (with_reducible refine Carries.drew ?_) | (with_reducible refine Carries.drewN ?_ _) | (with_reducible refine Carries.set ?_ ?_ _) | go_size))
  rintro e w1 ⟨rfl, hb⟩
  have hw1 : Below w.heap.size w w1 := by
    refine Below.trans ?_ (hb.mono ?_)
    · (repeat' (first | (with_reducible exact Below.refl _ _) | (with_reducible assumption) | (with_reducible refine Below.alloc ?_ ?_ _) | (with_reducible refine Below.drew ?_) | (with_reducible refine below_drewN ?_ _) | (with_reducible refine Below.setCell ?_ ?_ _) | go_size))
    · simp; omega
  have x0 : w1.cell? ⟨w.heap.size, 0, none⟩ = some (.int .i64 p) := cell_carry (by simp [go_sem]) (Carries.of 0 hb)
  have x1 : w1.cell? ⟨w.heap.size, 1, none⟩ = some (.slice a0 m c0) := cell_carry (by simp [go_sem]) (Carries.of 0 hb)
  have x2 : w1.cell? ⟨w.heap.size, 2, none⟩ = some (.slice a1 ns c1) := cell_carry (by simp [go_sem]) (Carries.of 0 hb)
  have x3 : w1.cell? ⟨w.heap.size, 3, none⟩ = some (.slice a2 nl c2) := cell_carry (by simp [go_sem]) (Carries.of 0 hb)
  have x4 : w1.cell? ⟨w.heap.size, 4, none⟩ = some (.string st) := cell_carry (by simp [go_sem]) (Carries.of 0 hb)
  have r0 : w1.cell? ⟨w.heap.size + 1, 0, none⟩ = some (.int .i64 0) := cell_carry (by simp [go_sem]) (Carries.of 0 hb)
  have rf0 : w1.frozen? ⟨w.heap.size + 1, 0, none⟩ = false := (hb.frozen (by simp)).trans (by simp [go_sem])
  have r1 : w1.cell? ⟨w.heap.size + 1, 1, none⟩ = some (.slice none 0 0) := cell_carry (by simp [go_sem]) (Carries.of 0 hb)
  have rf1 : w1.frozen? ⟨w.heap.size + 1, 1, none⟩ = false := (hb.frozen (by simp)).trans (by simp [go_sem])
  have r2 : w1.cell? ⟨w.heap.size + 1, 2, none⟩ = some (.slice none 0 0) := cell_carry (by simp [go_sem]) (Carries.of 0 hb)
  have rf2 : w1.frozen? ⟨w.heap.size + 1, 2, none⟩ = false := (hb.frozen (by simp)).trans (by simp [go_sem])
  have r3 : w1.cell? ⟨w.heap.size + 1, 3, none⟩ = some (.slice none 0 0) := cell_carry (by simp [go_sem]) (Carries.of 0 hb)
  have rf3 : w1.frozen? ⟨w.heap.size + 1, 3, none⟩ = false := (hb.frozen (by simp)).trans (by simp [go_sem])
  have r4 : w1.cell? ⟨w.heap.size + 1, 4, none⟩ = some (.string ⟨#[]⟩) := cell_carry (by simp [go_sem]) (Carries.of 0 hb)
  have rf4 : w1.frozen? ⟨w.heap.size + 1, 4, none⟩ = false := (hb.frozen (by simp)).trans (by simp [go_sem])
  have z1 : w.heap.size + 1 < w1.heap.size := by have := hb.size; simp at this; omega
  clear hb
  cases hg : goodS s with
  | false =>
    have hno : remB s g0 = false := by unfold remB; rw [hg]; rfl
    clear hg
    have e1 := HB.out
    rw [hno] at e1
    have e2 := HR.out
    rw [remR_no hno] at e2
    subst e1; subst e2
    go_wp2_with fail
    generalize hWX : (((((w1.setCell ⟨w.heap.size + 1, 0, none⟩ (.int .i64 0)).setCell ⟨w.heap.size + 1, 1, none⟩ (.slice none 0 0)).setCell ⟨w.heap.size + 1, 2, none⟩ (.slice none 0 0)).setCell ⟨w.heap.size + 1, 3, none⟩ (.slice none 0 0)).setCell ⟨w.heap.size + 1, 4, none⟩ (.string ⟨#[]⟩)) = WX
    obtain ⟨q0, q1, q2, q3, q4⟩ := put5_cells hWX r0 r1 r2 r3 r4
    have hbf := put5_below hWX hw1 (by omega)
    clear hWX
    refine bodyPost_ret (v := .tuple #[.agg #[.int .i64 0, .slice none 0 0, .slice none 0 0, .slice none 0 0, .string ⟨#[]⟩], .bool false]) (by simp [results, Try.results28, go_sem, q0, q1, q2, q3, q4]) rfl ?_
    exact ⟨_, rfl, (SepStg.zero _).wide hbf.size (Nat.le_refl _) (Nat.le_refl _), hbf⟩
  | true =>
  have hpl := goodS_places' hg
  have HPL := Lib.hid hpl; clear hpl
  have hpp := goodS_pl hg
  have hst := goodS_mark hg
  have HGS := Lib.hid hg; clear hg
  rw [← HP.out.1] at hpp
  rw [← HP.out.1, ← HP.out.2.2.2.2] at hst
  obtain ⟨pp1, pp2⟩ := hpp
  have HSZ := Lib.hid hst; clear hst
  by_cases hA : g0 < 0
  case pos =>
    have hno : remB s g0 = false := by unfold remB; rw [decide_eq_false (show ¬ (0 ≤ g0 ∧ g0 < s.net.places) by omega)]; simp
    have t1 : decide (g0 < 0) = true := decide_eq_true hA
    have e1 := HB.out
    rw [hno] at e1
    have e2 := HR.out
    rw [remR_no hno] at e2
    subst e1; subst e2
    go_wp2_with fail
    generalize hWX : (((((w1.setCell ⟨w.heap.size + 1, 0, none⟩ (.int .i64 0)).setCell ⟨w.heap.size + 1, 1, none⟩ (.slice none 0 0)).setCell ⟨w.heap.size + 1, 2, none⟩ (.slice none 0 0)).setCell ⟨w.heap.size + 1, 3, none⟩ (.slice none 0 0)).setCell ⟨w.heap.size + 1, 4, none⟩ (.string ⟨#[]⟩)) = WX
    obtain ⟨q0, q1, q2, q3, q4⟩ := put5_cells hWX r0 r1 r2 r3 r4
    have hbf := put5_below hWX hw1 (by omega)
    clear hWX
    refine bodyPost_ret (v := .tuple #[.agg #[.int .i64 0, .slice none 0 0, .slice none 0 0, .slice none 0 0, .string ⟨#[]⟩], .bool false]) (by simp [results, Try.results28, go_sem, q0, q1, q2, q3, q4]) rfl ?_
    exact ⟨_, rfl, (SepStg.zero _).wide hbf.size (Nat.le_refl _) (Nat.le_refl _), hbf⟩
  have t1 : decide (g0 < 0) = false := decide_eq_false hA
  by_cases hB : p ≤ g0
  case pos =>
    have hno : remB s g0 = false := by unfold remB; rw [decide_eq_false (show ¬ (0 ≤ g0 ∧ g0 < s.net.places) by have := HP.out.1; omega)]; simp
    have t2 : decide (p ≤ g0) = true := decide_eq_true hB
    have e1 := HB.out
    rw [hno] at e1
    have e2 := HR.out
    rw [remR_no hno] at e2
    subst e1; subst e2
    go_wp2_with fail
    generalize hWX : (((((w1.setCell ⟨w.heap.size + 1, 0, none⟩ (.int .i64 0)).setCell ⟨w.heap.size + 1, 1, none⟩ (.slice none 0 0)).setCell ⟨w.heap.size + 1, 2, none⟩ (.slice none 0 0)).setCell ⟨w.heap.size + 1, 3, none⟩ (.slice none 0 0)).setCell ⟨w.heap.size + 1, 4, none⟩ (.string ⟨#[]⟩)) = WX
    obtain ⟨q0, q1, q2, q3, q4⟩ := put5_cells hWX r0 r1 r2 r3 r4
    have hbf := put5_below hWX hw1 (by omega)
    clear hWX
    refine bodyPost_ret (v := .tuple #[.agg #[.int .i64 0, .slice none 0 0, .slice none 0 0, .slice none 0 0, .string ⟨#[]⟩], .bool false]) (by simp [results, Try.results28, go_sem, q0, q1, q2, q3, q4]) rfl ?_
    exact ⟨_, rfl, (SepStg.zero _).wide hbf.size (Nat.le_refl _) (Nat.le_refl _), hbf⟩
  have t2 : decide (p ≤ g0) = false := decide_eq_false hB
  obtain ⟨k, rfl⟩ : ∃ k : Nat, g0 = k := ⟨g0.toNat, by omega⟩
  have hin : decide (0 ≤ (k : Int) ∧ (k : Int) < s.net.places) = true := decide_eq_true (by have := HP.out.1; omega)
  have HIN := Lib.hid hin; clear hin
  go_wp2_with fail
  refine (isUnused_any _ _ s.net.ts (k : Int) _ lo (HT.out.keep (Carries.of lo hw1)) HS.out.1).mono ?_
  rintro e wq ⟨rfl, hb⟩
  have hwq : Below w.heap.size w wq := hw1.trans (hb.mono hw1.size)
  have x0 := cell_carry x0 (Carries.of 0 hb)
  have x1 := cell_carry x1 (Carries.of 0 hb)
  have x2 := cell_carry x2 (Carries.of 0 hb)
  have x3 := cell_carry x3 (Carries.of 0 hb)
  have x4 := cell_carry x4 (Carries.of 0 hb)
  have r0 := cell_carry r0 (Carries.of 0 hb)
  have rf0 := (hb.frozen (p := ⟨w.heap.size + 1, 0, none⟩) z1).trans rf0
  have r1 := cell_carry r1 (Carries.of 0 hb)
  have rf1 := (hb.frozen (p := ⟨w.heap.size + 1, 1, none⟩) z1).trans rf1
  have r2 := cell_carry r2 (Carries.of 0 hb)
  have rf2 := (hb.frozen (p := ⟨w.heap.size + 1, 2, none⟩) z1).trans rf2
  have r3 := cell_carry r3 (Carries.of 0 hb)
  have rf3 := (hb.frozen (p := ⟨w.heap.size + 1, 3, none⟩) z1).trans rf3
  have r4 := cell_carry r4 (Carries.of 0 hb)
  have rf4 := (hb.frozen (p := ⟨w.heap.size + 1, 4, none⟩) z1).trans rf4
  have zq : w.heap.size + 1 < wq.heap.size := by have := hb.size; omega
  clear hb hw1 z1
  cases hu : unusedB s.net.ts (k : Int) with
  | false =>
    have hno : remB s k = false := by unfold remB; rw [hu]; simp
    clear hu
    have e1 := HB.out
    rw [hno] at e1
    have e2 := HR.out
    rw [remR_no hno] at e2
    subst e1; subst e2
    go_wp2_with fail
    generalize hWX : (((((wq.setCell ⟨w.heap.size + 1, 0, none⟩ (.int .i64 0)).setCell ⟨w.heap.size + 1, 1, none⟩ (.slice none 0 0)).setCell ⟨w.heap.size + 1, 2, none⟩ (.slice none 0 0)).setCell ⟨w.heap.size + 1, 3, none⟩ (.slice none 0 0)).setCell ⟨w.heap.size + 1, 4, none⟩ (.string ⟨#[]⟩)) = WX
    obtain ⟨q0, q1, q2, q3, q4⟩ := put5_cells hWX r0 r1 r2 r3 r4
    have hbf := put5_below hWX hwq (by omega)
    clear hWX
    refine bodyPost_ret (v := .tuple #[.agg #[.int .i64 0, .slice none 0 0, .slice none 0 0, .slice none 0 0, .string ⟨#[]⟩], .bool false]) (by simp [results, Try.results28, go_sem, q0, q1, q2, q3, q4]) rfl ?_
    exact ⟨_, rfl, (SepStg.zero _).wide hbf.size (Nat.le_refl _) (Nat.le_refl _), hbf⟩
  | true =>
  by_cases hn1 : p = 1
  case pos =>
    have hno : remB s k = false := by unfold remB; rw [decide_eq_false (show ¬ s.net.places ≠ 1 by rw [← HP.out.1]; omega)]; simp
    have t3 : (p == 1) = true := by rw [beq_iff_eq]; omega
    clear hu
    have e1 := HB.out
    rw [hno] at e1
    have e2 := HR.out
    rw [remR_no hno] at e2
    subst e1; subst e2
    go_wp2_with fail
    generalize hWX : (((((wq.setCell ⟨w.heap.size + 1, 0, none⟩ (.int .i64 0)).setCell ⟨w.heap.size + 1, 1, none⟩ (.slice none 0 0)).setCell ⟨w.heap.size + 1, 2, none⟩ (.slice none 0 0)).setCell ⟨w.heap.size + 1, 3, none⟩ (.slice none 0 0)).setCell ⟨w.heap.size + 1, 4, none⟩ (.string ⟨#[]⟩)) = WX
    obtain ⟨q0, q1, q2, q3, q4⟩ := put5_cells hWX r0 r1 r2 r3 r4
    have hbf := put5_below hWX hwq (by omega)
    clear hWX
    refine bodyPost_ret (v := .tuple #[.agg #[.int .i64 0, .slice none 0 0, .slice none 0 0, .slice none 0 0, .string ⟨#[]⟩], .bool false]) (by simp [results, Try.results28, go_sem, q0, q1, q2, q3, q4]) rfl ?_
    exact ⟨_, rfl, (SepStg.zero _).wide hbf.size (Nat.le_refl _) (Nat.le_refl _), hbf⟩
  have t3 : (p == 1) = false := by rw [beq_eq_false_iff_ne]; omega
  have hyes : remB s k = true := by unfold remB; rw [HGS.out, HIN.out, hu, decide_eq_true (show s.net.places ≠ 1 by rw [← HP.out.1]; omega)]; rfl
  have HY := Lib.hid hyes; clear hyes hu HIN
  go_wp2_with fail
  refine (copySTG_any _ s _ lo (HV.out.keep (Carries.of lo hwq)) HS.out.1 (goodN_low (goodS_net HGS.out)) HS.out.2.1.1 HS.out.2.2.1).mono ?_
  rintro e w2 ⟨R, B, c, vs, vl, rfl, hR, hRc, hcB, hBw, hrow, hos, hol, hb⟩
  have hw2 : Below w.heap.size w w2 := hwq.trans (hb.mono hwq.size)
  obtain ⟨sa, sc, rfl⟩ := owns_form hos
  obtain ⟨la, lc, rfl⟩ := owns_form hol
  rw [← HP.out.2.1] at hrow
  rw [← HP.out.1, ← HP.out.2.1, ← HP.out.2.2.1, ← HP.out.2.2.2.1, ← HP.out.2.2.2.2]
  have x4 := cell_carry x4 (Carries.of 0 hb)
  have r0 := cell_carry r0 (Carries.of 0 hb)
  have rf0 := (hb.frozen (p := ⟨w.heap.size + 1, 0, none⟩) zq).trans rf0
  have r1 := cell_carry r1 (Carries.of 0 hb)
  have rf1 := (hb.frozen (p := ⟨w.heap.size + 1, 1, none⟩) zq).trans rf1
  have r2 := cell_carry r2 (Carries.of 0 hb)
  have rf2 := (hb.frozen (p := ⟨w.heap.size + 1, 2, none⟩) zq).trans rf2
  have r3 := cell_carry r3 (Carries.of 0 hb)
  have rf3 := (hb.frozen (p := ⟨w.heap.size + 1, 3, none⟩) zq).trans rf3
  have r4 := cell_carry r4 (Carries.of 0 hb)
  have rf4 := (hb.frozen (p := ⟨w.heap.size + 1, 4, none⟩) zq).trans rf4
  have z2 : wq.heap.size ≤ w2.heap.size := hb.size
  have hog : (∀ u : Value, (Value.slice sa s.sigs.length sc).ownBlock = none ∨ (Value.slice sa s.sigs.length sc).ownBlock ≠ some w2.heap.size) ∧ (∀ u : Value, (Value.slice la s.labs.length lc).ownBlock = none ∨ (Value.slice la s.labs.length lc).ownBlock ≠ some w2.heap.size) :=
    ⟨fun _ => Or.inr (fun e => by have := (hos.lt _ e).2; omega), fun _ => Or.inr (fun e => by have := (hol.lt _ e).2; omega)⟩
  have HOG := Lib.hid hog; clear hog
  have HROW := Lib.hid hrow; clear hrow
  have HOS := Lib.hid hos; clear hos
  have HOL := Lib.hid hol; clear hol
  clear hb x0 x1 x2 x3
  have q1 : (0 : Int) ≤ (k : Int) := by omega
  have q2 : (k : Int) + 1 ≤ 9223372036854775807 := by omega
  have q3 : (k : Int) ≤ (st.size : Int) := by have := HSZ.out; omega
  have q4 : (k : Int) + 1 ≤ (st.size : Int) := by have := HSZ.out; omega
  have q5 : (0 : Int) ≤ (k : Int) + 1 := by omega
  have q7 : ¬ 9223372036854775807 < min k st.size + (st.size - (k + 1)) := by have := HSZ.out; omega
  have q6 : IntKind.i64.wrap ((k : Int) + 1) = (k : Int) + 1 := IntWalk.i64_in _ ⟨by omega, by omega⟩
  clear t1 t2 t3 hA hB hn1
  go_wp2_with fail
  have hal : Below w2.heap.size w2 (w2.alloc (.cells #[.int .i64 (p - 1), .slice (some ⟨R, 0, none⟩) m m, .slice sa ns sc, .slice la nl lc, .string st] 36)) := (Below.refl _ _).alloc (Nat.le_refl _) _
  have x4 := cell_carry x4 (Carries.of 0 hal)
  have r0 := cell_carry r0 (Carries.of 0 hal)
  have rf0 := (hal.frozen (p := ⟨w.heap.size + 1, 0, none⟩) (by show w.heap.size + 1 < w2.heap.size; omega)).trans rf0
  have r1 := cell_carry r1 (Carries.of 0 hal)
  have rf1 := (hal.frozen (p := ⟨w.heap.size + 1, 1, none⟩) (by show w.heap.size + 1 < w2.heap.size; omega)).trans rf1
  have r2 := cell_carry r2 (Carries.of 0 hal)
  have rf2 := (hal.frozen (p := ⟨w.heap.size + 1, 2, none⟩) (by show w.heap.size + 1 < w2.heap.size; omega)).trans rf2
  have r3 := cell_carry r3 (Carries.of 0 hal)
  have rf3 := (hal.frozen (p := ⟨w.heap.size + 1, 3, none⟩) (by show w.heap.size + 1 < w2.heap.size; omega)).trans rf3
  have r4 := cell_carry r4 (Carries.of 0 hal)
  have rf4 := (hal.frozen (p := ⟨w.heap.size + 1, 4, none⟩) (by show w.heap.size + 1 < w2.heap.size; omega)).trans rf4
  have y0 : (w2.alloc (.cells #[.int .i64 (p - 1), .slice (some ⟨R, 0, none⟩) m m, .slice sa ns sc, .slice la nl lc, .string st] 36)).cell? ⟨w2.heap.size, 0, none⟩ = some (.int .i64 (p - 1)) := by simp
  have y1 : (w2.alloc (.cells #[.int .i64 (p - 1), .slice (some ⟨R, 0, none⟩) m m, .slice sa ns sc, .slice la nl lc, .string st] 36)).cell? ⟨w2.heap.size, 1, none⟩ = some (.slice (some ⟨R, 0, none⟩) m m) := by simp
  have y2 : (w2.alloc (.cells #[.int .i64 (p - 1), .slice (some ⟨R, 0, none⟩) m m, .slice sa ns sc, .slice la nl lc, .string st] 36)).cell? ⟨w2.heap.size, 2, none⟩ = some (.slice sa ns sc) := by simp
  have y3 : (w2.alloc (.cells #[.int .i64 (p - 1), .slice (some ⟨R, 0, none⟩) m m, .slice sa ns sc, .slice la nl lc, .string st] 36)).cell? ⟨w2.heap.size, 3, none⟩ = some (.slice la nl lc) := by simp
  have y4 : (w2.alloc (.cells #[.int .i64 (p - 1), .slice (some ⟨R, 0, none⟩) m m, .slice sa ns sc, .slice la nl lc, .string st] 36)).cell? ⟨w2.heap.size, 4, none⟩ = some (.string st) := by simp
  have yf : (w2.alloc (.cells #[.int .i64 (p - 1), .slice (some ⟨R, 0, none⟩) m m, .slice sa ns sc, .slice la nl lc, .string st] 36)).frozen? ⟨w2.heap.size, 4, none⟩ = false := by simp
  have z3 : w2.heap.size < (w2.alloc (.cells #[.int .i64 (p - 1), .slice (some ⟨R, 0, none⟩) m m, .slice sa ns sc, .slice la nl lc, .string st] 36)).heap.size := by simp
  generalize (w2.alloc (.cells #[.int .i64 (p - 1), .slice (some ⟨R, 0, none⟩) m m, .slice sa ns sc, .slice la nl lc, .string st] 36)) = W3 at hal x4 r0 r1 r2 r3 r4 rf0 rf1 rf2 rf3 rf4 y0 y1 y2 y3 y4 yf z3 ⊢
  have hw3 : Below w.heap.size w W3 := hw2.trans (hal.mono hw2.size)
  have HR3 := Lib.hid (HROW.out.keep hal)
  have HO3 := Lib.hid (owns_after HOS.out hal)
  have HL3 := Lib.hid (owns_after HOL.out hal)
  clear hal HOS HOL HROW
  refine wp_region_held_drew (S := fun w' => w'.cell? ⟨w.heap.size, 4, none⟩ = some (.string st)) (by kernel_rfl) x4 (fun hHeld => ?_)
  have hal : Below W3.heap.size W3 W3.drew := (Below.refl _ _).drew
  have x4 := cell_carry x4 (Carries.of 0 hal)
  have r0 := cell_carry r0 (Carries.of 0 hal)
  have rf0 := (hal.frozen (p := ⟨w.heap.size + 1, 0, none⟩) (by show w.heap.size + 1 < W3.heap.size; omega)).trans rf0
  have r1 := cell_carry r1 (Carries.of 0 hal)
  have rf1 := (hal.frozen (p := ⟨w.heap.size + 1, 1, none⟩) (by show w.heap.size + 1 < W3.heap.size; omega)).trans rf1
  have r2 := cell_carry r2 (Carries.of 0 hal)
  have rf2 := (hal.frozen (p := ⟨w.heap.size + 1, 2, none⟩) (by show w.heap.size + 1 < W3.heap.size; omega)).trans rf2
  have r3 := cell_carry r3 (Carries.of 0 hal)
  have rf3 := (hal.frozen (p := ⟨w.heap.size + 1, 3, none⟩) (by show w.heap.size + 1 < W3.heap.size; omega)).trans rf3
  have r4 := cell_carry r4 (Carries.of 0 hal)
  have rf4 := (hal.frozen (p := ⟨w.heap.size + 1, 4, none⟩) (by show w.heap.size + 1 < W3.heap.size; omega)).trans rf4
  have y0 := cell_carry y0 (Carries.of 0 hal)
  have y1 := cell_carry y1 (Carries.of 0 hal)
  have y2 := cell_carry y2 (Carries.of 0 hal)
  have y3 := cell_carry y3 (Carries.of 0 hal)
  have y4 := cell_carry y4 (Carries.of 0 hal)

  have yf := (hal.frozen (p := ⟨w2.heap.size, 4, none⟩) z3).trans yf
  have z4 : w2.heap.size < W3.drew.heap.size := by have := hal.size; omega
  have hw4 := hw3.trans (hal.mono hw3.size)
  have HR4 := Lib.hid (HR3.out.keep hal)
  have HO4 := Lib.hid (owns_after HO3.out hal)
  have HL4 := Lib.hid (owns_after HL3.out hal)
  clear HR3 HO3 HL3
  generalize W3.drew = W4 at hal x4 r0 r1 r2 r3 r4 rf0 rf1 rf2 rf3 rf4 y0 y1 y2 y3 y4 yf z4 hw4 HR4 HO4 HL4 hHeld ⊢
  clear hal hw3 z3
  refine tk0 (v := ?_) (by kernel_rfl) (by kernel_rfl) (by kernel_rfl) (by first | exact fun _ _ _ h => h | exact fun _ _ _ h => absurd h.1 (by simp)) (Or.inl ⟨by rfl, ?_⟩) (by assumption) ?_
  rotate_left 1
  focus (intro wx hSw; (try dsimp only at hSw); go_simp; try (with_reducible rfl))
  try simp only [Act.put, List.setIfInBounds_toArray, List.set_cons_zero, List.set_cons_succ]
  refine tk1 (v := ?_) (by kernel_rfl) (by kernel_rfl) (by kernel_rfl) (by first | exact fun _ _ _ h => h | exact fun _ _ _ h => absurd h.1 (by simp)) (Or.inl ⟨by rfl, ?_⟩) (by assumption) ?_
  rotate_left 1
  focus (intro wx hSw; (try dsimp only at hSw); go_simp; try (with_reducible rfl))
  try simp only [Act.put, List.setIfInBounds_toArray, List.set_cons_zero, List.set_cons_succ]
  refine tk2 (v := ?_) (by kernel_rfl) (by kernel_rfl) (by kernel_rfl) (by first | exact fun _ _ _ h => h | exact fun _ _ _ h => absurd h.1 (by simp)) (Or.inl ⟨by rfl, ?_⟩) (by assumption) ?_
  rotate_left 1
  focus (intro wx hSw; (try dsimp only at hSw); go_simp; try (with_reducible rfl))
  try simp only [Act.put, List.setIfInBounds_toArray, List.set_cons_zero, List.set_cons_succ]
  refine tk3 (v := ?_) (by kernel_rfl) (by kernel_rfl) (by kernel_rfl) (by first | exact fun _ _ _ h => h | exact fun _ _ _ h => absurd h.1 (by simp)) (Or.inl ⟨by rfl, ?_⟩) (by assumption) ?_
  rotate_left 1
  focus (intro wx hSw; (try dsimp only at hSw); go_simp; try (with_reducible rfl))
  try simp only [Act.put, List.setIfInBounds_toArray, List.set_cons_zero, List.set_cons_succ]
  refine tk4 (v := ?_) (by kernel_rfl) (by kernel_rfl) (by kernel_rfl) (by first | exact fun _ _ _ h => h | exact fun _ _ _ h => absurd h.1 (by simp)) (Or.inl ⟨by rfl, ?_⟩) (by assumption) ?_
  rotate_left 1
  focus (intro wx hSw; (try dsimp only at hSw); go_simp; try (with_reducible rfl))
  try simp only [Act.put, List.setIfInBounds_toArray, List.set_cons_zero, List.set_cons_succ]
  refine tk5 (v := ?_) (by kernel_rfl) (by kernel_rfl) (by kernel_rfl) (by first | exact fun _ _ _ h => h | exact fun _ _ _ h => absurd h.1 (by simp)) (Or.inl ⟨by rfl, ?_⟩) (by assumption) ?_
  rotate_left 1
  focus (intro wx hSw; (try dsimp only at hSw); go_simp; try (with_reducible rfl))
  try simp only [Act.put, List.setIfInBounds_toArray, List.set_cons_zero, List.set_cons_succ]
  refine tk6 (v := ?_) (by kernel_rfl) (by kernel_rfl) (by kernel_rfl) (by first | exact fun _ _ _ h => h | exact fun _ _ _ h => absurd h.1 (by simp)) (Or.inl ⟨by rfl, ?_⟩) (by assumption) ?_
  rotate_left 1
  focus (intro wx hSw; (try dsimp only at hSw); go_simp; try (with_reducible rfl))
  try simp only [Act.put, List.setIfInBounds_toArray, List.set_cons_zero, List.set_cons_succ]
  refine tk7 (v := ?_) (by kernel_rfl) (by kernel_rfl) (by kernel_rfl) (by first | exact fun _ _ _ h => h | exact fun _ _ _ h => absurd h.1 (by simp)) (Or.inl ⟨by rfl, ?_⟩) (by assumption) ?_
  rotate_left 1
  focus (intro wx hSw; (try dsimp only at hSw); go_simp; try (with_reducible rfl))
  try simp only [Act.put, List.setIfInBounds_toArray, List.set_cons_zero, List.set_cons_succ]
  refine tk8 (v := ?_) (by kernel_rfl) (by kernel_rfl) (by kernel_rfl) (by first | exact fun _ _ _ h => h | exact fun _ _ _ h => absurd h.1 (by simp)) (Or.inl ⟨by rfl, ?_⟩) (by assumption) ?_
  rotate_left 1
  focus (intro wx hSw; (try dsimp only at hSw); go_simp; try (with_reducible rfl))
  try simp only [Act.put, List.setIfInBounds_toArray, List.set_cons_zero, List.set_cons_succ]
  refine tk9 (v := ?_) (by kernel_rfl) (by kernel_rfl) (by kernel_rfl) (by first | exact fun _ _ _ h => h | exact fun _ _ _ h => absurd h.1 (by simp)) (Or.inl ⟨by rfl, ?_⟩) (by assumption) ?_
  rotate_left 1
  focus (intro wx hSw; (try dsimp only at hSw); go_simp; try (with_reducible rfl))
  try simp only [Act.put, List.setIfInBounds_toArray, List.set_cons_zero, List.set_cons_succ]
  refine tk10 (v := ?_) (by kernel_rfl) (by kernel_rfl) (by kernel_rfl) (by first | exact fun _ _ _ h => h | exact fun _ _ _ h => absurd h.1 (by simp)) (Or.inl ⟨by rfl, ?_⟩) (by assumption) ?_
  rotate_left 1
  focus (intro wx hSw; (try dsimp only at hSw); go_simp; try (with_reducible rfl))
  try simp only [Act.put, List.setIfInBounds_toArray, List.set_cons_zero, List.set_cons_succ]
  refine rd11 (by kernel_rfl) (fun K hK => ?_)
  go_simp
  obtain ⟨CS, hCS⟩ : ∃ CS, CS = st.extract 0 k ++ st.extract (k + 1) st.size := ⟨_, rfl⟩
  rw [← hCS]
  have HCS := Lib.hid hCS; clear hCS
  have e0 : (W4.setCell ⟨w2.heap.size, 4, none⟩ (.string CS)).cell? ⟨w2.heap.size, 0, none⟩ = some (.int .i64 (p - 1)) := (World.cell?_setCell_other _ _ _ _ (by simp)).trans y0
  have e1 : (W4.setCell ⟨w2.heap.size, 4, none⟩ (.string CS)).cell? ⟨w2.heap.size, 1, none⟩ = some (.slice (some ⟨R, 0, none⟩) m m) := (World.cell?_setCell_other _ _ _ _ (by simp)).trans y1
  have e2 : (W4.setCell ⟨w2.heap.size, 4, none⟩ (.string CS)).cell? ⟨w2.heap.size, 2, none⟩ = some (.slice sa ns sc) := (World.cell?_setCell_other _ _ _ _ (by simp)).trans y2
  have e3 : (W4.setCell ⟨w2.heap.size, 4, none⟩ (.string CS)).cell? ⟨w2.heap.size, 3, none⟩ = some (.slice la nl lc) := (World.cell?_setCell_other _ _ _ _ (by simp)).trans y3
  have e4 : (W4.setCell ⟨w2.heap.size, 4, none⟩ (.string CS)).cell? ⟨w2.heap.size, 4, none⟩ = some (.string CS) := World.cell?_setCell_same _ _ _ y4
  have r0' := (show (W4.setCell ⟨w2.heap.size, 4, none⟩ (.string CS)).cell? ⟨w.heap.size + 1, 0, none⟩ = W4.cell? ⟨w.heap.size + 1, 0, none⟩ from World.cell?_setCell_far _ _ _ _ (by simp; omega)).trans r0
  have rf0' := (show (W4.setCell ⟨w2.heap.size, 4, none⟩ (.string CS)).frozen? ⟨w.heap.size + 1, 0, none⟩ = W4.frozen? ⟨w.heap.size + 1, 0, none⟩ from World.frozen?_setCell _ _ _ _).trans rf0
  have r1' := (show (W4.setCell ⟨w2.heap.size, 4, none⟩ (.string CS)).cell? ⟨w.heap.size + 1, 1, none⟩ = W4.cell? ⟨w.heap.size + 1, 1, none⟩ from World.cell?_setCell_far _ _ _ _ (by simp; omega)).trans r1
  have rf1' := (show (W4.setCell ⟨w2.heap.size, 4, none⟩ (.string CS)).frozen? ⟨w.heap.size + 1, 1, none⟩ = W4.frozen? ⟨w.heap.size + 1, 1, none⟩ from World.frozen?_setCell _ _ _ _).trans rf1
  have r2' := (show (W4.setCell ⟨w2.heap.size, 4, none⟩ (.string CS)).cell? ⟨w.heap.size + 1, 2, none⟩ = W4.cell? ⟨w.heap.size + 1, 2, none⟩ from World.cell?_setCell_far _ _ _ _ (by simp; omega)).trans r2
  have rf2' := (show (W4.setCell ⟨w2.heap.size, 4, none⟩ (.string CS)).frozen? ⟨w.heap.size + 1, 2, none⟩ = W4.frozen? ⟨w.heap.size + 1, 2, none⟩ from World.frozen?_setCell _ _ _ _).trans rf2
  have r3' := (show (W4.setCell ⟨w2.heap.size, 4, none⟩ (.string CS)).cell? ⟨w.heap.size + 1, 3, none⟩ = W4.cell? ⟨w.heap.size + 1, 3, none⟩ from World.cell?_setCell_far _ _ _ _ (by simp; omega)).trans r3
  have rf3' := (show (W4.setCell ⟨w2.heap.size, 4, none⟩ (.string CS)).frozen? ⟨w.heap.size + 1, 3, none⟩ = W4.frozen? ⟨w.heap.size + 1, 3, none⟩ from World.frozen?_setCell _ _ _ _).trans rf3
  have r4' := (show (W4.setCell ⟨w2.heap.size, 4, none⟩ (.string CS)).cell? ⟨w.heap.size + 1, 4, none⟩ = W4.cell? ⟨w.heap.size + 1, 4, none⟩ from World.cell?_setCell_far _ _ _ _ (by simp; omega)).trans r4
  have rf4' := (show (W4.setCell ⟨w2.heap.size, 4, none⟩ (.string CS)).frozen? ⟨w.heap.size + 1, 4, none⟩ = W4.frozen? ⟨w.heap.size + 1, 4, none⟩ from World.frozen?_setCell _ _ _ _).trans rf4
  have x4' := (show (W4.setCell ⟨w2.heap.size, 4, none⟩ (.string CS)).cell? ⟨w.heap.size, 4, none⟩ = W4.cell? ⟨w.heap.size, 4, none⟩ from World.cell?_setCell_far _ _ _ _ (by simp; omega)).trans x4
  have hw5 : Below w.heap.size w (W4.setCell ⟨w2.heap.size, 4, none⟩ (.string CS)) := hw4.setCell (by show w.heap.size ≤ w2.heap.size; omega) _
  have hbut : But R (some w2.heap.size) none W4 (W4.setCell ⟨w2.heap.size, 4, none⟩ (.string CS)) := But.of (grownBy_set W4 ⟨w2.heap.size, 4, none⟩ (.string CS))
  have HR5 := Lib.hid (HR4.out.but hRc hcB hbut (fun b hb => ⟨fun e => by injection e with e; omega, fun e => by cases e⟩))
  have HO5 := Lib.hid (HO4.out.kept (grownBy_set W4 ⟨w2.heap.size, 4, none⟩ (.string CS)) (HOG.out.1 (.string CS)))
  have HL5 := Lib.hid (HL4.out.kept (grownBy_set W4 ⟨w2.heap.size, 4, none⟩ (.string CS)) (HOG.out.2 (.string CS)))
  have z5 : w2.heap.size < (W4.setCell ⟨w2.heap.size, 4, none⟩ (.string CS)).heap.size := by simpa using z4
  clear r0 r1 r2 r3 r4 rf0 rf1 rf2 rf3 rf4 y0 y1 y2 y3 y4 yf HR4 HO4 HL4 hbut hw4
  generalize (W4.setCell ⟨w2.heap.size, 4, none⟩ (.string CS)) = W5 at e0 e1 e2 e3 e4 r0' r1' r2' r3' r4' rf0' rf1' rf2' rf3' rf4' x4' hw5 HR5 HO5 HL5 z5 ⊢
  refine hK.out _ _ x4' (fun hHeld => ?_)
  clear hK K
  try simp only [Act.put, List.setIfInBounds_toArray, List.set_cons_zero, List.set_cons_succ]
  refine wpAnyH_done (by kernel_rfl) ?_ _
  clear x4 x4' q2 q3 q4 q5 q6 q7
  have HCB := Lib.hid (And.intro hcB (And.intro hRc hBw)); clear hcB
  have HTS := Lib.hid HP.out.2.1
  obtain ⟨ts, hts⟩ : ∃ ts, ts = s.net.ts := ⟨_, rfl⟩
  rw [← hts] at HR5 HTS
  have HG2 := Lib.hid (show SmallTrs ts ∧ LowTs ts by rw [hts]; exact ⟨HS.out.1, goodN_low (goodS_net HGS.out)⟩)
  have HTSE := Lib.hid hts; clear hts
  have hm8 : m ≤ 1048576 := by rw [HTS.out]; exact HG2.out.1.1
  go_wp2_with fail
  go_loopw [60] (fun i wr => ∃ j : Nat, j ≤ m ∧ i = .int .i64 j ∧ Hid (SepRow c R wr m m (clTs j ts (k : Int))) ∧ Hid (Stir (c 0) B W5 wr)) (fun i _ => m - (intOf i).toNat)
  case atStart => exact ⟨0, Nat.zero_le _, rfl, HR5.out.congr (fun i hi => by rw [clTs_get (by rw [← HTS.out]; exact hi), if_neg (Nat.not_lt_zero _)]), Stir.refl _ _ _⟩
  case round =>
    obtain ⟨j, hj, rfl, hrow, hst⟩ := hrel
    have zz := hst.out.size
    by_cases hlt : j < m
    · have hjt : j < ts.length := by rw [← HTS.out]; exact hlt
      obtain ⟨v0, v1, d0, d1, i0, b0, i1, b1⟩ := hrow.out.entry hlt
      rw [clTs_at hjt] at i0 i1
      obtain ⟨sx0, sx1⟩ := HG2.out.1.2 j hjt
      obtain ⟨lx0, lx1⟩ := HG2.out.2 j hjt
      have hnew := clTs_new (g := (k : Int)) hjt
      obtain ⟨X, hX⟩ : ∃ X, X = ts.getD j ([], []) := ⟨_, rfl⟩
      rw [← hX] at i0 i1 sx0 sx1 lx0 lx1 hnew
      clear hX
      obtain ⟨xa0, xk0, rfl, _, _⟩ := id i0
      obtain ⟨xa1, xk1, rfl, _, _⟩ := id i1
      have hal : Below wr.heap.size wr (wr.alloc (.cells #[.slice xa0 X.1.length xk0, .slice xa1 X.2.length xk1] 64)) := (Below.refl _ _).alloc (Nat.le_refl _) _
      have I0 := Lib.hid (i0.keep (Same.of _ hal)); clear i0
      have I1 := Lib.hid (i1.keep (Same.of _ hal)); clear i1
      have B0 := Lib.hid b0; clear b0
      have B1 := Lib.hid b1; clear b1
      have L0 := Lib.hid lx0; clear lx0
      have L1 := Lib.hid lx1; clear lx1
      have HNW := Lib.hid hnew; clear hnew
      have d0' := cell_carry d0 (Carries.of 0 hal)
      have d1' := cell_carry d1 (Carries.of 0 hal)
      have HRA := Lib.hid (hrow.out.keep hal)
      have HSA := Lib.hid (hst.out.trans (Stir.of (c 0) B hal))
      have hm1 : c (2 * j) ≤ c (2 * j + 1) := hrow.out.1 _
      have hm2 : c (2 * j + 1) ≤ c (2 * j + 2) := hrow.out.1 _
      have hm0 : c 0 ≤ c (2 * j) := mono_le hrow.out.1 (Nat.zero_le _)
      have hm3 : c (2 * j + 2) ≤ B := HCB.out.1 _
      have hzw : W5.heap.size ≤ wr.heap.size := zz
      clear hal hrow hst
      go_wp2_with fail
      have t1 : (wr.alloc (.cells #[.slice xa0 X.1.length xk0, .slice xa1 X.2.length xk1] 64)).cell? ⟨wr.heap.size, 1, none⟩ = some (.slice xa1 X.2.length xk1) := by simp
      clear d0 d1
      generalize wr.alloc (.cells #[.slice xa0 X.1.length xk0, .slice xa1 X.2.length xk1] 64) = WA at I0 I1 d0' d1' HRA HSA t1 ⊢
      refine (closeGap_any _ X.1 (k : Int) _ (c (2 * j)) (c (2 * j + 1)) I0.out B0.out sx0 L0.out q1).mono ?_
      rintro e w6 ⟨rfl, k1, j0⟩
      have J0 := Lib.hid j0; clear j0
      have I1' := Lib.hid (I1.out.above k1 (Nat.le_refl _)); clear I1
      have t1 := k1.cell (Or.inr (by show c (2 * j + 1) ≤ wr.heap.size; omega)) t1
      have K1 := Lib.hid k1; clear k1
      go_wp2_with fail
      refine (closeGap_any _ X.2 (k : Int) _ (c (2 * j + 1)) (c (2 * j + 2)) I1'.out B1.out sx1 L1.out q1).mono ?_
      rintro e w7 ⟨rfl, k2, j1⟩
      have HR7 : Hid (SepRow c R w7 m m (clTs (j + 1) ts (k : Int))) := HRA.out.mark2 hRc hlt d0' d1' K1.out k2 (by rw [HNW.out]; exact J0.out) (by rw [HNW.out]; exact j1) (fun i hi hne => clTs_old (by rw [← HTS.out]; exact hi) hne)
      have HS7 := Lib.hid ((HSA.out.trans (K1.out.stir.wide hm0 (by omega))).trans (k2.stir.wide (by omega) hm3))
      clear k2 j1 t1 d0' d1' HSA HRA
      go_wp2_with fail
      go_roundw
      case rel => exact ⟨j + 1, by omega, by go_num, HR7.out, HS7.out⟩
      case measure => simp [intOf]; omega
    · have hjj : j = m := by omega
      subst hjj
      have e1_ := HB.out
      rw [HY.out] at e1_
      have e2_ := HR.out
      rw [remR_yes HY.out, ← HTSE.out, ← HTS.out, ← HP.out.1, ← HP.out.2.2.2.2, Int.toNat_natCast, show cutS st k = CS from HCS.out.symm] at e2_
      subst e1_; subst e2_
      have HR8 := Lib.hid hrow.out; clear hrow
      have HO8 := Lib.hid (owns_same HO5.out (hst.out.sameOf (Nat.le_refl _)))
      have HL8 := Lib.hid (owns_same HL5.out (hst.out.sameOf (Nat.le_refl _)))
      have e0 := hst.out.cell (Or.inr (by show B ≤ w2.heap.size; have := HCB.out.2.2; omega)) e0
      have r0 := hst.out.cell (Or.inl (by show w.heap.size + 1 < c 0; omega)) r0'
      have rf0 := (hst.out.frozen (a := ⟨w.heap.size + 1, 0, none⟩) (Or.inl (by show w.heap.size + 1 < c 0; omega)) (by show w.heap.size + 1 < W5.heap.size; omega)).trans rf0'
      have e1 := hst.out.cell (Or.inr (by show B ≤ w2.heap.size; have := HCB.out.2.2; omega)) e1
      have r1 := hst.out.cell (Or.inl (by show w.heap.size + 1 < c 0; omega)) r1'
      have rf1 := (hst.out.frozen (a := ⟨w.heap.size + 1, 1, none⟩) (Or.inl (by show w.heap.size + 1 < c 0; omega)) (by show w.heap.size + 1 < W5.heap.size; omega)).trans rf1'
      have e2 := hst.out.cell (Or.inr (by show B ≤ w2.heap.size; have := HCB.out.2.2; omega)) e2
      have r2 := hst.out.cell (Or.inl (by show w.heap.size + 1 < c 0; omega)) r2'
      have rf2 := (hst.out.frozen (a := ⟨w.heap.size + 1, 2, none⟩) (Or.inl (by show w.heap.size + 1 < c 0; omega)) (by show w.heap.size + 1 < W5.heap.size; omega)).trans rf2'
      have e3 := hst.out.cell (Or.inr (by show B ≤ w2.heap.size; have := HCB.out.2.2; omega)) e3
      have r3 := hst.out.cell (Or.inl (by show w.heap.size + 1 < c 0; omega)) r3'
      have rf3 := (hst.out.frozen (a := ⟨w.heap.size + 1, 3, none⟩) (Or.inl (by show w.heap.size + 1 < c 0; omega)) (by show w.heap.size + 1 < W5.heap.size; omega)).trans rf3'
      have e4 := hst.out.cell (Or.inr (by show B ≤ w2.heap.size; have := HCB.out.2.2; omega)) e4
      have r4 := hst.out.cell (Or.inl (by show w.heap.size + 1 < c 0; omega)) r4'
      have rf4 := (hst.out.frozen (a := ⟨w.heap.size + 1, 4, none⟩) (Or.inl (by show w.heap.size + 1 < c 0; omega)) (by show w.heap.size + 1 < W5.heap.size; omega)).trans rf4'
      have hwr := hst.out.below hw5 (by omega) (by omega)
      clear hst
      go_wp2_with fail
      generalize hWX : (((((wr.setCell ⟨w.heap.size + 1, 0, none⟩ (.int .i64 (p - 1))).setCell ⟨w.heap.size + 1, 1, none⟩ (.slice (some ⟨R, 0, none⟩) j j)).setCell ⟨w.heap.size + 1, 2, none⟩ (.slice sa ns sc)).setCell ⟨w.heap.size + 1, 3, none⟩ (.slice la nl lc)).setCell ⟨w.heap.size + 1, 4, none⟩ (.string CS)) = WX
      obtain ⟨p0, p1, p2, p3, p4⟩ := put5_cells hWX r0 r1 r2 r3 r4
      have hbf := put5_below hWX hwr (by omega)
      have hsm := put5_same hWX (B := R) (by omega)
      have hrz : WX.heap.size = wr.heap.size := by rw [← hWX]; simp
      clear hWX
      refine bodyPost_ret (v := .tuple #[.agg #[.int .i64 (p - 1), .slice (some ⟨R, 0, none⟩) j j, .slice sa ns sc, .slice la nl lc, .string CS], .bool true]) (by simp [results, Try.results28, go_sem, p0, p1, p2, p3, p4]) rfl ?_
      have hlen := clTs_length j ts (k : Int)
      have hret : RetCopyS w ⟨⟨p - 1, clTs j ts (k : Int)⟩, s.sigs, s.labs, CS⟩ (.returned (.agg #[.int .i64 (p - 1), .slice (some ⟨R, 0, none⟩) j j, .slice sa ns sc, .slice la nl lc, .string CS])) WX :=
        ⟨R, B, c, _, _, by simp only [hlen, ← HTS.out, HP.out.2.2.1, HP.out.2.2.2.1], by omega, by omega, HCB.out.1, by rw [hrz]; have := HCB.out.2.2; omega, by rw [show (clTs j ts (k : Int)).length = j by rw [hlen]; exact HTS.out.symm]; exact HR8.out.same (by omega) hsm, owns_same HO8.out (hsm.lower (by have := HCB.out.1 0; omega)), owns_same HL8.out (hsm.lower (by have := HCB.out.1 0; omega)), hbf⟩
      obtain ⟨vv, e, hsep, hb⟩ := hret.sep (by show -9223372036854775808 ≤ p - 1 ∧ p - 1 ≤ 9223372036854775807; omega)
      simp only [Ending.returned.injEq] at e
      subst e
      exact ⟨_, rfl, hsep, hb⟩

end Go.Proofs.Ytkkfglolameogaa
