/- VIOLATIONS COMPARED: '=='; slices.Index, slices.Contains of a violation; the trace of a violation as data. -/
import Derived.Test.YtnmoocgocnjdjaaGreatVShj
import Derived.Test.YtnmoocgocnjdjaaGreatVStgm
import Derived.Test.YtnmoocgocnjdjaaGreatVSpd
namespace Go.Proofs.YtnmoocgocnjdjaaGreat
open Go.RowKit

theorem eqlPv_run (f s t f' s' t' : Int) (w : World) :
    (binOp .eql 82 (.agg #[.int .i64 f, .int .i64 s, .int .i64 t]) (.agg #[.int .i64 f', .int .i64 s', .int .i64 t'])).run Tryz.prog w = .ok (.bool (decide ((f, s, t) = (f', s', t')))) w := by
  by_cases h1 : f = f'
  · by_cases h2 : s = s'
    · by_cases h4 : t = t'
      · subst h1; subst h2; subst h4
        simp [go_sem]
      · subst h1; subst h2
        have e : (t == t') = false := by simpa using h4
        simp [go_sem, e, h4]
    · subst h1
      have e : (s == s') = false := by simpa using h2
      simp [go_sem, e, h2]
  · have e : (f == f') = false := by simpa using h1
    simp [go_sem, e, h1]

/-- violation k is this one -/
def pvIs (C : List Mv) (f s t : Int) (k : Nat) : Bool := decide ((f, s, t) = (mvF C k, mvB C k, mvT C k))
def pvHas (C : List Mv) (f s t : Int) : Bool := anyTo C.length (pvIs C f s t)
theorem pvHas_mem {C : List Mv} {f s t : Int} (h : pvHas C f s t = true) : (f, s, t) ∈ C := by
  obtain ⟨k, hk, he⟩ := anyTo_get h
  have he := of_decide_eq_true he
  have h1 : C[k]? = some C[k] := List.getElem?_eq_getElem hk
  have h2 : C.getD k (0, 0, 0) = C[k] := by simp [List.getD, h1]
  have h3 : (f, s, t) = C[k] := by
    rw [he]
    show ((C.getD k (0, 0, 0)).1, (C.getD k (0, 0, 0)).2.1, (C.getD k (0, 0, 0)).2.2) = C[k]
    rw [h2]
  rw [h3]
  exact List.getElem_mem hk

set_option maxRecDepth 100000 in
set_option maxHeartbeats 1000000 in
theorem IndexPv_any (v : Value) (C : List Mv) (f s t : Int) (w : World) (lo : Nat) (hv : MovesAt lo w v C) (hl : C.length ≤ 1048576) :
    Calls Tryz.prog 149 #[v, .agg #[.int .i64 f, .int .i64 s, .int .i64 t]] w (RetIx w (anyTo C.length (pvIs C f s t))) := by
  obtain ⟨g, hg⟩ : ∃ g, g = pvIs C f s t := ⟨_, rfl⟩
  rw [← hg]
  obtain ⟨q, hq⟩ : ∃ q, q = anyTo C.length g := ⟨_, rfl⟩
  rw [← hq]
  have HQ := Lib.hid hq; clear hq
  have HG := Lib.hid hg; clear hg
  obtain ⟨ao, cap, rfl, hc, hz⟩ := hv
  have HF := Lib.hid hz; clear hz
  go_enter Tryz.func149, Tryz.ntmps149
  have hW : Below w.heap.size w (w.alloc (.cells #[.int .i64 f, .int .i64 s, .int .i64 t] 82)) := (Below.refl _ _).alloc (Nat.le_refl _) _
  go_wp2_with fail
  have x0 : (w.alloc (.cells #[.int .i64 f, .int .i64 s, .int .i64 t] 82)).cell? ⟨w.heap.size, 0, none⟩ = some (.int .i64 f) := by simp
  have x1 : (w.alloc (.cells #[.int .i64 f, .int .i64 s, .int .i64 t] 82)).cell? ⟨w.heap.size, 1, none⟩ = some (.int .i64 s) := by simp
  have x3 : (w.alloc (.cells #[.int .i64 f, .int .i64 s, .int .i64 t] 82)).cell? ⟨w.heap.size, 2, none⟩ = some (.int .i64 t) := by simp
  have zW : w.heap.size < (w.alloc (.cells #[.int .i64 f, .int .i64 s, .int .i64 t] 82)).heap.size := by simp
  generalize w.alloc (.cells #[.int .i64 f, .int .i64 s, .int .i64 t] 82) = W at hW x0 x1 x3 zW ⊢
  go_loopw [8] (fun i wr => ∃ k : Nat, k ≤ C.length ∧ i = .int .i64 k ∧ Hid (∀ j, j < k → g j = false) ∧ Below W.heap.size W wr) (fun i _ => C.length - (intOf i).toNat)
  case atStart => exact ⟨0, Nat.zero_le _, rfl, fun j hj => absurd hj (Nat.not_lt_zero _), Below.refl _ _⟩
  case round =>
    obtain ⟨k, hk, rfl, hall, hb1⟩ := hrel
    have hw1 : Below w.heap.size w wr := hW.trans (hb1.mono hW.size)
    by_cases hlt : k < C.length
    · rcases HF.out with h0 | ⟨b, off, rfl, hlo, hcell⟩
      · omega
      obtain ⟨q0, q1, q3⟩ := hcell k hlt
      have d0 := Carries.of lo hw1 _ _ hlo q0
      have d1 := Carries.of lo hw1 _ _ hlo q1
      have d3 := Carries.of lo hw1 _ _ hlo q3
      have y0 := cell_keep x0 hb1 (Nat.le_refl _)
      have y1 := cell_keep x1 hb1 (Nat.le_refl _)
      have y3 := cell_keep x3 hb1 (Nat.le_refl _)
      clear hcell q0 q1 q3
      have hgk : decide ((f, s, t) = (mvF C k, mvB C k, mvT C k)) = g k := by rw [HG.out]; rfl
      have hrun := fun w' => (eqlPv_run f s t (mvF C k) (mvB C k) (mvT C k) w').trans (by rw [hgk])
      clear hgk
      try dsimp only at d0 d1 d3
      generalize mvF C k = e0 at d0 hrun
      generalize mvB C k = e1 at d1 hrun
      generalize mvT C k = e3 at d3 hrun
      cases hk2 : g k with
      | false =>
        have H2 : Hid (∀ j, j < k + 1 → g j = false) := by
          intro j hj
          by_cases ej : j = k
          · subst ej; exact hk2
          · exact hall.out j (by omega)
        rw [hk2] at hrun
        clear hk2
        go_wp2
        go_quiet (fail)
        go_wp2_with fail
        go_roundw
        case rel => exact ⟨k + 1, by omega, by go_num, H2, below_drewN hb1 _⟩
        case measure => simp [intOf]; omega
      | true =>
        have e := HQ.out
        rw [anyTo_true hlt hk2] at e
        subst e
        rw [hk2] at hrun
        clear hk2
        go_wp2
        go_quiet (fail)
        go_wp2_with fail
        go_ret
        refine ⟨(k : Int), rfl, by omega, by omega, ?_, below_drewN hw1 _⟩
        rw [decide_eq_true (by omega)]
    · have hkk : k = C.length := by omega
      subst hkk
      have e := HQ.out
      rw [anyTo_false hall.out] at e
      subst e
      go_wp2_with fail
      go_ret
      exact ⟨-1, rfl, by omega, by omega, rfl, hw1⟩

set_option maxRecDepth 100000 in
set_option maxHeartbeats 1000000 in
theorem ContainsPv_any (v : Value) (C : List Mv) (f s t : Int) (w : World) (lo : Nat) (hv : MovesAt lo w v C) (hl : C.length ≤ 1048576) :
    Calls Tryz.prog 92 #[v, .agg #[.int .i64 f, .int .i64 s, .int .i64 t]] w (RetB w (pvHas C f s t)) := by
  obtain ⟨g, hg⟩ : ∃ g, g = pvHas C f s t := ⟨_, rfl⟩
  rw [← hg]
  have HG := Lib.hid hg; clear hg
  have HV := Lib.hid hv
  obtain ⟨ao, cap, rfl, hc, hz⟩ := hv
  clear hz
  go_enter Tryz.func92, Tryz.ntmps92
  go_wp2_with fail
  refine (IndexPv_any _ C f s t _ lo (HV.out.keep ?_) hl).mono ?_
  · (repeat' (first | (with_reducible exact Carries.refl _ _) | (with_reducible assumption) | (with_reducible refine Carries.alloc ?_ _) | (with_reducible refine Carries.drew ?_) | (with_reducible refine Carries.drewN ?_ _) | (with_reducible refine Carries.set ?_ ?_ _) | go_size))
  rintro e w1 ⟨r, rfl, h0, h1, hr, hb⟩
  have hw1 : Below w.heap.size w w1 := by
    refine Below.trans ?_ (hb.mono ?_)
    · (repeat' (first | (with_reducible exact Below.refl _ _) | (with_reducible assumption) | (with_reducible refine Below.alloc ?_ ?_ _) | (with_reducible refine Below.drew ?_) | (with_reducible refine below_drewN ?_ _) | (with_reducible refine Below.setCell ?_ ?_ _) | go_size))
    · simp
  have hr2 : pvHas C f s t = decide (0 ≤ r) := hr
  rw [← HG.out] at hr2
  have hr3 : g = decide (0 ≤ r) := hr2
  subst hr3
  clear hb hr hr2
  go_wp2_with fail
  go_ret
  exact ⟨rfl, hw1⟩

/-- there is such a violation, and its trace -/
def vtB (r : SgD) (f s t : Int) : Bool := goodG r && pvHas (bkL r) f s t
def arAt (r : SgD) (t : Int) : Ar := (arF r.arcs t.toNat, arS r.arcs t.toNat, arU r.arcs t.toNat, arT r.arcs t.toNat)
def vtL (r : SgD) (f t : Int) : List Ar := spL r f ++ [arAt r t]
def vtS (r : SgD) (f s t : Int) : ByteArray := if vtB r f s t = true then trT r.sigs (vtL r f t) else ⟨#[]⟩
theorem vtS_no {r : SgD} {f s t : Int} (h : vtB r f s t = false) : vtS r f s t = ⟨#[]⟩ := by unfold vtS; rw [h]; rfl
theorem vtS_yes {r : SgD} {f s t : Int} (h : vtB r f s t = true) : vtS r f s t = trT r.sigs (vtL r f t) := by unfold vtS; rw [h]; rfl
theorem vtB_in {r : SgD} {f s t : Int} (h : pvHas (bkL r) f s t = true) : ∃ k n : Nat, f = (k : Int) ∧ t = (n : Int) ∧ k < r.codes.length ∧ n < r.arcs.length ∧ 0 < r.sigs.length := by
  obtain ⟨k, s', n, hk, hs, hn, _, _, he⟩ := mem_bkL.1 (pvHas_mem h)
  simp only [Prod.mk.injEq] at he
  exact ⟨k, n, he.1, he.2.2, hk, hn, by omega⟩
theorem arAt_lab {r : SgD} (hg : goodG r = true) (h0 : 0 < r.sigs.length) (i : Nat) : LabIn r.sigs.length (arS r.arcs i) (arU r.arcs i) := by
  by_cases hi : i < r.arcs.length
  · exact labV_labIn (arcV_lab (arcsB_at (goodG_get hg).2.2.2.1 hi))
  · have e : r.arcs.getD i (0, 0, false, 0) = (0, 0, false, 0) := by simp [List.getD, List.getElem?_eq_none (Nat.le_of_not_lt hi)]
    have e1 : arS r.arcs i = 0 := by show (r.arcs.getD i (0, 0, false, 0)).2.1 = 0; rw [e]
    rw [e1]
    exact Or.inl (by omega)
theorem LabsIn_mem {n : Nat} {L : List Ar} (h : ∀ a ∈ L, LabIn n a.2.1 a.2.2.1) : LabsIn n L := by
  intro k hk
  have h1 : L[k]? = some L[k] := List.getElem?_eq_getElem hk
  have h2 : L.getD k (0, 0, false, 0) = L[k] := by simp [List.getD, h1]
  have h3 := h L[k] (List.getElem_mem hk)
  rw [← h2] at h3
  exact h3
theorem vtL_labs {r : SgD} {f t : Int} (hg : goodG r = true) (h0 : 0 < r.sigs.length) : LabsIn r.sigs.length (vtL r f t) := by
  refine LabsIn_mem fun a ha => ?_
  rcases List.mem_append.1 ha with ha | ha
  · unfold spL at ha
    split at ha
    · obtain ⟨i, _, rfl⟩ := List.mem_map.1 ha
      exact arAt_lab hg h0 i
    · cases ha
  · rw [List.mem_singleton.1 ha]
    exact arAt_lab hg h0 _
theorem vtL_small {r : SgD} {f t : Int} (hg : goodG r = true) : (vtL r f t).length ≤ 4001 := by
  unfold vtL
  rw [List.length_append, List.length_singleton]
  have : (spL r f).length ≤ 4000 := by
    unfold spL
    by_cases hb : spB r f = true
    · rw [if_pos hb, arBy_length, wayTo_length]
      unfold spB at hb
      simp only [Bool.and_eq_true, decide_eq_true_eq] at hb
      have ht : f.toNat < r.codes.length := by omega
      have h1 := (distC_is (mvsOf_in (goodG_arcIn hb.1)) (by omega) f.toNat ht).2.1
      have h2 := (goodG_get hg).2.1
      unfold SgLen at h2
      omega
    · rw [if_neg hb]; exact Nat.zero_le _
  omega

end Go.Proofs.YtnmoocgocnjdjaaGreat
