/- WALK: FormatTrace of the program. -/
import Derived.Test.YtnmoocgocnjdjaaVFtb
import Derived.Test.YtnmoocgocnjdjaaVSgv
namespace Go.Proofs.Ytnmoocgocnjdjaa
open Go.RowKit

/-- a walk from state 0 through a valid graph, of at most 4000 arcs -/
def ftB (r : SgD) (L : List Ar) : Bool := goodG r && (decide (L.length ≤ 4000) && trB r.arcs L)
def ftS (r : SgD) (L : List Ar) : ByteArray := if ftB r L = true then trT r.sigs L else ⟨#[]⟩
theorem ftS_no {r : SgD} {L : List Ar} (h : ftB r L = false) : ftS r L = ⟨#[]⟩ := by unfold ftS; rw [h]; rfl
theorem ftS_yes {r : SgD} {L : List Ar} (h : ftB r L = true) : ftS r L = trT r.sigs L := by unfold ftS; rw [h]; rfl
theorem labV_labIn {m : Nat} {a : Int} {u : Bool} (h : labV m a u = true) : LabIn m a u := by
  unfold labV at h
  simp only [Bool.or_eq_true, decide_eq_true_eq, Bool.and_eq_true, Bool.not_eq_true'] at h
  rcases h with h | ⟨h1, h2⟩
  · exact Or.inl h
  · exact Or.inr ⟨h1, h2⟩
theorem anyTo_get {n : Nat} {g : Nat → Bool} (h : anyTo n g = true) : ∃ k, k < n ∧ g k = true := by
  unfold anyTo at h
  rw [List.any_eq_true] at h
  obtain ⟨k, hk, hg⟩ := h
  exact ⟨k, by simpa using hk, hg⟩
theorem tr_labs {r : SgD} {L : List Ar} (hg : goodG r = true) (ht : trB r.arcs L = true) : LabsIn r.sigs.length L := by
  intro k hk
  have h := trB_get ht hk
  unfold trIs at h
  simp only [Bool.and_eq_true] at h
  obtain ⟨j, hj, he⟩ := anyTo_get h.2
  unfold arIs at he
  have he := of_decide_eq_true he
  simp only [Prod.mk.injEq] at he
  have hv := arcV_lab (arcsB_at (goodG_get hg).2.2.2.1 hj)
  rw [← he.2.1, ← he.2.2.1] at hv
  exact labV_labIn hv

/-- a call returns this text, and this bool -/
def RetTx (w : World) (s : ByteArray) (b : Bool) (e : Ending) (w' : World) : Prop := e = .returned (.tuple #[.string s, .bool b]) ∧ Below w.heap.size w w'

set_option maxRecDepth 100000 in
set_option maxHeartbeats 1000000 in
theorem FormatTrace_any (v vl : Value) (r : SgD) (L : List Ar) (w : World) (lo lo' : Nat) (hv : SgAt lo w v r) (hvl : ArcsAt lo' w vl L) (hs : SmallSg r) (hl : L.length ≤ 1048576) :
    Calls Try.prog 30 #[v, vl] w (RetTx w (ftS r L) (ftB r L)) := by
  obtain ⟨S, hS⟩ : ∃ x, x = ftS r L := ⟨_, rfl⟩
  obtain ⟨B, hB⟩ : ∃ x, x = ftB r L := ⟨_, rfl⟩
  rw [← hS, ← hB]
  have HSS := Lib.hid hS; clear hS
  have HBB := Lib.hid hB; clear hB
  have HV := Lib.hid hv
  have HL := Lib.hid hvl
  obtain ⟨a0, c0, a1, c1, a2, c2, rfl, _, _, _⟩ := hv.form
  obtain ⟨al, cl, rfl⟩ := hvl.form
  clear hv hvl
  have HS := Lib.hid hs; clear hs
  obtain ⟨n0, hn0⟩ : ∃ x, x = r.sigs.length := ⟨_, rfl⟩
  obtain ⟨n1, hn1⟩ : ∃ x, x = r.codes.length := ⟨_, rfl⟩
  obtain ⟨n2, hn2⟩ : ∃ x, x = r.arcs.length := ⟨_, rfl⟩
  obtain ⟨nl, hnl⟩ : ∃ x, x = L.length := ⟨_, rfl⟩
  rw [← hn0, ← hn1, ← hn2] at HV ⊢
  rw [← hnl] at HL hl ⊢
  have HNL := Lib.hid hnl
  clear hn0 hn1 hn2 hnl
  go_enter Try.func30, Try.ntmps30
  go_wp2_with fail
  refine (IsValidSg_any _ r _ lo (HV.out.keep ?_) HS.out).mono ?_
  · (repeat' (first | (with_reducible exact Carries.refl _ _) | (with_reducible assumption) | (with_reducible refine Carries.alloc ?_ _) | (with_reducible refine Carries.drew ?_) | (with_reducible refine Carries.drewN ?_ _) | (with_reducible refine Carries.set ?_ ?_ _) | go_size))
  rintro e w1 ⟨rfl, hb⟩
  have hw1 : Below w.heap.size w w1 := by
    refine Below.trans ?_ (hb.mono ?_)
    · (repeat' (first | (with_reducible exact Below.refl _ _) | (with_reducible assumption) | (with_reducible refine Below.alloc ?_ ?_ _) | (with_reducible refine Below.drew ?_) | (with_reducible refine below_drewN ?_ _) | (with_reducible refine Below.setCell ?_ ?_ _) | go_size))
    · simp
  have x0 : w1.cell? ⟨w.heap.size, 0, none⟩ = some (.slice a0 n0 c0) := cell_carry (by simp) (Carries.of 0 hb)
  have x1 : w1.cell? ⟨w.heap.size, 1, none⟩ = some (.slice a1 n1 c1) := cell_carry (by simp) (Carries.of 0 hb)
  have x2 : w1.cell? ⟨w.heap.size, 2, none⟩ = some (.slice a2 n2 c2) := cell_carry (by simp) (Carries.of 0 hb)
  clear hb
  cases hg : goodG r with
  | false =>
    have hf : ftB r L = false := by unfold ftB; rw [hg]; rfl
    have k1 := HSS.out
    have k2 := HBB.out
    rw [ftS_no hf] at k1
    rw [hf] at k2
    subst k1; subst k2
    clear hg hf
    go_wp2_with fail
    go_ret2
    exact ⟨rfl, hw1⟩
  | true =>
  have HG := Lib.hid hg; clear hg
  by_cases h4 : nl ≤ 4000
  case neg =>
    have hf : ftB r L = false := by unfold ftB; rw [decide_eq_false (by rw [← HNL.out]; exact h4)]; simp
    have k1 := HSS.out
    have k2 := HBB.out
    rw [ftS_no hf] at k1
    rw [hf] at k2
    subst k1; subst k2
    clear hf
    go_wp2_with fail
    go_ret2
    exact ⟨rfl, hw1⟩
  have hfB : ftB r L = trB r.arcs L := by unfold ftB; rw [HG.out, decide_eq_true (by rw [← HNL.out]; exact h4)]; simp
  have HFB := Lib.hid hfB; clear hfB
  go_wp2_with fail
  refine (hasTrace_any _ _ r L _ lo lo' (HV.out.keep (Carries.of lo hw1)) (HL.out.keep (Carries.of lo' hw1)) HS.out (by rw [← HNL.out]; omega)).mono ?_
  rintro e w2 ⟨rfl, hb⟩
  have hw2 : Below w.heap.size w w2 := hw1.trans (hb.mono hw1.size)
  have x0 := cell_carry x0 (Carries.of 0 hb)
  have x1 := cell_carry x1 (Carries.of 0 hb)
  have x2 := cell_carry x2 (Carries.of 0 hb)
  clear hb
  cases ht : trB r.arcs L with
  | false =>
    have hf := HFB.out
    rw [ht] at hf
    have k1 := HSS.out
    have k2 := HBB.out
    rw [ftS_no hf] at k1
    rw [hf] at k2
    subst k1; subst k2
    clear ht hf
    go_wp2_with fail
    go_ret2
    exact ⟨rfl, hw2⟩
  | true =>
    have hf := HFB.out
    rw [ht] at hf
    have k1 := HSS.out
    have k2 := HBB.out
    rw [ftS_yes hf] at k1
    rw [hf] at k2
    subst k2
    have HT := Lib.hid ht; clear ht hf
    have HK := Lib.hid k1; clear k1
    go_wp2_with fail
    refine (traceText_any _ _ r L _ lo lo' (HV.out.keep (Carries.of lo hw2)) (HL.out.keep (Carries.of lo' hw2)) HS.out (by rw [← HNL.out]; omega) (tr_labs HG.out HT.out)).mono ?_
    rintro e w3 ⟨rfl, hb⟩
    rw [← HK.out]
    have hw3 : Below w.heap.size w w3 := hw2.trans (hb.mono hw2.size)
    clear hb
    go_wp2_with fail
    go_ret2
    exact ⟨rfl, hw3⟩

end Go.Proofs.Ytnmoocgocnjdjaa
