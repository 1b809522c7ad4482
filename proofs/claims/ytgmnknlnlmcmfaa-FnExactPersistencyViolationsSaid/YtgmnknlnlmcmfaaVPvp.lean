/- VIOLATIONS of persistency as data: what the program collects arc by arc, sorted, is what the model collects state by state. -/
import Derived.Sort.Statements
import Derived.Shelf.SlSortCmp.Insertion
import Derived.Test.YtgmnknlnlmcmfaaVCmv
import Derived.Test.YtgmnknlnlmcmfaaVExd
namespace Go.Proofs.Ytgmnknlnlmcmfaa
open Go.RowKit Go.Sort Go.Shelf

def hsB (r : SgD) (x : Int) : Bool := decide (0 ≤ x ∧ x < (r.sigs.length : Int))
def inB (r : SgD) (x : Int) : Bool := hsB r x && !niF r x.toNat
/-- an arc may disable a signal -/
def mdB (r : SgD) (n s : Nat) : Bool := (arS r.arcs n == (s : Int)) || (inB r (arS r.arcs n) && inB r (s : Int))
/-- what the program asks of arc n and signal s -/
def pvP (r : SgD) (n s : Nat) : Bool := exTo r (hsB r) r.arcs.length (arF r.arcs n).toNat s && (!exTo r (hsB r) r.arcs.length (arT r.arcs n).toNat s && !mdB r n s)
/-- what the model asks of state k, signal s, arc n -/
def pvQ (r : SgD) (k s n : Nat) : Bool := (arF r.arcs n == (k : Int)) && ((arS r.arcs n != (s : Int)) && (!excB r (arT r.arcs n) (s : Int) && ((decide ((s : Int) < 0) || niF r s) || (decide (arS r.arcs n < 0) || niF r (arS r.arcs n).toNat))))
def fdRow (r : SgD) (n t : Nat) : List Mv := ((List.range t).filter (pvP r n)).map (fun (s : Nat) => (arF r.arcs n, (s : Int), (n : Int)))
def fdTo (r : SgD) (j : Nat) : List Mv := (List.range j).flatMap (fun n => fdRow r n r.sigs.length)
def fdL (r : SgD) : List Mv := fdTo r r.arcs.length
theorem fdRow_zero (r : SgD) (n : Nat) : fdRow r n 0 = [] := rfl
theorem fdRow_yes {r : SgD} {n t : Nat} (h : pvP r n t = true) : fdRow r n (t + 1) = fdRow r n t ++ [(arF r.arcs n, (t : Int), (n : Int))] := by
  unfold fdRow; rw [List.range_succ, List.filter_append, List.map_append]; simp [h]
theorem fdRow_no {r : SgD} {n t : Nat} (h : pvP r n t = false) : fdRow r n (t + 1) = fdRow r n t := by
  unfold fdRow; rw [List.range_succ, List.filter_append, List.map_append]; simp [h]
theorem fdRow_length (r : SgD) (n t : Nat) : (fdRow r n t).length ≤ t := by
  unfold fdRow; rw [List.length_map]; exact Nat.le_trans (List.length_filter_le _ _) (by rw [List.length_range]; exact Nat.le_refl _)
theorem fdTo_succ (r : SgD) (j : Nat) : fdTo r (j + 1) = fdTo r j ++ fdRow r j r.sigs.length := by
  unfold fdTo; rw [List.range_succ, List.flatMap_append]; simp
theorem fdTo_length (r : SgD) : ∀ j, (fdTo r j).length ≤ j * r.sigs.length
  | 0 => Nat.zero_le _
  | j + 1 => by
    have h1 := fdTo_length r j
    have h2 := fdRow_length r j r.sigs.length
    rw [fdTo_succ, List.length_append, Nat.succ_mul]; omega
/-- the model's rows: of one state and signal, of one state -/
def bkRow (r : SgD) (k s t : Nat) : List Mv := ((List.range t).filter (pvQ r k s)).map (fun (n : Nat) => ((k : Int), (s : Int), (n : Int)))
def bkSig (r : SgD) (k s : Nat) : List Mv := if excB r (k : Int) (s : Int) = true then bkRow r k s r.arcs.length else []
def bkSt (r : SgD) (k t : Nat) : List Mv := (List.range t).flatMap (bkSig r k)
def bkTo (r : SgD) (j : Nat) : List Mv := (List.range j).flatMap (fun k => bkSt r k r.sigs.length)
def bkL (r : SgD) : List Mv := bkTo r r.codes.length
theorem bkRow_zero (r : SgD) (k s : Nat) : bkRow r k s 0 = [] := rfl
theorem bkRow_yes {r : SgD} {k s t : Nat} (h : pvQ r k s t = true) : bkRow r k s (t + 1) = bkRow r k s t ++ [((k : Int), (s : Int), (t : Int))] := by
  unfold bkRow; rw [List.range_succ, List.filter_append, List.map_append]; simp [h]
theorem bkRow_no {r : SgD} {k s t : Nat} (h : pvQ r k s t = false) : bkRow r k s (t + 1) = bkRow r k s t := by
  unfold bkRow; rw [List.range_succ, List.filter_append, List.map_append]; simp [h]
theorem bkRow_length (r : SgD) (k s t : Nat) : (bkRow r k s t).length ≤ t := by
  unfold bkRow; rw [List.length_map]; exact Nat.le_trans (List.length_filter_le _ _) (by rw [List.length_range]; exact Nat.le_refl _)
theorem bkSig_length (r : SgD) (k s : Nat) : (bkSig r k s).length ≤ r.arcs.length := by
  unfold bkSig; split
  · exact bkRow_length _ _ _ _
  · exact Nat.zero_le _
theorem bkSt_zero (r : SgD) (k : Nat) : bkSt r k 0 = [] := rfl
theorem bkSt_succ (r : SgD) (k t : Nat) : bkSt r k (t + 1) = bkSt r k t ++ bkSig r k t := by
  unfold bkSt; rw [List.range_succ, List.flatMap_append]; simp
theorem bkSt_length (r : SgD) (k : Nat) : ∀ t, (bkSt r k t).length ≤ t * r.arcs.length
  | 0 => Nat.zero_le _
  | t + 1 => by
    have h1 := bkSt_length r k t
    have h2 := bkSig_length r k t
    rw [bkSt_succ, List.length_append, Nat.succ_mul]; omega
theorem bkTo_succ (r : SgD) (j : Nat) : bkTo r (j + 1) = bkTo r j ++ bkSt r j r.sigs.length := by
  unfold bkTo; rw [List.range_succ, List.flatMap_append]; simp
theorem bkTo_length (r : SgD) : ∀ j, (bkTo r j).length ≤ j * (r.sigs.length * r.arcs.length)
  | 0 => Nat.zero_le _
  | j + 1 => by
    have h1 := bkTo_length r j
    have h2 := bkSt_length r j r.sigs.length
    rw [bkTo_succ, List.length_append, Nat.succ_mul]; omega

theorem mem_bkRow {r : SgD} {k s t : Nat} {x : Mv} : x ∈ bkRow r k s t ↔ ∃ n, n < t ∧ pvQ r k s n = true ∧ x = ((k : Int), (s : Int), (n : Int)) := by
  unfold bkRow
  simp only [List.mem_map, List.mem_filter, List.mem_range]
  constructor
  · rintro ⟨n, ⟨h1, h2⟩, rfl⟩; exact ⟨n, h1, h2, rfl⟩
  · rintro ⟨n, h1, h2, rfl⟩; exact ⟨n, ⟨h1, h2⟩, rfl⟩
theorem mem_bkSig {r : SgD} {k s : Nat} {x : Mv} : x ∈ bkSig r k s ↔ excB r (k : Int) (s : Int) = true ∧ ∃ n, n < r.arcs.length ∧ pvQ r k s n = true ∧ x = ((k : Int), (s : Int), (n : Int)) := by
  unfold bkSig
  by_cases h : excB r (k : Int) (s : Int) = true
  · rw [if_pos h, mem_bkRow]
    exact ⟨fun q => ⟨h, q⟩, fun q => q.2⟩
  · rw [if_neg h]
    exact ⟨fun q => (by cases q), fun q => absurd q.1 h⟩
theorem mem_bkL {r : SgD} {x : Mv} : x ∈ bkL r ↔ ∃ k s n, k < r.codes.length ∧ s < r.sigs.length ∧ n < r.arcs.length ∧ excB r (k : Int) (s : Int) = true ∧ pvQ r k s n = true ∧ x = ((k : Int), (s : Int), (n : Int)) := by
  unfold bkL bkTo bkSt
  simp only [List.mem_flatMap, List.mem_range, mem_bkSig]
  constructor
  · rintro ⟨k, hk, s, hs, he, n, hn, hq, rfl⟩; exact ⟨k, s, n, hk, hs, hn, he, hq, rfl⟩
  · rintro ⟨k, s, n, hk, hs, hn, he, hq, rfl⟩; exact ⟨k, hk, s, hs, he, n, hn, hq, rfl⟩
theorem mem_fdRow {r : SgD} {n t : Nat} {x : Mv} : x ∈ fdRow r n t ↔ ∃ s, s < t ∧ pvP r n s = true ∧ x = (arF r.arcs n, (s : Int), (n : Int)) := by
  unfold fdRow
  simp only [List.mem_map, List.mem_filter, List.mem_range]
  constructor
  · rintro ⟨s, ⟨h1, h2⟩, rfl⟩; exact ⟨s, h1, h2, rfl⟩
  · rintro ⟨s, h1, h2, rfl⟩; exact ⟨s, ⟨h1, h2⟩, rfl⟩
theorem mem_fdL {r : SgD} {x : Mv} : x ∈ fdL r ↔ ∃ n s, n < r.arcs.length ∧ s < r.sigs.length ∧ pvP r n s = true ∧ x = (arF r.arcs n, (s : Int), (n : Int)) := by
  unfold fdL fdTo
  simp only [List.mem_flatMap, List.mem_range, mem_fdRow]
  constructor
  · rintro ⟨n, hn, s, hs, h, rfl⟩; exact ⟨n, s, hn, hs, h, rfl⟩
  · rintro ⟨n, s, hn, hs, h, rfl⟩; exact ⟨n, hn, s, hs, h, rfl⟩

/-- one test for both -/
theorem pv_same {r : SgD} (hg : goodG r = true) {n s : Nat} (hn : n < r.arcs.length) (hs : s < r.sigs.length) {k : Nat} (hk : arF r.arcs n = (k : Int)) :
    pvP r n s = (excB r (k : Int) (s : Int) && pvQ r k s n) := by
  have har := arcsB_at (goodG_get hg).2.2.2.1 hn
  have hin := arcV_in har
  have hlab := arcV_lab har
  obtain ⟨t, ht⟩ := Int.eq_ofNat_of_zero_le hin.2.1
  have hss : hsB r (s : Int) = true := by unfold hsB; exact decide_eq_true (by omega)
  unfold pvP pvQ mdB
  rw [exTo_all, exTo_all, hss, Bool.and_true, Bool.and_true, hk, ht]
  simp only [Int.toNat_natCast, beq_self_eq_true, Bool.true_and]
  congr 1
  have hiS : inB r (s : Int) = !niF r s := by unfold inB; rw [hss]; simp
  rw [hiS]
  have hneg : decide ((s : Int) < 0) = false := decide_eq_false (by omega)
  rw [hneg, Bool.false_or]
  by_cases h0 : 0 ≤ arS r.arcs n
  · have hlt : arS r.arcs n < (r.sigs.length : Int) := by
      by_cases h1 : arS r.arcs n < (r.sigs.length : Int)
      · exact h1
      · rw [labV_out (fun q => h1 q.2)] at hlab
        have := (Bool.and_eq_true_iff.1 hlab).1
        have := of_decide_eq_true this
        omega
    have hI : inB r (arS r.arcs n) = !niF r (arS r.arcs n).toNat := by unfold inB hsB; rw [decide_eq_true ⟨h0, hlt⟩, Bool.true_and]
    rw [hI, decide_eq_false (show ¬ arS r.arcs n < 0 by omega), Bool.false_or]
    cases excB r (t : Int) (s : Int) <;> cases niF r s <;> cases niF r (arS r.arcs n).toNat <;> cases h : (arS r.arcs n == (s : Int)) <;> simp [bne, h]
  · have hI : inB r (arS r.arcs n) = false := by unfold inB hsB; rw [decide_eq_false (fun q => h0 q.1)]; rfl
    rw [hI, decide_eq_true (show arS r.arcs n < 0 by omega)]
    cases excB r (t : Int) (s : Int) <;> cases niF r s <;> cases h : (arS r.arcs n == (s : Int)) <;> simp [bne, h]

/-- place by place -/
def ltV (p q : Mv) : Prop := p.1 < q.1 ∨ (p.1 = q.1 ∧ (p.2.1 < q.2.1 ∨ (p.2.1 = q.2.1 ∧ p.2.2 < q.2.2)))
theorem cfV_lt (p q : Mv) : ltOf cfV p q = true ↔ ltV p q := by
  obtain ⟨a, b, c⟩ := p
  obtain ⟨x, y, z⟩ := q
  unfold ltOf cfV orV cmI ltV
  simp only [decide_eq_true_eq]
  by_cases h1 : a < x
  · simp [h1]
  · by_cases h2 : x < a
    · have : a ≠ x := by omega
      simp [h1, h2, this]
    · have e : a = x := by omega
      subst e
      by_cases h3 : b < y
      · simp [h3]
      · by_cases h4 : y < b
        · have : b ≠ y := by omega
          simp [h3, h4, this]
        · have e : b = y := by omega
          subst e
          by_cases h5 : c < z
          · simp [h5]
          · by_cases h6 : z < c
            · simp [h5, h6]
            · simp [h5, h6]
theorem ltV_false (p q : Mv) : ltOf cfV p q = false ↔ ¬ ltV p q := by rw [← cfV_lt, Bool.not_eq_true]
theorem swoV : SWO (ltOf cfV) where
  irrefl x := by rw [ltV_false]; unfold ltV; omega
  trans x y z h1 h2 := by rw [cfV_lt] at *; unfold ltV at *; omega
  ntrans x y z h1 h2 := by rw [ltV_false] at *; unfold ltV at *; omega
theorem totV (x y : Mv) (h1 : ltOf cfV x y = false) (h2 : ltOf cfV y x = false) : x = y := by
  rw [ltV_false] at *
  obtain ⟨a, b, c⟩ := x
  obtain ⟨x, y, z⟩ := y
  unfold ltV at *
  simp only at h1 h2
  have e1 : a = x := by omega
  subst e1
  have e2 : b = y := by omega
  subst e2
  have e3 : c = z := by omega
  subst e3
  rfl

theorem bkL_sorted (r : SgD) : (bkL r).Pairwise ltV := by
  have hrow : ∀ k s t, (bkRow r k s t).Pairwise ltV := fun k s t => by
    unfold bkRow
    rw [List.pairwise_map]
    refine (List.Pairwise.filter _ List.pairwise_lt_range).imp ?_
    intro a b h
    exact Or.inr ⟨rfl, Or.inr ⟨rfl, by show (a : Int) < (b : Int); omega⟩⟩
  have hsig : ∀ k s, (bkSig r k s).Pairwise ltV := fun k s => by
    unfold bkSig; split
    · exact hrow _ _ _
    · exact List.Pairwise.nil
  have hst : ∀ k t, (bkSt r k t).Pairwise ltV := fun k t => by
    unfold bkSt
    rw [List.pairwise_flatMap]
    refine ⟨fun s _ => hsig k s, List.pairwise_lt_range.imp ?_⟩
    intro a b h x hx y hy
    obtain ⟨_, n, _, _, rfl⟩ := mem_bkSig.1 hx
    obtain ⟨_, m, _, _, rfl⟩ := mem_bkSig.1 hy
    exact Or.inr ⟨rfl, Or.inl (by show (a : Int) < (b : Int); omega)⟩
  unfold bkL bkTo
  rw [List.pairwise_flatMap]
  refine ⟨fun k _ => hst k _, List.pairwise_lt_range.imp ?_⟩
  intro a b h x hx y hy
  unfold bkSt at hx hy
  simp only [List.mem_flatMap, List.mem_range, mem_bkSig] at hx hy
  obtain ⟨s, _, _, n, _, _, rfl⟩ := hx
  obtain ⟨s', _, _, m, _, _, rfl⟩ := hy
  exact Or.inl (by show (a : Int) < (b : Int); omega)
theorem fdL_nodup (r : SgD) : (fdL r).Nodup := by
  unfold fdL fdTo List.Nodup
  rw [List.pairwise_flatMap]
  refine ⟨fun n _ => ?_, List.pairwise_lt_range.imp ?_⟩
  · unfold fdRow
    rw [List.pairwise_map]
    refine (List.Pairwise.filter _ List.pairwise_lt_range).imp ?_
    intro a b h e
    injection e with e1 e2
    injection e2 with e2 e3
    omega
  · intro a b h x hx y hy e
    obtain ⟨s, _, _, rfl⟩ := mem_fdRow.1 hx
    obtain ⟨s', _, _, rfl⟩ := mem_fdRow.1 hy
    injection e with e1 e2
    injection e2 with e2 e3
    omega
theorem bkL_nodup (r : SgD) : (bkL r).Nodup := (bkL_sorted r).imp fun {a b} h e => by subst e; unfold ltV at h; omega
theorem fd_perm {r : SgD} (hg : goodG r = true) : (fdL r).Perm (bkL r) := by
  refine (List.perm_ext_iff_of_nodup (fdL_nodup r) (bkL_nodup r)).2 fun x => ?_
  rw [mem_fdL, mem_bkL]
  constructor
  · rintro ⟨n, s, hn, hs, hp, rfl⟩
    have hin := (arcV_in (arcsB_at (goodG_get hg).2.2.2.1 hn)).1
    obtain ⟨k, hk⟩ := Int.eq_ofNat_of_zero_le hin.1
    rw [pv_same hg hn hs hk] at hp
    have hp2 := Bool.and_eq_true_iff.1 hp
    exact ⟨k, s, n, by omega, hs, hn, hp2.1, hp2.2, by rw [hk]⟩
  · rintro ⟨k, s, n, hk, hs, hn, he, hq, rfl⟩
    have hF : arF r.arcs n = (k : Int) := by
      unfold pvQ at hq
      exact eq_of_beq (Bool.and_eq_true_iff.1 hq).1
    refine ⟨n, s, hn, hs, ?_, by rw [hF]⟩
    rw [pv_same hg hn hs hF, he, hq]; rfl
/-- **sorted, the one is the other** -/
theorem fd_sorted {r : SgD} (hg : goodG r = true) : (fdL r).mergeSort (fun x y => !ltOf cfV y x) = bkL r := by
  refine List.Perm.eq_of_pairwise (le := fun x y => (!ltOf cfV y x) = true) ?_ ?_ ?_ ((List.mergeSort_perm _ _).trans (fd_perm hg))
  · intro a b _ _ h1 h2
    exact totV a b (by simpa using h2) (by simpa using h1)
  · refine List.pairwise_mergeSort ?_ ?_ _
    · intro a b c h1 h2
      have h1' : ltOf cfV b a = false := by simpa using h1
      have h2' : ltOf cfV c b = false := by simpa using h2
      have := swoV.ntrans _ _ _ h2' h1'
      simpa using this
    · intro a b
      cases h : ltOf cfV b a with
      | false => rfl
      | true =>
        have : ltOf cfV a b = false := by
          rw [ltV_false]; rw [cfV_lt] at h; unfold ltV at *; omega
        rw [this]; rfl
  · refine (bkL_sorted r).imp ?_
    intro a b h
    have : ltOf cfV b a = false := by rw [ltV_false]; unfold ltV at *; omega
    rw [this]; rfl

end Go.Proofs.Ytgmnknlnlmcmfaa
