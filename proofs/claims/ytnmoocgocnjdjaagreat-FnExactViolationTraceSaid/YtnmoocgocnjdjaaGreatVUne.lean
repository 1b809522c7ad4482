/- VIOLATIONS of persistency as data: what the program collects arc by arc, sorted, is what the model collects state by state.
   THE SORT of violations: slices.SortFunc(found, compareViolations) on a row that the call owns: the same slice owns the sorted list.
   WALKS: isInput, mayDisable of the program.
   BLOCKS AND THEIR TYPES: a row's block is no block of another type; owned rows stand when such a block is written. -/
import Derived.Sort.Statements
import Derived.Shelf.SlSortCmp.Insertion
import Derived.Test.YtnmoocgocnjdjaaGreatVSgd
import Derived.Test.YtnmoocgocnjdjaaGreatVExd
import Derived.Shelf.SlSortCmp.NoneTotal
import Derived.Test.YtnmoocgocnjdjaaGreatVSrt
import Derived.Test.YtnmoocgocnjdjaaGreatVOvk
namespace Go.Proofs.YtnmoocgocnjdjaaGreat
open Go.RowKit Go.Sort Go.Shelf

def hsB (r : SgD) (x : Int) : Bool := decide (0 ≤ x ∧ x < (r.sigs.length : Int))
def inB (r : SgD) (x : Int) : Bool := hsB r x && !niF r x.toNat
/-- an arc may disable a signal -/
def mdB (r : SgD) (n s : Nat) : Bool := (arS r.arcs n == (s : Int)) || (inB r (arS r.arcs n) && inB r (s : Int))
/-- what the program asks of arc n and signal s -/
def pvP (r : SgD) (n s : Nat) : Bool := exTo r (hsB r) r.arcs.length (arF r.arcs n).toNat s && (!exTo r (hsB r) r.arcs.length (arT r.arcs n).toNat s && !mdB r n s)
/-- what the model asks of state k, signal s, arc n -/
def pvQ (r : SgD) (k s n : Nat) : Bool := (arF r.arcs n == (k : Int)) && ((arS r.arcs n != (s : Int)) && (!excB r (arT r.arcs n) (s : Int) && ((decide ((s : Int) < 0) || niF r s) || (decide (arS r.arcs n < 0) || niF r (arS r.arcs n).toNat))))
def fdRow (r : SgD) (n t : Nat) : List Mv := ((List.range t).filter (pvP r n)).map (fun (s : Nat) => (arF r.arcs n, (s : Int), (n : Int)))
def fdTo (r : SgD) (j : Nat) : List Mv := (List.range j).flatMap (fun n => fdRow r n r.sigs.length)
def fdL (r : SgD) : List Mv := fdTo r r.arcs.length
theorem fdRow_zero (r : SgD) (n : Nat) : fdRow r n 0 = [] := rfl
theorem fdRow_yes {r : SgD} {n t : Nat} (h : pvP r n t = true) : fdRow r n (t + 1) = fdRow r n t ++ [(arF r.arcs n, (t : Int), (n : Int))] := by
  unfold fdRow; rw [List.range_succ, List.filter_append, List.map_append]; simp [h]
theorem fdRow_no {r : SgD} {n t : Nat} (h : pvP r n t = false) : fdRow r n (t + 1) = fdRow r n t := by
  unfold fdRow; rw [List.range_succ, List.filter_append, List.map_append]; simp [h]
theorem fdRow_length (r : SgD) (n t : Nat) : (fdRow r n t).length ≤ t := by
  unfold fdRow; rw [List.length_map]; exact Nat.le_trans (List.length_filter_le _ _) (by rw [List.length_range]; exact Nat.le_refl _)
theorem fdTo_succ (r : SgD) (j : Nat) : fdTo r (j + 1) = fdTo r j ++ fdRow r j r.sigs.length := by
  unfold fdTo; rw [List.range_succ, List.flatMap_append]; simp
theorem fdTo_length (r : SgD) : ∀ j, (fdTo r j).length ≤ j * r.sigs.length
  | 0 => Nat.zero_le _
  | j + 1 => by
    have h1 := fdTo_length r j
    have h2 := fdRow_length r j r.sigs.length
    rw [fdTo_succ, List.length_append, Nat.succ_mul]; omega
/-- the model's rows: of one state and signal, of one state -/
def bkRow (r : SgD) (k s t : Nat) : List Mv := ((List.range t).filter (pvQ r k s)).map (fun (n : Nat) => ((k : Int), (s : Int), (n : Int)))
def bkSig (r : SgD) (k s : Nat) : List Mv := if excB r (k : Int) (s : Int) = true then bkRow r k s r.arcs.length else []
def bkSt (r : SgD) (k t : Nat) : List Mv := (List.range t).flatMap (bkSig r k)
def brkTo (r : SgD) (j : Nat) : List Mv := (List.range j).flatMap (fun k => bkSt r k r.sigs.length)
def bkL (r : SgD) : List Mv := brkTo r r.codes.length
theorem bkRow_zero (r : SgD) (k s : Nat) : bkRow r k s 0 = [] := rfl
theorem bkRow_yes {r : SgD} {k s t : Nat} (h : pvQ r k s t = true) : bkRow r k s (t + 1) = bkRow r k s t ++ [((k : Int), (s : Int), (t : Int))] := by
  unfold bkRow; rw [List.range_succ, List.filter_append, List.map_append]; simp [h]
theorem bkRow_no {r : SgD} {k s t : Nat} (h : pvQ r k s t = false) : bkRow r k s (t + 1) = bkRow r k s t := by
  unfold bkRow; rw [List.range_succ, List.filter_append, List.map_append]; simp [h]
theorem bkRow_length (r : SgD) (k s t : Nat) : (bkRow r k s t).length ≤ t := by
  unfold bkRow; rw [List.length_map]; exact Nat.le_trans (List.length_filter_le _ _) (by rw [List.length_range]; exact Nat.le_refl _)
theorem bkSig_length (r : SgD) (k s : Nat) : (bkSig r k s).length ≤ r.arcs.length := by
  unfold bkSig; split
  · exact bkRow_length _ _ _ _
  · exact Nat.zero_le _
theorem bkSt_zero (r : SgD) (k : Nat) : bkSt r k 0 = [] := rfl
theorem bkSt_succ (r : SgD) (k t : Nat) : bkSt r k (t + 1) = bkSt r k t ++ bkSig r k t := by
  unfold bkSt; rw [List.range_succ, List.flatMap_append]; simp
theorem bkSt_length (r : SgD) (k : Nat) : ∀ t, (bkSt r k t).length ≤ t * r.arcs.length
  | 0 => Nat.zero_le _
  | t + 1 => by
    have h1 := bkSt_length r k t
    have h2 := bkSig_length r k t
    rw [bkSt_succ, List.length_append, Nat.succ_mul]; omega
theorem brkTo_succ (r : SgD) (j : Nat) : brkTo r (j + 1) = brkTo r j ++ bkSt r j r.sigs.length := by
  unfold brkTo; rw [List.range_succ, List.flatMap_append]; simp
theorem brkTo_length (r : SgD) : ∀ j, (brkTo r j).length ≤ j * (r.sigs.length * r.arcs.length)
  | 0 => Nat.zero_le _
  | j + 1 => by
    have h1 := brkTo_length r j
    have h2 := bkSt_length r j r.sigs.length
    rw [brkTo_succ, List.length_append, Nat.succ_mul]; omega

theorem mem_bkRow {r : SgD} {k s t : Nat} {x : Mv} : x ∈ bkRow r k s t ↔ ∃ n, n < t ∧ pvQ r k s n = true ∧ x = ((k : Int), (s : Int), (n : Int)) := by
  unfold bkRow
  simp only [List.mem_map, List.mem_filter, List.mem_range]
  constructor
  · rintro ⟨n, ⟨h1, h2⟩, rfl⟩; exact ⟨n, h1, h2, rfl⟩
  · rintro ⟨n, h1, h2, rfl⟩; exact ⟨n, ⟨h1, h2⟩, rfl⟩
theorem mem_bkSig {r : SgD} {k s : Nat} {x : Mv} : x ∈ bkSig r k s ↔ excB r (k : Int) (s : Int) = true ∧ ∃ n, n < r.arcs.length ∧ pvQ r k s n = true ∧ x = ((k : Int), (s : Int), (n : Int)) := by
  unfold bkSig
  by_cases h : excB r (k : Int) (s : Int) = true
  · rw [if_pos h, mem_bkRow]
    exact ⟨fun q => ⟨h, q⟩, fun q => q.2⟩
  · rw [if_neg h]
    exact ⟨fun q => (by cases q), fun q => absurd q.1 h⟩
theorem mem_bkL {r : SgD} {x : Mv} : x ∈ bkL r ↔ ∃ k s n, k < r.codes.length ∧ s < r.sigs.length ∧ n < r.arcs.length ∧ excB r (k : Int) (s : Int) = true ∧ pvQ r k s n = true ∧ x = ((k : Int), (s : Int), (n : Int)) := by
  unfold bkL brkTo bkSt
  simp only [List.mem_flatMap, List.mem_range, mem_bkSig]
  constructor
  · rintro ⟨k, hk, s, hs, he, n, hn, hq, rfl⟩; exact ⟨k, s, n, hk, hs, hn, he, hq, rfl⟩
  · rintro ⟨k, s, n, hk, hs, hn, he, hq, rfl⟩; exact ⟨k, hk, s, hs, he, n, hn, hq, rfl⟩
theorem mem_fdRow {r : SgD} {n t : Nat} {x : Mv} : x ∈ fdRow r n t ↔ ∃ s, s < t ∧ pvP r n s = true ∧ x = (arF r.arcs n, (s : Int), (n : Int)) := by
  unfold fdRow
  simp only [List.mem_map, List.mem_filter, List.mem_range]
  constructor
  · rintro ⟨s, ⟨h1, h2⟩, rfl⟩; exact ⟨s, h1, h2, rfl⟩
  · rintro ⟨s, h1, h2, rfl⟩; exact ⟨s, ⟨h1, h2⟩, rfl⟩
theorem mem_fdL {r : SgD} {x : Mv} : x ∈ fdL r ↔ ∃ n s, n < r.arcs.length ∧ s < r.sigs.length ∧ pvP r n s = true ∧ x = (arF r.arcs n, (s : Int), (n : Int)) := by
  unfold fdL fdTo
  simp only [List.mem_flatMap, List.mem_range, mem_fdRow]
  constructor
  · rintro ⟨n, hn, s, hs, h, rfl⟩; exact ⟨n, s, hn, hs, h, rfl⟩
  · rintro ⟨n, s, hn, hs, h, rfl⟩; exact ⟨n, hn, s, hs, h, rfl⟩

/-- one test for both -/
theorem pv_same {r : SgD} (hg : goodG r = true) {n s : Nat} (hn : n < r.arcs.length) (hs : s < r.sigs.length) {k : Nat} (hk : arF r.arcs n = (k : Int)) :
    pvP r n s = (excB r (k : Int) (s : Int) && pvQ r k s n) := by
  have har := arcsB_at (goodG_get hg).2.2.2.1 hn
  have hin := arcV_in har
  have hlab := arcV_lab har
  obtain ⟨t, ht⟩ := Int.eq_ofNat_of_zero_le hin.2.1
  have hss : hsB r (s : Int) = true := by unfold hsB; exact decide_eq_true (by omega)
  unfold pvP pvQ mdB
  rw [exTo_all, exTo_all, hss, Bool.and_true, Bool.and_true, hk, ht]
  simp only [Int.toNat_natCast, beq_self_eq_true, Bool.true_and]
  congr 1
  have hiS : inB r (s : Int) = !niF r s := by unfold inB; rw [hss]; simp
  rw [hiS]
  have hneg : decide ((s : Int) < 0) = false := decide_eq_false (by omega)
  rw [hneg, Bool.false_or]
  by_cases h0 : 0 ≤ arS r.arcs n
  · have hlt : arS r.arcs n < (r.sigs.length : Int) := by
      by_cases h1 : arS r.arcs n < (r.sigs.length : Int)
      · exact h1
      · rw [labV_out (fun q => h1 q.2)] at hlab
        have := (Bool.and_eq_true_iff.1 hlab).1
        have := of_decide_eq_true this
        omega
    have hI : inB r (arS r.arcs n) = !niF r (arS r.arcs n).toNat := by unfold inB hsB; rw [decide_eq_true ⟨h0, hlt⟩, Bool.true_and]
    rw [hI, decide_eq_false (show ¬ arS r.arcs n < 0 by omega), Bool.false_or]
    cases excB r (t : Int) (s : Int) <;> cases niF r s <;> cases niF r (arS r.arcs n).toNat <;> cases h : (arS r.arcs n == (s : Int)) <;> simp [bne, h]
  · have hI : inB r (arS r.arcs n) = false := by unfold inB hsB; rw [decide_eq_false (fun q => h0 q.1)]; rfl
    rw [hI, decide_eq_true (show arS r.arcs n < 0 by omega)]
    cases excB r (t : Int) (s : Int) <;> cases niF r s <;> cases h : (arS r.arcs n == (s : Int)) <;> simp [bne, h]

/-- place by place -/
def ltV (p q : Mv) : Prop := p.1 < q.1 ∨ (p.1 = q.1 ∧ (p.2.1 < q.2.1 ∨ (p.2.1 = q.2.1 ∧ p.2.2 < q.2.2)))
theorem cfV_lt (p q : Mv) : ltOf cfV p q = true ↔ ltV p q := by
  obtain ⟨a, b, c⟩ := p
  obtain ⟨x, y, z⟩ := q
  unfold ltOf cfV orV cmI ltV
  simp only [decide_eq_true_eq]
  by_cases h1 : a < x
  · simp [h1]
  · by_cases h2 : x < a
    · have : a ≠ x := by omega
      simp [h1, h2, this]
    · have e : a = x := by omega
      subst e
      by_cases h3 : b < y
      · simp [h3]
      · by_cases h4 : y < b
        · have : b ≠ y := by omega
          simp [h3, h4, this]
        · have e : b = y := by omega
          subst e
          by_cases h5 : c < z
          · simp [h5]
          · by_cases h6 : z < c
            · simp [h5, h6]
            · simp [h5, h6]
theorem ltV_false (p q : Mv) : ltOf cfV p q = false ↔ ¬ ltV p q := by rw [← cfV_lt, Bool.not_eq_true]
theorem swoV : SWO (ltOf cfV) where
  irrefl x := by rw [ltV_false]; unfold ltV; omega
  trans x y z h1 h2 := by rw [cfV_lt] at *; unfold ltV at *; omega
  ntrans x y z h1 h2 := by rw [ltV_false] at *; unfold ltV at *; omega
theorem totV (x y : Mv) (h1 : ltOf cfV x y = false) (h2 : ltOf cfV y x = false) : x = y := by
  rw [ltV_false] at *
  obtain ⟨a, b, c⟩ := x
  obtain ⟨x, y, z⟩ := y
  unfold ltV at *
  simp only at h1 h2
  have e1 : a = x := by omega
  subst e1
  have e2 : b = y := by omega
  subst e2
  have e3 : c = z := by omega
  subst e3
  rfl

theorem bkL_sorted (r : SgD) : (bkL r).Pairwise ltV := by
  have hrow : ∀ k s t, (bkRow r k s t).Pairwise ltV := fun k s t => by
    unfold bkRow
    rw [List.pairwise_map]
    refine (List.Pairwise.filter _ List.pairwise_lt_range).imp ?_
    intro a b h
    exact Or.inr ⟨rfl, Or.inr ⟨rfl, by show (a : Int) < (b : Int); omega⟩⟩
  have hsig : ∀ k s, (bkSig r k s).Pairwise ltV := fun k s => by
    unfold bkSig; split
    · exact hrow _ _ _
    · exact List.Pairwise.nil
  have hst : ∀ k t, (bkSt r k t).Pairwise ltV := fun k t => by
    unfold bkSt
    rw [List.pairwise_flatMap]
    refine ⟨fun s _ => hsig k s, List.pairwise_lt_range.imp ?_⟩
    intro a b h x hx y hy
    obtain ⟨_, n, _, _, rfl⟩ := mem_bkSig.1 hx
    obtain ⟨_, m, _, _, rfl⟩ := mem_bkSig.1 hy
    exact Or.inr ⟨rfl, Or.inl (by show (a : Int) < (b : Int); omega)⟩
  unfold bkL brkTo
  rw [List.pairwise_flatMap]
  refine ⟨fun k _ => hst k _, List.pairwise_lt_range.imp ?_⟩
  intro a b h x hx y hy
  unfold bkSt at hx hy
  simp only [List.mem_flatMap, List.mem_range, mem_bkSig] at hx hy
  obtain ⟨s, _, _, n, _, _, rfl⟩ := hx
  obtain ⟨s', _, _, m, _, _, rfl⟩ := hy
  exact Or.inl (by show (a : Int) < (b : Int); omega)
theorem fdL_nodup (r : SgD) : (fdL r).Nodup := by
  unfold fdL fdTo List.Nodup
  rw [List.pairwise_flatMap]
  refine ⟨fun n _ => ?_, List.pairwise_lt_range.imp ?_⟩
  · unfold fdRow
    rw [List.pairwise_map]
    refine (List.Pairwise.filter _ List.pairwise_lt_range).imp ?_
    intro a b h e
    injection e with e1 e2
    injection e2 with e2 e3
    omega
  · intro a b h x hx y hy e
    obtain ⟨s, _, _, rfl⟩ := mem_fdRow.1 hx
    obtain ⟨s', _, _, rfl⟩ := mem_fdRow.1 hy
    injection e with e1 e2
    injection e2 with e2 e3
    omega
theorem bkL_nodup (r : SgD) : (bkL r).Nodup := (bkL_sorted r).imp fun {a b} h e => by subst e; unfold ltV at h; omega
theorem fd_perm {r : SgD} (hg : goodG r = true) : (fdL r).Perm (bkL r) := by
  refine (List.perm_ext_iff_of_nodup (fdL_nodup r) (bkL_nodup r)).2 fun x => ?_
  rw [mem_fdL, mem_bkL]
  constructor
  · rintro ⟨n, s, hn, hs, hp, rfl⟩
    have hin := (arcV_in (arcsB_at (goodG_get hg).2.2.2.1 hn)).1
    obtain ⟨k, hk⟩ := Int.eq_ofNat_of_zero_le hin.1
    rw [pv_same hg hn hs hk] at hp
    have hp2 := Bool.and_eq_true_iff.1 hp
    exact ⟨k, s, n, by omega, hs, hn, hp2.1, hp2.2, by rw [hk]⟩
  · rintro ⟨k, s, n, hk, hs, hn, he, hq, rfl⟩
    have hF : arF r.arcs n = (k : Int) := by
      unfold pvQ at hq
      exact eq_of_beq (Bool.and_eq_true_iff.1 hq).1
    refine ⟨n, s, hn, hs, ?_, by rw [hF]⟩
    rw [pv_same hg hn hs hF, he, hq]; rfl
/-- **sorted, the one is the other** -/
theorem fd_sorted {r : SgD} (hg : goodG r = true) : (fdL r).mergeSort (fun x y => !ltOf cfV y x) = bkL r := by
  refine List.Perm.eq_of_pairwise (le := fun x y => (!ltOf cfV y x) = true) ?_ ?_ ?_ ((List.mergeSort_perm _ _).trans (fd_perm hg))
  · intro a b _ _ h1 h2
    exact totV a b (by simpa using h2) (by simpa using h1)
  · refine List.pairwise_mergeSort ?_ ?_ _
    · intro a b c h1 h2
      have h1' : ltOf cfV b a = false := by simpa using h1
      have h2' : ltOf cfV c b = false := by simpa using h2
      have := swoV.ntrans _ _ _ h2' h1'
      simpa using this
    · intro a b
      cases h : ltOf cfV b a with
      | false => rfl
      | true =>
        have : ltOf cfV a b = false := by
          rw [ltV_false]; rw [cfV_lt] at h; unfold ltV at *; omega
        rw [this]; rfl
  · refine (bkL_sorted r).imp ?_
    intro a b h
    have : ltOf cfV b a = false := by rw [ltV_false]; unfold ltV at *; omega
    rw [this]; rfl

end Go.Proofs.YtnmoocgocnjdjaaGreat

namespace Go.Proofs.YtnmoocgocnjdjaaGreat
open Go.RowKit Go.Sort Go.Shelf

def encP (m : Mv) : List Value := [.int .i64 m.1, .int .i64 m.2.1, .int .i64 m.2.2]
theorem encP_one (m : Mv) : ∀ v ∈ encP m, v.oneCell' = true := by
  intro v hv
  simp only [encP, List.mem_cons, List.not_mem_nil, or_false] at hv
  rcases hv with rfl | rfl | rfl <;> rfl
theorem flat_pv (L : List Mv) : (flatK encP 3 L.toArray).toList = pvCells L := by
  apply List.ext_getElem?
  intro t
  have hsz : (flatK encP 3 L.toArray).size = L.length * 3 := by simp
  by_cases ht : t < L.length * 3
  · have hi : t / 3 < L.length := by omega
    have h0 := pvCells_get L (t / 3) hi
    have hg := get_flatK encP 3 L.toArray t (by simpa using ht)
    have hL : L.toArray[t / 3]! = L[t / 3] := by simp [hi]
    rw [Array.getElem?_toList, Array.getElem?_eq_getElem (by rw [hsz]; exact ht), ← getElem!_pos _ _ (by rw [hsz]; exact ht), hg, hL]
    have e : t / 3 * 3 + t % 3 = t := by omega
    have hm : t % 3 < 3 := Nat.mod_lt _ (by decide)
    have g1 : mvF L (t / 3) = L[t / 3].1 := by simp [mvF, List.getD, hi]
    have g2 : mvB L (t / 3) = L[t / 3].2.1 := by simp [mvB, List.getD, hi]
    have g3 : mvT L (t / 3) = L[t / 3].2.2 := by simp [mvT, List.getD, hi]
    rw [g1, g2, g3] at h0
    rcases (by omega : t % 3 = 0 ∨ t % 3 = 1 ∨ t % 3 = 2) with hr | hr | hr
    · have e2 : t = t / 3 * 3 := by omega
      rw [hr]
      rw [show (pvCells L)[t]? = (pvCells L)[t / 3 * 3]? from by rw [← e2], h0.1]; rfl
    · have e2 : t = t / 3 * 3 + 1 := by omega
      rw [hr]
      rw [show (pvCells L)[t]? = (pvCells L)[t / 3 * 3 + 1]? from by rw [← e2], h0.2.1]; rfl
    · have e2 : t = t / 3 * 3 + 2 := by omega
      rw [hr]
      rw [show (pvCells L)[t]? = (pvCells L)[t / 3 * 3 + 2]? from by rw [← e2], h0.2.2]; rfl
  · rw [List.getElem?_eq_none (by rw [Array.length_toList, hsz]; omega), List.getElem?_eq_none (by rw [pvCells_length]; omega)]

theorem heap_sortedK {w : World} {g n : Nat} {os : Array Obj} {cur : Array Value} {e : TypeId} {fr : Nat × Nat} (d : Array Value) (hb : w.heap[g]? = some (.cells cur e fr)) :
    (grow (putRow id (Sort.ahead w n) g 0 d) os).heap[g]? = some (.cells (putCells id 0 d cur) e fr) := by
  have hg : g < w.heap.size := (Array.getElem?_eq_some_iff.1 hb).1
  rw [heap_grow_old _ _ (by simpa using hg)]
  simp [putRow, mapBlock, Sort.ahead, Array.getElem?_modify, hb, onCells]
theorem grownBy_sortedK {w : World} {g n : Nat} {os : Array Obj} (d : Array Value) : w.grownBy (grow (putRow id (Sort.ahead w n) g 0 d) os) (some g) := by
  refine ⟨rfl, rfl, rfl, by simp, fun k hk hne => ?_⟩
  rw [heap_grow_old _ _ (by simpa using hk)]
  have : g ≠ k := fun e => hne (by rw [e])
  simp [putRow, mapBlock, Sort.ahead, Array.getElem?_modify, this]
theorem take_putCellsK (cur d : Array Value) (h : d.size ≤ cur.size) : (putCells id 0 d cur).toList.take d.size = d.toList := by
  apply List.ext_getElem?
  intro j
  by_cases hj : j < d.size
  · rw [List.getElem?_take_of_lt hj, Array.getElem?_toList]
    simp [putCells, hj, show j < cur.size by omega]
  · rw [List.getElem?_take_eq_none (by omega), List.getElem?_eq_none (by simp; omega)]

set_option maxRecDepth 100000 in
/-- **the sorted row** -/
theorem sortPV_any (B : Nat) (v : Value) (L : List Mv) (W : World) (h : PRow B W v L) (hn : L.length ≤ 1048576) :
    Calls Tryz.prog 153 #[v, .func (.func 154) #[] #[]] W (fun e w' => e = .returned (.tuple #[]) ∧ PRow B w' v (L.mergeSort fun x y => !ltOf cfV y x) ∧ W.grownBy w' v.ownBlock) := by
  rcases h.2 with ⟨rfl, h0⟩ | ⟨g, cap, cur, rfl, hbase, hb, h1, h2, h3, h4⟩
  · have hL : L = [] := List.eq_nil_of_length_eq_zero h0
    subst hL
    refine (AnyF.slices_SortFunc_none (ρ := Tryz.sortPV_ren) { Tryz.sortPV with } none 0 _ W).mono ?_
    rintro e w' ⟨rfl, rfl⟩
    exact ⟨rfl, by rw [List.mergeSort_nil]; exact h, ⟨rfl, rfl, rfl, Nat.le_refl _, fun _ _ _ => rfl⟩⟩
  · have hH : HoldsK encP 3 W g 0 L.toArray := by
      unfold HoldsK
      intro j hj
      have hj' : j < L.length * 3 := by simpa using hj
      refine ⟨?_, h.frozenAt _⟩
      rw [Nat.zero_add, h.cellAt j hj', ← flat_pv, Array.getElem?_toList, Array.getElem?_eq_getElem hj, ← getElem!_pos (flatK encP 3 L.toArray) j hj]
      rfl
    have hg : g < W.heap.size := (Array.getElem?_eq_some_iff.1 hb).1
    have hS := AnyQ.slices_SortFunc_total (ρ := Tryz.sortPV_ren) Tryz.sortPV 3 Tryz.isAgg82 Tryz.sizeOf82 encP (fun _ => rfl) encP_one cfV swoV 154 #[] g 0 cap L.toArray W
      (enters_of Tryz.func154 (by kernel_rfl) rfl) (fun _ _ _ _ x y => compareViolations_any x y _) hH hg (by simp; omega) totV
    have hsz : L.toArray.size = L.length := by simp
    rw [hsz] at hS
    refine hS.mono ?_
    rintro e w' ⟨rfl, n, os, rfl⟩
    refine ⟨rfl, ?_, grownBy_sortedK _⟩
    have hl : (L.mergeSort fun x y => !ltOf cfV y x).length = L.length := List.length_mergeSort _
    generalize (L.mergeSort fun x y => !ltOf cfV y x) = T at hl ⊢
    have hc : (flatK encP 3 T.toArray).size = L.length * 3 := by simp [hl]
    have hfit : L.length * 3 ≤ cap * 3 := Nat.mul_le_mul_right 3 h1
    refine ⟨by rw [pvCells_length], Or.inr ⟨g, cap, _, by rw [hl], hbase, heap_sortedK _ hb, by rw [hl]; exact h1, h2, by simp [putCells, h3], ?_⟩⟩
    rw [hl, ← hc, take_putCellsK _ _ (by rw [hc, h3]; exact hfit)]
    exact flat_pv T

end Go.Proofs.YtnmoocgocnjdjaaGreat

namespace Go.Proofs.YtnmoocgocnjdjaaGreat
open Go.RowKit

set_option maxRecDepth 100000 in
set_option maxHeartbeats 1000000 in
theorem isInput_any (v : Value) (r : SgD) (x : Int) (w : World) (lo : Nat) (hv : SgAt lo w v r) (hs : SmallSg r) :
    Calls Tryz.prog 190 #[v, .int .i64 x] w (RetB w (inB r x)) := by
  have KG := hs.1.1
  obtain ⟨q, hq⟩ : ∃ q, q = inB r x := ⟨_, rfl⟩
  rw [← hq]
  obtain ⟨a0, c0, a1, c1, a2, c2, rfl, h_0, h_1, h_2⟩ := hv.form
  clear hv h_1 h_2 hs
  have HF := Lib.hid h_0; clear h_0
  obtain ⟨ng, hng⟩ : ∃ n, n = r.sigs.length := ⟨_, rfl⟩
  obtain ⟨nc, hnc⟩ : ∃ n, n = r.codes.length := ⟨_, rfl⟩
  obtain ⟨na, hna⟩ : ∃ n, n = r.arcs.length := ⟨_, rfl⟩
  have hq2 : q = (decide (0 ≤ x ∧ x < (ng : Int)) && !niF r x.toNat) := by rw [hng]; exact hq
  rw [← hng] at KG HF
  rw [← hng, ← hnc, ← hna]
  have HNG := Lib.hid hng
  clear hng hnc hna hq
  have hal : Below w.heap.size w (w.alloc (.cells #[.slice a0 ng c0, .slice a1 nc c1, .slice a2 na c2] 80)) := (Below.refl _ _).alloc (Nat.le_refl _) _
  have x0 : (w.alloc (.cells #[.slice a0 ng c0, .slice a1 nc c1, .slice a2 na c2] 80)).cell? ⟨w.heap.size, 0, none⟩ = some (.slice a0 ng c0) := by simp
  have HQ := Lib.hid hq2; clear hq2
  go_enter Tryz.func190, Tryz.ntmps190
  go_wp2_with fail
  generalize w.alloc (.cells #[.slice a0 ng c0, .slice a1 nc c1, .slice a2 na c2] 80) = W at x0 hal ⊢
  refine (sgHasSignal_any a0 a1 a2 ng c0 nc c1 na c2 x W KG).mono ?_
  rintro e W2 ⟨rfl, hb⟩
  have hw : Below w.heap.size w W2 := hal.trans (hb.mono hal.size)
  have x0 := cell_carry x0 (Carries.of 0 hb)
  clear hb
  by_cases hr : 0 ≤ x ∧ x < (ng : Int)
  · have e := HQ.out
    rw [decide_eq_true hr, Bool.true_and] at e
    rw [decide_eq_true hr]
    obtain ⟨k, rfl⟩ := Int.eq_ofNat_of_zero_le hr.1
    have hk : k < ng := by omega
    obtain ⟨ao, cap, hvv, hc, hz⟩ := HF.out
    injection hvv with e1 e2 e3
    subst e1; subst e3; clear e2
    rcases hz with h0 | ⟨b, off, rfl, hlo, hcell⟩
    · rw [← HNG.out] at h0; omega
    obtain ⟨p0, p1⟩ := hcell k (by rw [← HNG.out]; exact hk)
    have d1 := Carries.of lo hw _ _ hlo p1
    try dsimp only at d1
    have e2 : q = !(sgK r.sigs k != 1) := e
    clear hcell p0 p1 e hc hr
    generalize sgK r.sigs k = kd at d1 e2
    have t0 : (kd == 1) = q := by rw [e2, bne, Bool.not_not]
    clear e2
    go_wp2_with fail
    go_ret
    exact ⟨rfl, hw⟩
  · have e := HQ.out
    rw [decide_eq_false hr, Bool.false_and] at e
    rw [decide_eq_false hr]
    subst e
    clear hr
    go_wp2_with fail
    go_ret
    exact ⟨rfl, hw⟩

set_option maxRecDepth 100000 in
set_option maxHeartbeats 2000000 in
theorem mayDisable_any (v : Value) (r : SgD) (f s : Int) (u : Bool) (t x : Int) (w : World) (lo : Nat) (hv : SgAt lo w v r) (hs : SmallSg r) :
    Calls Tryz.prog 152 #[v, .agg #[.int .i64 f, .int .i64 s, .bool u, .int .i64 t], .int .i64 x] w (RetB w ((s == x) || (inB r s && inB r x))) := by
  have HV := Lib.hid hv
  obtain ⟨a0, c0, a1, c1, a2, c2, rfl, h_0, h_1, h_2⟩ := hv.form
  clear hv h_0 h_1 h_2
  have HS := Lib.hid hs; clear hs
  obtain ⟨ng, hng⟩ : ∃ n, n = r.sigs.length := ⟨_, rfl⟩
  obtain ⟨nc, hnc⟩ : ∃ n, n = r.codes.length := ⟨_, rfl⟩
  obtain ⟨na, hna⟩ : ∃ n, n = r.arcs.length := ⟨_, rfl⟩
  rw [← hng, ← hnc, ← hna] at HV ⊢
  clear hng hnc hna
  obtain ⟨W, hWe⟩ : ∃ W, W = (w.alloc (.cells #[.slice a0 ng c0, .slice a1 nc c1, .slice a2 na c2] 80)).alloc (.cells #[.int .i64 f, .int .i64 s, .bool u, .int .i64 t] 138) := ⟨_, rfl⟩
  have hal : Below w.heap.size w W := by rw [hWe]; exact ((Below.refl _ _).alloc (Nat.le_refl _) _).alloc (by simp) _
  have x0 : W.cell? ⟨w.heap.size, 0, none⟩ = some (.slice a0 ng c0) := by rw [hWe]; simp
  have x1 : W.cell? ⟨w.heap.size, 1, none⟩ = some (.slice a1 nc c1) := by rw [hWe]; simp
  have x2 : W.cell? ⟨w.heap.size, 2, none⟩ = some (.slice a2 na c2) := by rw [hWe]; simp
  have y1 : W.cell? ⟨w.heap.size + 1, 1, none⟩ = some (.int .i64 s) := by rw [hWe]; simp
  obtain ⟨e1, t1⟩ : ∃ e, (s == x) = e := ⟨_, rfl⟩
  obtain ⟨e2, he2⟩ : ∃ e, inB r s = e := ⟨_, rfl⟩
  obtain ⟨e3, he3⟩ : ∃ e, inB r x = e := ⟨_, rfl⟩
  rw [t1, he2, he3]
  have HI : Hid (∀ (y : Int) (W' : World), Below W.heap.size W W' → Calls Tryz.prog 190 #[.agg #[.slice a0 ng c0, .slice a1 nc c1, .slice a2 na c2], .int .i64 y] W' (RetB W' (inB r y))) := fun y W' h => isInput_any _ r y W' lo (HV.out.keep (Carries.of lo (hal.trans (h.mono hal.size)))) HS.out
  have H2 := Lib.hid he2; clear he2
  have H3 := Lib.hid he3; clear he3
  go_enter Tryz.func152, Tryz.ntmps152
  cases e1 with
  | true =>
    go_wp2_with fail
    go_ret
    exact ⟨rfl, by rw [← hWe]; exact hal⟩
  | false =>
    go_wp2_with fail
    rw [← hWe]
    clear hWe
    refine (HI.out s W (Below.refl _ _)).mono ?_
    rintro e W2 ⟨rfl, hb⟩
    rw [H2.out]
    have hw2 : Below w.heap.size w W2 := hal.trans (hb.mono hal.size)
    have x0 := cell_carry x0 (Carries.of 0 hb)
    have x1 := cell_carry x1 (Carries.of 0 hb)
    have x2 := cell_carry x2 (Carries.of 0 hb)
    cases e2 with
    | false =>
      go_wp2_with fail
      go_ret
      exact ⟨rfl, hw2⟩
    | true =>
      go_wp2_with fail
      refine (HI.out x W2 hb).mono ?_
      rintro e W3 ⟨rfl, hb3⟩
      rw [H3.out]
      have hw3 : Below w.heap.size w W3 := hw2.trans (hb3.mono hw2.size)
      go_wp2_with fail
      go_ret
      exact ⟨rfl, hw3⟩

end Go.Proofs.YtnmoocgocnjdjaaGreat

namespace Go.Proofs.YtnmoocgocnjdjaaGreat
open Go.RowKit

theorem OwnTrs.setT {B : Nat} {w : World} {t : TypeId} {xs : List Value} {k : Nat} {ts : List Tr} (h : OwnTrs B w xs k ts) {p : Addr} (hT : TyAt w p.block t) (hne : 3 ≠ t) (u : Value) : OwnTrs B (w.setCell p u) xs k ts := by
  refine ⟨h.1, fun i hi => ?_⟩
  obtain ⟨v0, v1, e0, e1, h0, h1⟩ := h.2 i hi
  exact ⟨v0, v1, e0, e1, owns_setT h0 hT hne u, owns_setT h1 hT hne u⟩
theorem OwnTrs.low {B B' : Nat} {w : World} {xs : List Value} {k : Nat} {ts : List Tr} (h : OwnTrs B w xs k ts) (hB : B' ≤ B) : OwnTrs B' w xs k ts := by
  refine ⟨h.1, fun i hi => ?_⟩
  obtain ⟨v0, v1, e0, e1, h0, h1⟩ := h.2 i hi
  exact ⟨v0, v1, e0, e1, h0.low hB, h1.low hB⟩
theorem OwnTrs.congr {B : Nat} {w : World} {xs : List Value} {k : Nat} {ts us : List Tr} (h : OwnTrs B w xs k ts) (he : ∀ i, i < k → us.getD i ([], []) = ts.getD i ([], [])) : OwnTrs B w xs k us := by
  refine ⟨h.1, fun i hi => ?_⟩
  rw [he i hi]
  exact h.2 i hi

/-- a call returns a net of its own -/
def RetOwnN (w : World) (n : NetD) (e : Ending) (w' : World) : Prop :=
  ∃ u xs, e = .returned (.agg #[.int .i64 n.places, u]) ∧ w'.ownsRow w.heap.size 154 2 u n.ts.length xs ∧ OwnTrs w.heap.size w' xs n.ts.length n.ts ∧ Below w.heap.size w w'

end Go.Proofs.YtnmoocgocnjdjaaGreat
