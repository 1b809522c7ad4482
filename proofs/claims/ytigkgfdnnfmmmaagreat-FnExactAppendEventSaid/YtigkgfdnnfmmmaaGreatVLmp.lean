/- CUTS AND THEIR MARKINGS, said of data: the program's and the model's.
   WALK: writeMarking (out of Read).
   WALKS: onlyPlaces, isEnabled, isTransition.
   WALKS: cut, finalMarking, localMarking, LocalMarking of the program (written by gen8/gmkp.py).
   WALKS: finalMarking, localMarking, LocalMarking of the program (written by gen8/gmkp.py). -/
import Derived.Test.YtigkgfdnnfmmmaaGreatVBst
import Derived.Test.YtigkgfdnnfmmmaaGreatVTrn
import Derived.Test.YtigkgfdnnfmmmaaGreatVSteps
import Derived.Test.YtigkgfdnnfmmmaaGreatVOwnt
namespace Go.Proofs.YtigkgfdnnfmmmaaGreat
open Go.RowKit

/-- condition c is in the cut of a set of events, as the program reckons it -/
def thS (x : His) (S : Nat) (c : Nat) : Bool := (decide (cnB x.cs c = -1) || S.testBit (cnB x.cs c).toNat) && decide (x.us.getD c 0 &&& S = 0)
/-- as the model reckons it -/
def thM (cs : List Cnd) (es : List Ev) (P : List Nat) (c : Nat) : Bool := (decide (cnB cs c < 0) || hasB (P.map fun (e : Nat) => (e : Int)) (cnB cs c)) && !usedB es P (c : Int)
def cutS (x : His) (S : Nat) : List Int := outTo (thS x S) x.cs.length
def cutM (cs : List Cnd) (es : List Ev) (P : List Nat) : List Int := outTo (thM cs es P) cs.length
theorem th_eq {x : His} (h : HisG x) {S : Nat} {P : List Nat} (hS : ∀ i, S.testBit i = true ↔ i ∈ P) (hP : ∀ e ∈ P, e < x.es.length) {c : Nat} (hc : c < x.cs.length) : thM x.cs x.es P c = thS x S c := by
  unfold thM thS
  have hby := h.m.by_ c hc
  have h1 : (decide (cnB x.cs c < 0) || hasB (P.map fun (e : Nat) => (e : Int)) (cnB x.cs c)) = (decide (cnB x.cs c = -1) || S.testBit (cnB x.cs c).toNat) := by
    rcases hby with e | ⟨e1, e2⟩
    · rw [decide_eq_true e, decide_eq_true (by omega)]; simp
    · rw [decide_eq_false (by omega), decide_eq_false (by omega), Bool.false_or, Bool.false_or, Bool.eq_iff_iff, hS, hasB_mem, decide_eq_true_iff, List.mem_map]
      constructor
      · rintro ⟨a, ha, e⟩
        rw [show (cnB x.cs c).toNat = a by omega]; exact ha
      · intro ha; exact ⟨_, ha, by omega⟩
  have h2 : (!usedB x.es P (c : Int)) = decide (x.us.getD c 0 &&& S = 0) := by
    rw [Bool.eq_iff_iff, Bool.not_eq_true', decide_eq_true_iff, Bool.eq_false_iff]
    unfold usedB
    rw [Ne, List.any_eq_true]
    constructor
    · intro hno
      apply Classical.byContradiction
      intro hne
      obtain ⟨i, h3, h4⟩ := and_ne.1 hne
      have h5 := (h.m.u c hc i).1 h3
      exact hno ⟨i, (hS i).1 h4, decide_eq_true ((cons_iff h.m.wf h5.1 (c := (c : Int)) (by omega)).1 (by rw [Int.toNat_natCast]; exact h5.2))⟩
    · rintro he ⟨i, hi, hd⟩
      have hil := hP i hi
      have h5 := (cons_iff h.m.wf hil (c := (c : Int)) (by omega)).2 (of_decide_eq_true hd)
      rw [Int.toNat_natCast] at h5
      exact and_ne.2 ⟨i, (h.m.u c hc i).2 ⟨hil, h5⟩, (hS i).2 hi⟩ he
  rw [h1, h2]
theorem outTo_congr {f g : Nat → Bool} : ∀ n, (∀ k, k < n → f k = g k) → outTo f n = outTo g n := fun n h => by
  unfold outTo
  rw [List.filter_congr (fun k hk => h k (by simpa using hk))]
theorem cut_eq {x : His} (h : HisG x) {S : Nat} {P : List Nat} (hS : ∀ i, S.testBit i = true ↔ i ∈ P) (hP : ∀ e ∈ P, e < x.es.length) : cutM x.cs x.es P = cutS x S := outTo_congr _ fun k hk => th_eq h hS hP hk
theorem outTo_in {f : Nat → Bool} {n : Nat} : ∀ k, k < (outTo f n).length → 0 ≤ (outTo f n).getD k 0 ∧ (outTo f n).getD k 0 < (n : Int) := fun k hk => by
  have h0 : (outTo f n).getD k 0 ∈ outTo f n := mem_getD.2 ⟨k, hk, rfl⟩
  generalize (outTo f n).getD k 0 = z at h0 ⊢
  unfold outTo at h0
  obtain ⟨e, he, e2⟩ := List.mem_map.1 h0
  have := List.mem_range.1 (List.mem_filter.1 he).1
  omega
/-- the conditions' places are places of the net -/
theorem hisTo_pl {n : NetD} {s : ByteArray} {evs : List Ev} (hg : goodN n = true) (hs : (s.size : Int) = n.places) : ∀ k, (∀ j, j < k → stepOk n (bornTo s s.size) evs j = true) → ∀ c, c < (hisTo n (bornTo s s.size) evs k).cs.length → 0 ≤ cnP (hisTo n (bornTo s s.size) evs k).cs c ∧ cnP (hisTo n (bornTo s s.size) evs k).cs c < n.places
  | 0, _, c, hc => by
    have key : ∀ m, ∀ i, i < (bornTo s m).length → 0 ≤ cnP (bornTo s m) i ∧ cnP (bornTo s m) i < (m : Int) := by
      intro m
      induction m with
      | zero => intro i hi; exact absurd hi (Nat.not_lt_zero _)
      | succ m ih =>
        intro i hi
        by_cases e : i < (bornTo s m).length
        · have h1 : cnP (bornTo s (m + 1)) i = cnP (bornTo s m) i := by
            show cnP (bornTo s m ++ _) i = _
            simp only [cnP, List.getD, List.getElem?_append_left e]
          rw [h1]
          have := ih i e
          omega
        · have hi' : i < (bornTo s m ++ (if (s.get! m).toNat = 49 then [((m : Int), (-1 : Int))] else [])).length := hi
          rw [List.length_append] at hi'
          show 0 ≤ cnP (bornTo s m ++ (if (s.get! m).toNat = 49 then [((m : Int), (-1 : Int))] else [])) i ∧ cnP (bornTo s m ++ (if (s.get! m).toNat = 49 then [((m : Int), (-1 : Int))] else [])) i < _
          split at hi'
          · rename_i e2
            rw [if_pos e2]
            have : i = (bornTo s m).length := by simp at hi'; omega
            subst this
            simp [cnP, List.getD]
            omega
          · simp at hi'; omega
    have := key s.size c hc
    rw [← hs]; exact this
  | k + 1, h, c, hc => by
    have ih := hisTo_pl hg hs k (fun j hj => h j (by omega))
    have hr := (goodN_tr hg (stepOk_tr (h k (by omega)))).2
    show 0 ≤ cnP ((hisTo n (bornTo s s.size) evs k).cs ++ madeBy n (evT evs k) (hisTo n (bornTo s s.size) evs k).es.length) c ∧ cnP ((hisTo n (bornTo s s.size) evs k).cs ++ madeBy n (evT evs k) (hisTo n (bornTo s s.size) evs k).es.length) c < _
    have hc' : c < ((hisTo n (bornTo s s.size) evs k).cs ++ madeBy n (evT evs k) (hisTo n (bornTo s s.size) evs k).es.length).length := hc
    rw [List.length_append] at hc'
    by_cases e : c < (hisTo n (bornTo s s.size) evs k).cs.length
    · have h1 : cnP ((hisTo n (bornTo s s.size) evs k).cs ++ madeBy n (evT evs k) (hisTo n (bornTo s s.size) evs k).es.length) c = cnP (hisTo n (bornTo s s.size) evs k).cs c := by
        simp only [cnP, List.getD, List.getElem?_append_left e]
      rw [h1]; exact ih c e
    · have hd : c - (hisTo n (bornTo s s.size) evs k).cs.length < (postOf n (evT evs k)).length := by
        unfold madeBy at hc'
        rw [List.length_map] at hc'
        omega
      have h1 : cnP ((hisTo n (bornTo s s.size) evs k).cs ++ madeBy n (evT evs k) (hisTo n (bornTo s s.size) evs k).es.length) c = (postOf n (evT evs k)).getD (c - (hisTo n (bornTo s s.size) evs k).cs.length) 0 := by
        simp only [cnP, List.getD, List.getElem?_append_right (Nat.le_of_not_lt e)]
        unfold madeBy
        simp [hd]
      rw [h1]
      have := riseB_rng hr _ hd
      omega
/-- the marking of the places of some conditions -/
def mkS (p : Nat) (cs : List Cnd) (C : List Int) : ByteArray := bstr ((List.range p).map fun (q : Nat) => if (q : Int) ∈ plL cs C then (49 : UInt8) else 48)
theorem mk_prog {p : Nat} {cs : List Cnd} {C : List Int} (hp : p ≤ 30) (hin : InArr (plS cs C)) : bstr ((putAll 49 blank (plS cs C)).take p) = mkS p cs C := by
  unfold mkS
  congr 1
  have hlen : (putAll 49 blank (plS cs C)).length = 30 := by rw [putAll_length]; rfl
  apply List.ext_getElem
  · rw [List.length_take, hlen, List.length_map, List.length_range]; omega
  · intro i h1 h2
    have hi : i < p := by simpa using h2
    have h3 := marked_getD hin (i := i) (by omega)
    have h4 : (putAll 49 blank (plS cs C)).getD i 0 = (putAll 49 blank (plS cs C))[i]'(by omega) := by simp only [List.getD, List.getElem?_eq_getElem (show i < (putAll 49 blank (plS cs C)).length by omega), Option.getD_some]
    rw [List.getElem_take, List.getElem_map, List.getElem_range, ← h4, h3]
    have hm : ((i : Int) ∈ plS cs C) ↔ ((i : Int) ∈ plL cs C) := by unfold plS; rw [List.mem_mergeSort]
    by_cases h : (i : Int) ∈ plL cs C
    · rw [if_pos h, if_pos (hm.2 h)]
    · rw [if_neg h, if_neg (fun q => h (hm.1 q))]
theorem mem_plM {cs : List Cnd} {C : List Int} {z : Int} : z ∈ plM cs C ↔ z ∈ plL cs C := by
  unfold plM
  rw [mem_puts]
  simp

end Go.Proofs.YtigkgfdnnfmmmaaGreat

namespace Go.Proofs.YtigkgfdnnfmmmaaGreat
open Go.RowKit

end Go.Proofs.YtigkgfdnnfmmmaaGreat

namespace Go.Proofs.YtigkgfdnnfmmmaaGreat
open Go.RowKit


end Go.Proofs.YtigkgfdnnfmmmaaGreat

namespace Go.Proofs.YtigkgfdnnfmmmaaGreat
open Go.RowKit

end Go.Proofs.YtigkgfdnnfmmmaaGreat

namespace Go.Proofs.YtigkgfdnnfmmmaaGreat
open Go.RowKit

theorem plS_in {cs : List Cnd} {C : List Int} {p : Nat} (hp : p ≤ 30) (hpl : ∀ c, c < cs.length → 0 ≤ cnP cs c ∧ cnP cs c < (p : Int)) (hin : ∀ k, k < C.length → 0 ≤ C.getD k 0 ∧ C.getD k 0 < (cs.length : Int)) : InArr (plS cs C) := fun i hi => by
  have h0 : (plS cs C).getD i 0 ∈ plS cs C := mem_getD.2 ⟨i, hi, rfl⟩
  generalize (plS cs C).getD i 0 = z at h0 ⊢
  unfold plS at h0
  rw [List.mem_mergeSort] at h0
  unfold plL at h0
  obtain ⟨c, hc, rfl⟩ := List.mem_map.1 h0
  obtain ⟨k, hk, rfl⟩ := mem_getD.1 hc
  have h1 := hin k hk
  have h2 := hpl (C.getD k 0).toNat (by omega)
  omega

/-- an event of a valid unfolding; the marking behind its past -/
def lmB (n : NetD) (s : ByteArray) (u : UnfD) (a : Int) : Bool := uvB n s u && decide (0 ≤ a ∧ a < (u.es.length : Int))
def lmV (n : NetD) (s : ByteArray) (u : UnfD) (a : Int) : ByteArray := if lmB n s u a = true then mkS n.places.toNat (hisAll n s u.es).cs (cutS (hisAll n s u.es) ((hisAll n s u.es).ps.getD a.toNat 0)) else ByteArray.empty
/-- a call returns a text and a bool -/
def RetSB (w : World) (v : ByteArray) (b : Bool) (e : Ending) (w' : World) : Prop := e = .returned (.tuple #[.string v, .bool b]) ∧ Below w.heap.size w w'
theorem lmV_no {n : NetD} {s : ByteArray} {u : UnfD} {a : Int} (h : lmB n s u a = false) : lmV n s u a = ByteArray.empty := by unfold lmV; rw [h]; rfl
theorem lmV_yes {n : NetD} {s : ByteArray} {u : UnfD} {a : Nat} {p : Nat} (hp : n.places = (p : Int)) (h : lmB n s u a = true) : lmV n s u a = mkS p (hisAll n s u.es).cs (cutS (hisAll n s u.es) ((hisAll n s u.es).ps.getD a 0)) := by unfold lmV; rw [if_pos h, hp]; rfl
/-- the net's places, and those of the conditions of a valid unfolding -/
theorem uvB_pl {n : NetD} {s : ByteArray} {u : UnfD} (h : uvB n s u = true) : ∃ p : Nat, n.places = (p : Int) ∧ p ≤ 30 ∧ ∀ c, c < (hisAll n s u.es).cs.length → 0 ≤ cnP (hisAll n s u.es).cs c ∧ cnP (hisAll n s u.es).cs c < (p : Int) := by
  obtain ⟨hg, h60, _⟩ := uvB_all h
  unfold uvB at h
  simp only [Bool.and_eq_true] at h
  have h5 := of_decide_eq_true h.2.2.1
  have hq := goodN_places hg
  have hz : (s.size : Int) = n.places := by
    have := h.1
    unfold iuB markB at this
    simp only [Bool.and_eq_true, decide_eq_true_eq] at this
    exact this.2.2
  refine ⟨n.places.toNat, by omega, by omega, fun c hc => ?_⟩
  have := hisTo_pl hg hz u.es.length h5 c hc
  unfold hisAll
  omega

end Go.Proofs.YtigkgfdnnfmmmaaGreat
