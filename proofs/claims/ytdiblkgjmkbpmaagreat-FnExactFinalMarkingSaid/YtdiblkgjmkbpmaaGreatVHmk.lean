/- BYTES of a blank row (out of Arrb).
   What marked arrays hold (out of Pur).
   A marking as bytes (out of Byte).
   CUTS AND THEIR MARKINGS, said of data: the program's and the model's. -/
import Derived.Test.YtdiblkgjmkbpmaaGreatVArr
import Derived.Test.YtdiblkgjmkbpmaaGreatVSteps
import Derived.Test.YtdiblkgjmkbpmaaGreatVNeta
namespace Go.Proofs.YtdiblkgjmkbpmaaGreat
open Go.RowKit

def firsts (k : Nat) : List UInt8 := List.replicate k 48 ++ List.replicate (30 - k) 0
def blank : List UInt8 := List.replicate 30 48
theorem firsts_length {k : Nat} (h : k ≤ 30) : (firsts k).length = 30 := by simp [firsts]; omega
theorem firsts_zero : firsts 0 = zeros := rfl
theorem firsts_last : firsts 30 = blank := rfl
theorem blank_length : blank.length = 30 := rfl
theorem firsts_succ {k : Nat} (h : k < 30) : (firsts k).set k 48 = firsts (k + 1) := by
  apply List.ext_getElem?
  intro i
  simp only [firsts, List.getElem?_set, List.getElem?_append, List.length_append, List.length_replicate, List.getElem?_replicate]
  repeat' split
  all_goals first | rfl | omega


end Go.Proofs.YtdiblkgjmkbpmaaGreat

namespace Go.Proofs.YtdiblkgjmkbpmaaGreat
open Go.RowKit

theorem set_getD (xs : List UInt8) (q i : Nat) (v : UInt8) (hi : i < xs.length) : (xs.set q v).getD i 0 = if q = i then v else xs.getD i 0 := by
  simp only [List.getD, List.getElem?_set]
  by_cases h : q = i
  · subst h; simp [hi]
  · simp [h]

theorem putAll_getD (v : UInt8) : ∀ (ps : List Int) (xs : List UInt8) (i : Nat), (∀ p ∈ ps, 0 ≤ p) → i < xs.length → (putAll v xs ps).getD i 0 = if (i : Int) ∈ ps then v else xs.getD i 0
  | [], xs, i, _, _ => by simp [putAll]
  | p :: ps, xs, i, hp, hi => by
    have ih := putAll_getD v ps (xs.set p.toNat v) i (fun q hq => hp q (List.mem_cons_of_mem _ hq)) (by simpa using hi)
    have e : putAll v xs (p :: ps) = putAll v (xs.set p.toNat v) ps := rfl
    rw [e, ih, set_getD _ _ _ _ hi]
    have h0 := hp p (List.mem_cons_self ..)
    by_cases h1 : (i : Int) ∈ ps
    · simp [h1]
    · by_cases h2 : p = i
      · subst h2; simp
      · rw [if_neg h1, if_neg (by omega), if_neg (by simp only [List.mem_cons, not_or]; exact ⟨fun h => h2 h.symm, h1⟩)]

theorem InArr.nonneg {l : List Int} (h : InArr l) : ∀ p ∈ l, 0 ≤ p := fun p hp => by
  obtain ⟨i, hi, rfl⟩ := List.mem_iff_getElem.1 hp
  have := (h i hi).1; rwa [getD_eq hi] at this
theorem InArr.lt {l : List Int} (h : InArr l) : ∀ p ∈ l, p < 30 := fun p hp => by
  obtain ⟨i, hi, rfl⟩ := List.mem_iff_getElem.1 hp
  have := (h i hi).2; rwa [getD_eq hi] at this

theorem blank_getD {i : Nat} (h : i < 30) : blank.getD i 0 = 48 := by unfold blank; rw [List.getD, List.getElem?_replicate, if_pos h]; rfl

theorem marked_getD {l : List Int} (h : InArr l) {i : Nat} (hi : i < 30) : (putAll 49 blank l).getD i 0 = if (i : Int) ∈ l then 49 else 48 := by
  rw [putAll_getD 49 l blank i h.nonneg (by rw [blank_length]; exact hi), blank_getD hi]

end Go.Proofs.YtdiblkgjmkbpmaaGreat

namespace Go.Proofs.YtdiblkgjmkbpmaaGreat
open Go.RowKit

def bstr (bs : List UInt8) : ByteArray := ⟨bs.toArray⟩
theorem bstr_size (bs : List UInt8) : (bstr bs).size = bs.length := by simp [bstr, ByteArray.size]
def bytes (s : ByteArray) : List UInt8 := s.data.toList
theorem bytes_length (s : ByteArray) : (bytes s).length = s.size := by simp [bytes]
theorem bytes_bstr (bs : List UInt8) : bytes (bstr bs) = bs := by simp [bytes, bstr]
theorem bstr_bytes (s : ByteArray) : bstr (bytes s) = s := by
  obtain ⟨d⟩ := s
  simp [bytes, bstr]
theorem byte_at {s : ByteArray} {q : Nat} (h : q < s.size) : (bytes s).getD q 0 = s[q] := by
  have h' : q < s.data.toList.length := by simpa using h
  rw [bytes, List.getD, List.getElem?_eq_getElem h']
  rfl

theorem foldl_push (ns : List UInt8) : ∀ s : ByteArray, (ns.map (fun b => (b.toNat : Int))).foldl (fun r n => r.push (UInt8.ofNat n.toNat)) s = ⟨s.data ++ ns.toArray⟩ := by
  induction ns with
  | nil => intro s; simp
  | cons b ns ih =>
    intro s
    simp only [List.map_cons, List.foldl_cons]
    rw [ih]
    obtain ⟨d⟩ := s
    simp [ByteArray.push]

end Go.Proofs.YtdiblkgjmkbpmaaGreat

namespace Go.Proofs.YtdiblkgjmkbpmaaGreat
open Go.RowKit

/-- condition c is in the cut of a set of events, as the program reckons it -/
def thS (x : His) (S : Nat) (c : Nat) : Bool := (decide (cnB x.cs c = -1) || S.testBit (cnB x.cs c).toNat) && decide (x.us.getD c 0 &&& S = 0)
/-- as the model reckons it -/
def thM (cs : List Cnd) (es : List Ev) (P : List Nat) (c : Nat) : Bool := (decide (cnB cs c < 0) || hasB (P.map fun (e : Nat) => (e : Int)) (cnB cs c)) && !usedB es P (c : Int)
def cutS (x : His) (S : Nat) : List Int := outTo (thS x S) x.cs.length
def cutM (cs : List Cnd) (es : List Ev) (P : List Nat) : List Int := outTo (thM cs es P) cs.length
theorem th_eq {x : His} (h : HisG x) {S : Nat} {P : List Nat} (hS : ∀ i, S.testBit i = true ↔ i ∈ P) (hP : ∀ e ∈ P, e < x.es.length) {c : Nat} (hc : c < x.cs.length) : thM x.cs x.es P c = thS x S c := by
  unfold thM thS
  have hby := h.m.by_ c hc
  have h1 : (decide (cnB x.cs c < 0) || hasB (P.map fun (e : Nat) => (e : Int)) (cnB x.cs c)) = (decide (cnB x.cs c = -1) || S.testBit (cnB x.cs c).toNat) := by
    rcases hby with e | ⟨e1, e2⟩
    · rw [decide_eq_true e, decide_eq_true (by omega)]; simp
    · rw [decide_eq_false (by omega), decide_eq_false (by omega), Bool.false_or, Bool.false_or, Bool.eq_iff_iff, hS, hasB_mem, decide_eq_true_iff, List.mem_map]
      constructor
      · rintro ⟨a, ha, e⟩
        rw [show (cnB x.cs c).toNat = a by omega]; exact ha
      · intro ha; exact ⟨_, ha, by omega⟩
  have h2 : (!usedB x.es P (c : Int)) = decide (x.us.getD c 0 &&& S = 0) := by
    rw [Bool.eq_iff_iff, Bool.not_eq_true', decide_eq_true_iff, Bool.eq_false_iff]
    unfold usedB
    rw [Ne, List.any_eq_true]
    constructor
    · intro hno
      apply Classical.byContradiction
      intro hne
      obtain ⟨i, h3, h4⟩ := and_ne.1 hne
      have h5 := (h.m.u c hc i).1 h3
      exact hno ⟨i, (hS i).1 h4, decide_eq_true ((cons_iff h.m.wf h5.1 (c := (c : Int)) (by omega)).1 (by rw [Int.toNat_natCast]; exact h5.2))⟩
    · rintro he ⟨i, hi, hd⟩
      have hil := hP i hi
      have h5 := (cons_iff h.m.wf hil (c := (c : Int)) (by omega)).2 (of_decide_eq_true hd)
      rw [Int.toNat_natCast] at h5
      exact and_ne.2 ⟨i, (h.m.u c hc i).2 ⟨hil, h5⟩, (hS i).2 hi⟩ he
  rw [h1, h2]
theorem outTo_congr {f g : Nat → Bool} : ∀ n, (∀ k, k < n → f k = g k) → outTo f n = outTo g n := fun n h => by
  unfold outTo
  rw [List.filter_congr (fun k hk => h k (by simpa using hk))]
theorem cut_eq {x : His} (h : HisG x) {S : Nat} {P : List Nat} (hS : ∀ i, S.testBit i = true ↔ i ∈ P) (hP : ∀ e ∈ P, e < x.es.length) : cutM x.cs x.es P = cutS x S := outTo_congr _ fun k hk => th_eq h hS hP hk
theorem outTo_in {f : Nat → Bool} {n : Nat} : ∀ k, k < (outTo f n).length → 0 ≤ (outTo f n).getD k 0 ∧ (outTo f n).getD k 0 < (n : Int) := fun k hk => by
  have h0 : (outTo f n).getD k 0 ∈ outTo f n := mem_getD.2 ⟨k, hk, rfl⟩
  generalize (outTo f n).getD k 0 = z at h0 ⊢
  unfold outTo at h0
  obtain ⟨e, he, e2⟩ := List.mem_map.1 h0
  have := List.mem_range.1 (List.mem_filter.1 he).1
  omega
/-- the conditions' places are places of the net -/
theorem hisTo_pl {n : NetD} {s : ByteArray} {evs : List Ev} (hg : goodN n = true) (hs : (s.size : Int) = n.places) : ∀ k, (∀ j, j < k → stepOk n (bornTo s s.size) evs j = true) → ∀ c, c < (hisTo n (bornTo s s.size) evs k).cs.length → 0 ≤ cnP (hisTo n (bornTo s s.size) evs k).cs c ∧ cnP (hisTo n (bornTo s s.size) evs k).cs c < n.places
  | 0, _, c, hc => by
    have key : ∀ m, ∀ i, i < (bornTo s m).length → 0 ≤ cnP (bornTo s m) i ∧ cnP (bornTo s m) i < (m : Int) := by
      intro m
      induction m with
      | zero => intro i hi; exact absurd hi (Nat.not_lt_zero _)
      | succ m ih =>
        intro i hi
        by_cases e : i < (bornTo s m).length
        · have h1 : cnP (bornTo s (m + 1)) i = cnP (bornTo s m) i := by
            show cnP (bornTo s m ++ _) i = _
            simp only [cnP, List.getD, List.getElem?_append_left e]
          rw [h1]
          have := ih i e
          omega
        · have hi' : i < (bornTo s m ++ (if (s.get! m).toNat = 49 then [((m : Int), (-1 : Int))] else [])).length := hi
          rw [List.length_append] at hi'
          show 0 ≤ cnP (bornTo s m ++ (if (s.get! m).toNat = 49 then [((m : Int), (-1 : Int))] else [])) i ∧ cnP (bornTo s m ++ (if (s.get! m).toNat = 49 then [((m : Int), (-1 : Int))] else [])) i < _
          split at hi'
          · rename_i e2
            rw [if_pos e2]
            have : i = (bornTo s m).length := by simp at hi'; omega
            subst this
            simp [cnP, List.getD]
            omega
          · simp at hi'; omega
    have := key s.size c hc
    rw [← hs]; exact this
  | k + 1, h, c, hc => by
    have ih := hisTo_pl hg hs k (fun j hj => h j (by omega))
    have hr := (goodN_tr hg (stepOk_tr (h k (by omega)))).2
    show 0 ≤ cnP ((hisTo n (bornTo s s.size) evs k).cs ++ madeBy n (evT evs k) (hisTo n (bornTo s s.size) evs k).es.length) c ∧ cnP ((hisTo n (bornTo s s.size) evs k).cs ++ madeBy n (evT evs k) (hisTo n (bornTo s s.size) evs k).es.length) c < _
    have hc' : c < ((hisTo n (bornTo s s.size) evs k).cs ++ madeBy n (evT evs k) (hisTo n (bornTo s s.size) evs k).es.length).length := hc
    rw [List.length_append] at hc'
    by_cases e : c < (hisTo n (bornTo s s.size) evs k).cs.length
    · have h1 : cnP ((hisTo n (bornTo s s.size) evs k).cs ++ madeBy n (evT evs k) (hisTo n (bornTo s s.size) evs k).es.length) c = cnP (hisTo n (bornTo s s.size) evs k).cs c := by
        simp only [cnP, List.getD, List.getElem?_append_left e]
      rw [h1]; exact ih c e
    · have hd : c - (hisTo n (bornTo s s.size) evs k).cs.length < (postOf n (evT evs k)).length := by
        unfold madeBy at hc'
        rw [List.length_map] at hc'
        omega
      have h1 : cnP ((hisTo n (bornTo s s.size) evs k).cs ++ madeBy n (evT evs k) (hisTo n (bornTo s s.size) evs k).es.length) c = (postOf n (evT evs k)).getD (c - (hisTo n (bornTo s s.size) evs k).cs.length) 0 := by
        simp only [cnP, List.getD, List.getElem?_append_right (Nat.le_of_not_lt e)]
        unfold madeBy
        simp [hd]
      rw [h1]
      have := riseB_rng hr _ hd
      omega
/-- the marking of the places of some conditions -/
def mkS (p : Nat) (cs : List Cnd) (C : List Int) : ByteArray := bstr ((List.range p).map fun (q : Nat) => if (q : Int) ∈ plL cs C then (49 : UInt8) else 48)
theorem mk_prog {p : Nat} {cs : List Cnd} {C : List Int} (hp : p ≤ 30) (hin : InArr (plS cs C)) : bstr ((putAll 49 blank (plS cs C)).take p) = mkS p cs C := by
  unfold mkS
  congr 1
  have hlen : (putAll 49 blank (plS cs C)).length = 30 := by rw [putAll_length]; rfl
  apply List.ext_getElem
  · rw [List.length_take, hlen, List.length_map, List.length_range]; omega
  · intro i h1 h2
    have hi : i < p := by simpa using h2
    have h3 := marked_getD hin (i := i) (by omega)
    have h4 : (putAll 49 blank (plS cs C)).getD i 0 = (putAll 49 blank (plS cs C))[i]'(by omega) := by simp only [List.getD, List.getElem?_eq_getElem (show i < (putAll 49 blank (plS cs C)).length by omega), Option.getD_some]
    rw [List.getElem_take, List.getElem_map, List.getElem_range, ← h4, h3]
    have hm : ((i : Int) ∈ plS cs C) ↔ ((i : Int) ∈ plL cs C) := by unfold plS; rw [List.mem_mergeSort]
    by_cases h : (i : Int) ∈ plL cs C
    · rw [if_pos h, if_pos (hm.2 h)]
    · rw [if_neg h, if_neg (fun q => h (hm.1 q))]
theorem mem_plM {cs : List Cnd} {C : List Int} {z : Int} : z ∈ plM cs C ↔ z ∈ plL cs C := by
  unfold plM
  rw [mem_puts]
  simp

end Go.Proofs.YtdiblkgjmkbpmaaGreat
