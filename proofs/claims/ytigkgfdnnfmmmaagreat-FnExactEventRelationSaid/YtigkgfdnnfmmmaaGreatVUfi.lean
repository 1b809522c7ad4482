/- THE TEST OF AN EVENT, the program's and the model's, said of data: one test. The history after k events, and what is known of it.
   WALKS: newHistory, InitialUnfolding of the program.
   WALKS: InitialUnfolding of the program. -/
import Derived.Test.YtigkgfdnnfmmmaaGreatVTrn
import Derived.Test.YtigkgfdnnfmmmaaGreatVHsf
import Derived.Test.YtigkgfdnnfmmmaaGreatVHib
namespace Go.Proofs.YtigkgfdnnfmmmaaGreat
open Go.RowKit

theorem rise_lt {lo hi : Int} {l : List Int} (h : riseB lo hi l = true) : l.Pairwise (· < ·) := by
  have h := of_decide_eq_true h
  rw [List.pairwise_iff_getElem]
  intro i j hi_ hj hij
  have key : ∀ d, i + d + 1 < l.length → l.getD i 0 < l.getD (i + d + 1) 0 := by
    intro d
    induction d with
    | zero =>
      intro hd
      have := (h (i + 1) hd).2.2 (by omega)
      rwa [Nat.add_sub_cancel] at this
    | succ d ih =>
      intro hd
      have h1 := ih (by omega)
      have h2 := (h (i + (d + 1) + 1) hd).2.2 (by omega)
      rw [Nat.add_sub_cancel] at h2
      have e : i + (d + 1) = i + d + 1 := by omega
      rw [e] at h2 ⊢
      omega
  have := key (j - i - 1) (by omega)
  rw [show i + (j - i - 1) + 1 = j by omega] at this
  simpa only [List.getD, List.getElem?_eq_getElem hi_, List.getElem?_eq_getElem hj, Option.getD_some] using this
theorem rise_in {hi : Int} {l : List Int} {n : Nat} (hn : hi = (n : Int) - 1) (h : riseB 0 hi l = true) : ∀ k, k < l.length → 0 ≤ l.getD k 0 ∧ l.getD k 0 < (n : Int) := fun k hk => by
  have := of_decide_eq_true h k hk
  omega
/-- a valid net's Pre lists rise -/
theorem goodN_pre {n : NetD} (h : goodN n = true) {t : Int} (ht : trOk n t = true) : (preOf n t).Pairwise (· < ·) := by
  have ht := of_decide_eq_true ht
  unfold goodN at h
  simp only [Bool.and_eq_true] at h
  have h3 := h.2
  unfold trsGood at h3
  rw [List.all_eq_true] at h3
  have hlt : t.toNat < n.ts.length := by omega
  have h4 := h3 (n.ts[t.toNat]) (List.getElem_mem hlt)
  unfold trGood at h4
  simp only [Bool.and_eq_true] at h4
  unfold preOf
  simp only [List.getD, List.getElem?_eq_getElem hlt, Option.getD_some]
  exact rise_lt h4.1.2
/-- the model's test -/
def fitB (n : NetD) (cs : List Cnd) (es : List Ev) (t : Int) (L : List Int) : Bool :=
  trOk n t && (riseB 0 ((cs.length : Int) - 1) L && (decide (L.length = (preOf n t).length) && (!evHas es t L && (decide (plM cs L = preOf n t) && togB cs es L))))
theorem fit_same {n : NetD} {cs : List Cnd} {es : List Ev} {ps us : List Nat} (hg : goodN n = true) (h : Means cs es ps us) (hf : Fit us) (hn : NodE es) (t : Int) (L : List Int) : fitB n cs es t L = exB n cs es ps us t L := by
  unfold fitB exB
  cases ht : trOk n t with
  | false => rfl
  | true =>
    cases hr : riseB 0 ((cs.length : Int) - 1) L with
    | false => rfl
    | true =>
      have hin := rise_in rfl hr
      rw [togB_eq h hf hn hin]
      simp only [Bool.true_and]
      have hp := pl_same (cs := cs) (L := L) (goodN_pre hg ht)
      by_cases h1 : L.length = (preOf n t).length
      · by_cases h2 : plM cs L = preOf n t
        · rw [decide_eq_true h1, decide_eq_true h2, decide_eq_true (hp.2 ⟨h1, h2⟩), Bool.true_and, Bool.true_and, Bool.true_and, Bool.and_comm]
        · rw [decide_eq_false h2, decide_eq_false (fun q => h2 (hp.1 q).2)]
          simp
      · rw [decide_eq_false h1, decide_eq_false (fun q => h1 (hp.1 q).1)]
        simp

def postOf (n : NetD) (t : Int) : List Int := (n.ts.getD t.toNat ([], [])).2
/-- what an event makes -/
def madeBy (n : NetD) (t : Int) (k : Nat) : List Cnd := (postOf n t).map fun p => (p, (k : Int))
/-- a history: conditions, events, pasts, users -/
structure His where
  cs : List Cnd
  es : List Ev
  ps : List Nat
  us : List Nat
def hisAdd (n : NetD) (x : His) (t : Int) (L : List Int) : His :=
  ⟨x.cs ++ madeBy n t x.es.length, x.es ++ [(t, L)], x.ps ++ [paL x.cs x.ps L ||| 2 ^ x.es.length], orTo x.us L (2 ^ x.es.length) L.length ++ List.replicate (madeBy n t x.es.length).length 0⟩
def hisTo (n : NetD) (c0 : List Cnd) (evs : List Ev) : Nat → His
  | 0 => ⟨c0, [], [], List.replicate c0.length 0⟩
  | k + 1 => hisAdd n (hisTo n c0 evs k) (evT evs k) (evP evs k)
def hisEx (n : NetD) (x : His) (t : Int) (L : List Int) : Bool := exB n x.cs x.es x.ps x.us t L
/-- what is known of it -/
structure HisG (x : His) : Prop where
  m : Means x.cs x.es x.ps x.us
  fp : Fit x.ps
  fu : Fit x.us
  nd : NodE x.es
theorem hisG_zero {n : NetD} {c0 : List Cnd} {evs : List Ev} (h0 : ∀ i, i < c0.length → cnB c0 i = -1) : HisG (hisTo n c0 evs 0) := by
  have hz : ∀ c, (List.replicate c0.length 0).getD c 0 = 0 := fun c => by
    simp only [List.getD, List.getElem?_replicate]
    split <;> rfl
  refine ⟨⟨rfl, by simp [hisTo], fun e he => absurd he (Nat.not_lt_zero _), fun c hc => Or.inl (h0 c hc), fun e he => absurd he (Nat.not_lt_zero _), fun c hc e => ?_⟩, fun k => ?_, fun k => ?_, fun e he => absurd he (Nat.not_lt_zero _)⟩
  · show ((List.replicate c0.length 0).getD c 0).testBit e = true ↔ _
    rw [hz, Nat.zero_testBit]
    exact ⟨fun h => (by cases h), fun h => absurd h.1 (Nat.not_lt_zero _)⟩
  · show ([] : List Nat).getD k 0 < _
    simp
  · show (List.replicate c0.length 0).getD k 0 < _
    rw [hz]; decide
theorem orTo_fit {us : List Nat} {L : List Int} {b : Nat} (hf : Fit us) (hb : b < 18446744073709551616) : ∀ k, Fit (orTo us L b k)
  | 0 => hf
  | k + 1 => fun i => by
    have ih := orTo_fit (L := L) hf hb k
    show ((orTo us L b k).set (L.getD k 0).toNat _).getD i 0 < _
    by_cases h1 : (L.getD k 0).toNat = i
    · by_cases h2 : i < (orTo us L b k).length
      · rw [h1]
        simp only [List.getD, List.getElem?_set_self h2, Option.getD_some]
        exact Nat.or_lt_two_pow (n := 64) (ih i) hb
      · rw [h1]
        have : ((orTo us L b k).set i ((orTo us L b k).getD i 0 ||| b))[i]? = none := List.getElem?_eq_none (by rw [List.length_set]; omega)
        simp only [List.getD] at this ⊢
        rw [this]; decide
    · generalize (L.getD k 0).toNat = x at h1
      have e : ((orTo us L b k).set x ((orTo us L b k).getD x 0 ||| b)).getD i 0 = (orTo us L b k).getD i 0 := by simp only [List.getD, List.getElem?_set_ne h1]
      rw [e]; exact ih i
theorem fit_append {a b : List Nat} (ha : Fit a) (hb : Fit b) : Fit (a ++ b) := fun k => by
  by_cases h : k < a.length
  · simp only [List.getD, List.getElem?_append_left h]; exact ha k
  · simp only [List.getD, List.getElem?_append_right (Nat.le_of_not_lt h)]; exact hb _
/-- one more event keeps it -/
theorem hisG_add {n : NetD} {x : His} (h : HisG x) (h60 : x.es.length < 64) {t : Int} {L : List Int} (he : hisEx n x t L = true) : HisG (hisAdd n x t L) := by
  have hr : riseB 0 ((x.cs.length : Int) - 1) L = true := by
    unfold hisEx exB at he
    simp only [Bool.and_eq_true] at he
    exact he.2.1
  have hin := rise_in rfl hr
  have hb : 2 ^ x.es.length < 18446744073709551616 := by
    have : (2 : Nat) ^ x.es.length < 2 ^ 64 := Nat.pow_lt_pow_right (by decide) h60
    omega
  refine ⟨h.m.add hin fun i hi => ?_, fit_append h.fp fun k => ?_, fit_append (orTo_fit h.fu hb _) fun k => ?_, fun e he => ?_⟩
  · unfold madeBy at hi ⊢
    rw [List.length_map] at hi
    simp [cnB, List.getD, hi]
  · cases k with
    | zero =>
      show paL x.cs x.ps L ||| 2 ^ x.es.length < _
      exact Nat.or_lt_two_pow (n := 64) (paTo_fit h.fp _) hb
    | succ k => simp [List.getD]
  · simp only [List.getD, List.getElem?_replicate]
    split <;> decide
  · have he : e < x.es.length + 1 := by simpa [hisAdd] using he
    show (evP (x.es ++ [(t, L)]) e).Nodup
    by_cases e1 : e < x.es.length
    · rw [evP_left e1]; exact h.nd e e1
    · have : e = x.es.length := by omega
      subst this
      rw [evP_new]
      exact rise_nodup (rise_lt hr)

end Go.Proofs.YtigkgfdnnfmmmaaGreat

namespace Go.Proofs.YtigkgfdnnfmmmaaGreat
open Go.RowKit

/-- the conditions that a marking gives, of the places below k -/
def bornTo (s : ByteArray) : Nat → List Cnd
  | 0 => []
  | k + 1 => bornTo s k ++ (if (s.get! k).toNat = 49 then [((k : Int), -1)] else [])
theorem bornTo_length (s : ByteArray) : ∀ k, (bornTo s k).length ≤ k
  | 0 => Nat.le_refl _
  | k + 1 => by
    have := bornTo_length s k
    unfold bornTo
    rw [List.length_append]
    split
    · simp; omega
    · simp; omega
theorem bornTo_yes {s : ByteArray} {k : Nat} (hk : k < s.size) (h : s[k].toNat = 49) : bornTo s (k + 1) = bornTo s k ++ [((k : Int), -1)] := by
  show bornTo s k ++ _ = _
  rw [get!_eq hk, if_pos h]
theorem bornTo_no {s : ByteArray} {k : Nat} (hk : k < s.size) (h : ¬ s[k].toNat = 49) : bornTo s (k + 1) = bornTo s k := by
  show bornTo s k ++ _ = _
  rw [get!_eq hk, if_neg h, List.append_nil]
theorem rep_add (n : Nat) : List.replicate n (0 : Nat) ++ [0] = List.replicate (n + 1) 0 := by
  rw [List.replicate_succ']
theorem HisAt.new {B H : Nat} {w : World} {P : Int} {vt : Value} (hH : H = w.heap.size) (hB : B ≤ H) :
    HisAt B H (w.alloc (.cells #[.int .i64 P, vt, .slice none 0 0, .slice none 0 0, .slice none 0 0, .slice none 0 0] 77)) P vt (.slice none 0 0) (.slice none 0 0) (.slice none 0 0) (.slice none 0 0) [] [] [] [] := by
  subst hH
  refine ⟨by simp, by simp, by simp, by simp, by simp, by simp, fun i => by simp, TyAt.new _ _ _, hB, CRow.nil _ _, ERow.nil _ _, URow.nil _ _, URow.nil _ _, fun b hb => by simp [Value.ownBlock] at hb⟩

/-- a call returns a history of no event -/
def RetNewH (w : World) (P : Int) (vt : Value) (cs : List Cnd) (e : Ending) (w' : World) : Prop :=
  ∃ H vc vu, e = .returned (.pointer (some ⟨H, 0, none⟩)) ∧ HisAt w.heap.size H w' P vt vc (.slice none 0 0) (.slice none 0 0) vu cs [] [] (List.replicate cs.length 0) ∧ Below w.heap.size w w'

set_option maxRecDepth 100000 in
set_option maxHeartbeats 1000000 in
theorem newHistory_any (vt : Value) (o1 : vt.oneCell' = true) (s : ByteArray) (w : World) (hs : s.size ≤ 1048576) :
    Calls Tryz.prog 87 #[.agg #[.int .i64 (s.size : Int), vt], .string s] w (RetNewH w s.size vt (bornTo s s.size)) := by
  go_enter Tryz.func87, Tryz.ntmps87
  go_wp2_with fail
  obtain ⟨W0, hW0⟩ : ∃ x, x = (w.alloc (.cells #[.int .i64 (s.size : Int), vt] 43)).alloc (.cells #[.int .i64 (s.size : Int), vt, .slice none 0 0, .slice none 0 0, .slice none 0 0, .slice none 0 0] 77) := ⟨_, rfl⟩
  have HN : HisAt w.heap.size (w.heap.size + 1) W0 s.size vt (.slice none 0 0) (.slice none 0 0) (.slice none 0 0) (.slice none 0 0) [] [] [] [] := by
    rw [hW0]
    exact HisAt.new (by simp) (by simp)
  have HW0 : Below w.heap.size w W0 := by rw [hW0]; (repeat' (first | (with_reducible exact Below.refl _ _) | (with_reducible assumption) | (with_reducible refine Below.alloc ?_ ?_ _) | (with_reducible refine Below.drew ?_) | (with_reducible refine below_drewN ?_ _) | (with_reducible refine Below.setCell ?_ ?_ _) | go_size))
  rw [← hW0]
  clear hW0
  have HN0 := Lib.hid HN; clear HN
  go_loopw [12] (fun i wr => ∃ k : Nat, k ≤ s.size ∧ i = .int .i64 k ∧ Hid (∃ vc vu, HisAt w.heap.size (w.heap.size + 1) wr s.size vt vc (.slice none 0 0) (.slice none 0 0) vu (bornTo s k) [] [] (List.replicate (bornTo s k).length 0)) ∧ Below w.heap.size w wr) (fun i _ => s.size - (intOf i).toNat)
  case atStart => exact ⟨0, Nat.zero_le _, rfl, ⟨_, _, HN0.out⟩, HW0⟩
  case round =>
    obtain ⟨k, hk, rfl, hex, hb1⟩ := hrel
    by_cases hlt : k < s.size
    · by_cases h8 : s[k].toNat = 49
      · have t8 : ((s[k].toNat : Int) == 49) = true := by rw [h8]; rfl
        have HB := Lib.hid (bornTo_yes hlt h8)
        clear h8
        obtain ⟨vc, vu, hh⟩ := hex.out
        go_wp2_with fail
        refine (produce_any w.heap.size (w.heap.size + 1) wr s.size vt vc _ _ vu _ _ _ _ _ _ hh (by have := bornTo_length s k; omega) (by have := bornTo_length s k; simp; omega) hb1.size).mono ?_
        rintro e w1 ⟨rfl, vc1, vu1, hh1, hb2⟩
        have H2 : Hid (∃ vc vu, HisAt w.heap.size (w.heap.size + 1) w1 s.size vt vc (.slice none 0 0) (.slice none 0 0) vu (bornTo s (k + 1)) [] [] (List.replicate (bornTo s (k + 1)).length 0)) := by
          refine ⟨vc1, vu1, ?_⟩
          rw [HB.out, List.length_append]
          rw [rep_add] at hh1
          exact hh1
        have hw1 : Below w.heap.size w w1 := hb1.trans hb2
        clear hh hh1 hb2 hex
        go_wp2_with fail
        go_roundw
        case rel => exact ⟨k + 1, by omega, by go_num, H2, hw1⟩
        case measure => simp [intOf]; omega
      · have t8 : ((s[k].toNat : Int) == 49) = false := by simp; omega
        have HB := Lib.hid (bornTo_no hlt h8)
        clear h8
        go_wp2_with fail
        go_roundw
        case rel => exact ⟨k + 1, by omega, by go_num, by rw [HB.out]; exact hex, hb1⟩
        case measure => simp [intOf]; omega
    · have hkk : k = s.size := by omega
      subst hkk
      go_wp2_with fail
      go_ret
      obtain ⟨vc, vu, hh⟩ := hex.out
      exact ⟨_, vc, vu, rfl, hh, hb1⟩

end Go.Proofs.YtigkgfdnnfmmmaaGreat

namespace Go.Proofs.YtigkgfdnnfmmmaaGreat
open Go.RowKit

def iuB (n : NetD) (s : ByteArray) : Bool := goodN n && markB n s
def iuL (n : NetD) (s : ByteArray) : List Cnd := if iuB n s = true then bornTo s s.size else []
theorem iuL_no {n : NetD} {s : ByteArray} (h : iuB n s = false) : iuL n s = [] := by unfold iuL; rw [h]; rfl
theorem iuL_yes {n : NetD} {s : ByteArray} (h : iuB n s = true) : iuL n s = bornTo s s.size := by unfold iuL; rw [h]; rfl
theorem iuL_length {n : NetD} {s : ByteArray} (hs : s.size ≤ 1048576) : (iuL n s).length ≤ 1048576 := by
  unfold iuL
  split
  · exact Nat.le_trans (bornTo_length _ _) hs
  · exact Nat.zero_le _

/-- a call returns an unfolding of no event, its conditions in a row of its own, and this bool -/
def RetUfN (w : World) (cs : List Cnd) (b : Bool) (e : Ending) (w' : World) : Prop :=
  ∃ v, e = .returned (.tuple #[.agg #[v, .slice none 0 0], .bool b]) ∧ CRow w.heap.size w' v cs ∧ Below w.heap.size w w'

end Go.Proofs.YtigkgfdnnfmmmaaGreat
