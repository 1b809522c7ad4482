/- THE WHOLE TEST of an unfolding, said of data: step by step, the program's and the model's. -/
import Derived.Test.YtigkgfdnnfmmmaaGreatVUfi
namespace Go.Proofs.YtigkgfdnnfmmmaaGreat
open Go.RowKit

theorem rise_ge {hi : Int} {l : List Int} (h : riseB 0 hi l = true) : ∀ i : Nat, i < l.length → (i : Int) ≤ l.getD i 0
  | 0, h0 => (of_decide_eq_true h 0 h0).1
  | i + 1, h1 => by
    have ih := rise_ge h i (by omega)
    have := (of_decide_eq_true h (i + 1) h1).2.2 (by omega)
    rw [Nat.add_sub_cancel] at this
    omega
theorem rise_size {hi : Int} {l : List Int} {n : Nat} (h : riseB 0 hi l = true) (hn : hi + 1 ≤ (n : Int)) : l.length ≤ n := by
  by_cases e : l.length = 0
  · omega
  · have h1 := rise_ge h (l.length - 1) (by omega)
    have h2 := (of_decide_eq_true h (l.length - 1) (by omega)).2.1
    omega
theorem goodN_tr {n : NetD} (h : goodN n = true) {t : Int} (ht : trOk n t = true) : riseB 0 (n.places - 1) (preOf n t) = true ∧ riseB 0 (n.places - 1) (postOf n t) = true := by
  have ht := of_decide_eq_true ht
  unfold goodN at h
  simp only [Bool.and_eq_true] at h
  have h3 := h.2
  unfold trsGood at h3
  rw [List.all_eq_true] at h3
  have hlt : t.toNat < n.ts.length := by omega
  have h4 := h3 (n.ts[t.toNat]) (List.getElem_mem hlt)
  unfold trGood at h4
  simp only [Bool.and_eq_true] at h4
  unfold preOf postOf
  simp only [List.getD, List.getElem?_eq_getElem hlt, Option.getD_some]
  exact ⟨h4.1.2, h4.2⟩
theorem goodN_places {n : NetD} (h : goodN n = true) : 1 ≤ n.places ∧ n.places ≤ 30 := by
  unfold goodN at h
  simp only [Bool.and_eq_true] at h
  exact of_decide_eq_true h.1.1
theorem post_len {n : NetD} (h : goodN n = true) {t : Int} (ht : trOk n t = true) : (postOf n t).length ≤ 30 := rise_size (goodN_tr h ht).2 (by have := goodN_places h; omega)
theorem pre_len {n : NetD} (h : goodN n = true) {t : Int} (ht : trOk n t = true) : (preOf n t).length ≤ 30 := rise_size (goodN_tr h ht).1 (by have := goodN_places h; omega)

/-- event k may follow those before it -/
def stepOk (n : NetD) (c0 : List Cnd) (evs : List Ev) (k : Nat) : Bool := hisEx n (hisTo n c0 evs k) (evT evs k) (evP evs k)
def runB (n : NetD) (c0 : List Cnd) (evs : List Ev) : Bool := decide (∀ k, k < evs.length → stepOk n c0 evs k = true)
theorem runB_no {n : NetD} {c0 : List Cnd} {evs : List Ev} {k : Nat} (hk : k < evs.length) (h : stepOk n c0 evs k = false) : runB n c0 evs = false := by
  unfold runB
  rw [decide_eq_false_iff_not]
  intro q
  rw [q k hk] at h
  cases h
theorem runB_yes {n : NetD} {c0 : List Cnd} {evs : List Ev} (h : ∀ k, k < evs.length → stepOk n c0 evs k = true) : runB n c0 evs = true := decide_eq_true h
theorem stepOk_tr {n : NetD} {c0 : List Cnd} {evs : List Ev} {k : Nat} (h : stepOk n c0 evs k = true) : trOk n (evT evs k) = true := by
  unfold stepOk hisEx exB at h
  simp only [Bool.and_eq_true] at h
  exact h.1
theorem stepOk_in {n : NetD} {c0 : List Cnd} {evs : List Ev} {k : Nat} (h : stepOk n c0 evs k = true) : ∀ q, q < (evP evs k).length → 0 ≤ (evP evs k).getD q 0 ∧ (evP evs k).getD q 0 < ((hisTo n c0 evs k).cs.length : Int) := by
  unfold stepOk hisEx exB at h
  simp only [Bool.and_eq_true] at h
  exact rise_in rfl h.2.1
theorem hisTo_es {n : NetD} {c0 : List Cnd} {evs : List Ev} : ∀ k, k ≤ evs.length → (hisTo n c0 evs k).es = evs.take k
  | 0, _ => rfl
  | k + 1, h => by
    show (hisTo n c0 evs k).es ++ [(evT evs k, evP evs k)] = _
    rw [hisTo_es k (by omega), List.take_succ_eq_append_getElem (by omega), ev_getD (by omega)]
theorem hisTo_len {n : NetD} {c0 : List Cnd} {evs : List Ev} : ∀ k, (hisTo n c0 evs k).es.length = k
  | 0 => rfl
  | k + 1 => by
    show ((hisTo n c0 evs k).es ++ [(evT evs k, evP evs k)]).length = _
    rw [List.length_append, hisTo_len k]; rfl
theorem hisTo_cs {n : NetD} {c0 : List Cnd} {evs : List Ev} (hg : goodN n = true) : ∀ k, (∀ j, j < k → stepOk n c0 evs j = true) → (hisTo n c0 evs k).cs.length ≤ c0.length + 30 * k
  | 0, _ => by simp [hisTo]
  | k + 1, h => by
    have ih := hisTo_cs hg k (fun j hj => h j (by omega))
    show ((hisTo n c0 evs k).cs ++ madeBy n (evT evs k) (hisTo n c0 evs k).es.length).length ≤ _
    have := post_len hg (stepOk_tr (h k (by omega)))
    rw [List.length_append]
    unfold madeBy
    rw [List.length_map]
    omega
theorem born_by (s : ByteArray) : ∀ k i, i < (bornTo s k).length → cnB (bornTo s k) i = -1
  | 0, i, h => absurd h (Nat.not_lt_zero _)
  | k + 1, i, h => by
    by_cases e : i < (bornTo s k).length
    · show cnB (bornTo s k ++ _) i = -1
      rw [cnB_left e]; exact born_by s k i e
    · show cnB (bornTo s k ++ (if (s.get! k).toNat = 49 then [((k : Int), -1)] else [])) i = -1
      have h2 : i < (bornTo s k ++ (if (s.get! k).toNat = 49 then [((k : Int), (-1 : Int))] else [])).length := h
      rw [List.length_append] at h2
      split at h2
      · rename_i e2
        rw [if_pos e2]
        have : i = (bornTo s k).length := by simp at h2; omega
        subst this
        simp [cnB, List.getD]
      · simp at h2; omega
theorem hisTo_good {n : NetD} {s : ByteArray} {evs : List Ev} : ∀ k, k ≤ 60 → (∀ j, j < k → stepOk n (bornTo s s.size) evs j = true) → HisG (hisTo n (bornTo s s.size) evs k)
  | 0, _, _ => hisG_zero (n := n) (evs := evs) (born_by s s.size)
  | k + 1, h, hs => by
    have ih := hisTo_good (n := n) (s := s) (evs := evs) k (by omega) (fun j hj => hs j (by omega))
    exact hisG_add ih (by rw [hisTo_len]; omega) (hs k (by omega))
theorem hisTo_evP {n : NetD} {c0 : List Cnd} {evs : List Ev} {k : Nat} (hk : k ≤ evs.length) {i : Nat} (hi : i < k) : evP (hisTo n c0 evs k).es i = evP evs i ∧ evT (hisTo n c0 evs k).es i = evT evs i := by
  rw [hisTo_es k hk]
  simp [evP, evT, List.getD, hi]
theorem hisTo_ok {n : NetD} {s : ByteArray} {evs : List Ev} (hg : goodN n = true) (hs : (bornTo s s.size).length ≤ 1000000) (hev : SmallEvs evs) {k : Nat} (hk : k ≤ evs.length) (h60 : k ≤ 60) (h : ∀ j, j < k → stepOk n (bornTo s s.size) evs j = true) :
    HisOk n (hisTo n (bornTo s s.size) evs k).cs (hisTo n (bornTo s s.size) evs k).es (hisTo n (bornTo s s.size) evs k).ps (hisTo n (bornTo s s.size) evs k).us := by
  have hG := hisTo_good (n := n) (s := s) (evs := evs) k h60 h
  have hc := hisTo_cs hg k h
  have hl := hisTo_len (n := n) (c0 := bornTo s s.size) (evs := evs) k
  refine ⟨by omega, by omega, hG.m.pe, hG.m.uc, by rw [hG.m.pe]; exact hG.m.by_, hG.fp, hG.fu, fun i hi => ?_⟩
  rw [(hisTo_evP hk (by omega)).1]
  exact hev.2 i (by omega)
/-- the model's test of event k is the program's -/
theorem fit_step {n : NetD} {s : ByteArray} {evs : List Ev} (hg : goodN n = true) {k : Nat} (h60 : k ≤ 60) (h : ∀ j, j < k → stepOk n (bornTo s s.size) evs j = true) (t : Int) (L : List Int) :
    fitB n (hisTo n (bornTo s s.size) evs k).cs (hisTo n (bornTo s s.size) evs k).es t L = hisEx n (hisTo n (bornTo s s.size) evs k) t L := by
  have hG := hisTo_good (n := n) (s := s) (evs := evs) k h60 h
  exact fit_same hg hG.m hG.fu hG.nd t L

/-- the conditions behind all events -/
def finC (n : NetD) (s : ByteArray) (u : UnfD) : List Cnd := (hisTo n (bornTo s s.size) u.es u.es.length).cs
/-- a valid unfolding -/
def uvB (n : NetD) (s : ByteArray) (u : UnfD) : Bool :=
  iuB n s && (decide (u.es.length ≤ 60) && (runB n (bornTo s s.size) u.es && (decide ((finC n s u).length ≤ 200) && decide (finC n s u = u.cs))))
theorem uvB_lim {n : NetD} {s : ByteArray} {u : UnfD} (h : 60 < u.es.length ∨ 200 < u.cs.length) : uvB n s u = false := by
  unfold uvB
  by_cases h1 : u.es.length ≤ 60
  · by_cases h2 : finC n s u = u.cs
    · have h3 : ¬ (finC n s u).length ≤ 200 := by rw [h2]; omega
      rw [decide_eq_false h3]
      simp
    · rw [decide_eq_false h2]
      simp
  · rw [decide_eq_false h1]
    simp
theorem iuB_good {n : NetD} {s : ByteArray} (h : iuB n s = true) : goodN n = true ∧ s.size ≤ 30 := by
  unfold iuB markB at h
  simp only [Bool.and_eq_true] at h
  have h1 := goodN_places h.1
  have h2 := of_decide_eq_true h.2.2
  exact ⟨h.1, by omega⟩
theorem born_len {n : NetD} {s : ByteArray} (h : iuB n s = true) : (bornTo s s.size).length ≤ 30 := Nat.le_trans (bornTo_length s s.size) (iuB_good h).2

end Go.Proofs.YtigkgfdnnfmmmaaGreat
