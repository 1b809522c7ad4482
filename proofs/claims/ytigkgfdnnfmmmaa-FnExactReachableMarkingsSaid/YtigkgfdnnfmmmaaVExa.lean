/- PLAIN PART: the search through the markings, as data: one state a step, what it comes to. No walk is here. -/
import Derived.Test.YtigkgfdnnfmmmaaVSfireb
import Derived.Test.YtigkgfdnnfmmmaaVWrm
import Derived.Test.YtigkgfdnnfmmmaaVPair
import Derived.Test.YtigkgfdnnfmmmaaVRgp
namespace Go.Proofs.Ytigkgfdnnfmmmaa
open Go.RowKit

structure ExS where
  ms : List ByteArray
  mv : List Mv

/-- where a search stands, or what it came to -/
inductive ExC where
  | on (k t : Nat) (s : ExS)
  | done (s : ExS)
  | bad (k t : Nat) (s : ExS)
  | full

def exTr (n : NetD) (t : Nat) : Tr := n.ts.getD t ([], [])
def exNext (n : NetD) (m : ByteArray) (t : Nat) : ByteArray := bstr (putAll 49 (restB m (exTr n t)) (exTr n t).2)
def exOk (n : NetD) (m : ByteArray) (t : Nat) : Bool := postB (restB m (exTr n t)) (exTr n t).2
def exMs (ms : List ByteArray) (m : ByteArray) : List ByteArray := if findN ms m < ms.length then ms else ms ++ [m]
def exAdd (s : ExS) (k t : Nat) (m : ByteArray) : ExS := ⟨exMs s.ms m, s.mv ++ [((k : Int), (t : Int), (findN s.ms m : Int))]⟩
def exStep (n : NetD) (ea : Bool) (mx : Nat) : ExC → ExC
  | .on k t s =>
    if k < s.ms.length then
      if t < n.ts.length then
        if readyOf n (stN s.ms k) t = true then
          if exOk n (stN s.ms k) t = true then
            if ea = true ∧ mx < (exMs s.ms (exNext n (stN s.ms k) t)).length then .full
            else .on k (t + 1) (exAdd s k t (exNext n (stN s.ms k) t))
          else .bad k t s
        else .on k (t + 1) s
      else if ea = false ∧ mx < s.ms.length then .full else .on (k + 1) 0 s
    else .done s
  | c => c
def exTo (n : NetD) (ea : Bool) (mx : Nat) (m0 : ByteArray) : Nat → ExC
  | 0 => .on 0 0 ⟨[m0], []⟩
  | i + 1 => exStep n ea mx (exTo n ea mx m0 i)
def exF (n : NetD) (ea : Bool) (mx : Nat) (m0 : ByteArray) : ExC := exTo n ea mx m0 ((mx + 26) * 25)
def ExC.isOn : ExC → Bool
  | .on _ _ _ => true
  | _ => false

theorem exMs_length_le (ms : List ByteArray) (m : ByteArray) : ms.length ≤ (exMs ms m).length ∧ (exMs ms m).length ≤ ms.length + 1 := by
  unfold exMs
  split <;> simp
theorem findN_le (ms : List ByteArray) (m : ByteArray) : findN ms m ≤ ms.length := List.findIdx_le_length
theorem stN_append_left {ms : List ByteArray} {m : ByteArray} {j : Nat} (h : j < ms.length) : stN (ms ++ [m]) j = stN ms j := by
  simp [stN, List.getD, List.getElem?_append_left h]
theorem stN_append_last (ms : List ByteArray) (m : ByteArray) : stN (ms ++ [m]) ms.length = m := by
  simp [stN, List.getD]
theorem exMs_old {ms : List ByteArray} {m : ByteArray} {j : Nat} (h : j < ms.length) : stN (exMs ms m) j = stN ms j := by
  unfold exMs
  split
  · rfl
  · exact stN_append_left h
theorem findN_new {ms : List ByteArray} {m : ByteArray} (h : ¬ findN ms m < ms.length) : findN ms m = ms.length ∧ ∀ j, j < ms.length → stN ms j ≠ m := by
  have he : findN ms m = ms.length := by have := findN_le ms m; omega
  refine ⟨he, fun j hj hq => ?_⟩
  unfold findN at he
  rw [List.findIdx_eq_length] at he
  have := he ms[j] (List.getElem_mem hj)
  rw [← stN_getD hj] at this
  simp [hq] at this
theorem findN_old {ms : List ByteArray} {m : ByteArray} (h : findN ms m < ms.length) : stN ms (findN ms m) = m := by
  have := List.findIdx_getElem (p := fun x => decide (x = m)) (xs := ms) (w := h)
  rw [stN_getD h]
  exact of_decide_eq_true this


theorem exMs_has (ms : List ByteArray) (m : ByteArray) : findN ms m < (exMs ms m).length := by
  unfold exMs
  split
  · assumption
  · rename_i h
    have := (findN_new h).1
    simp; omega
theorem exMs_dist {ms : List ByteArray} {m : ByteArray} (h : ∀ a b, a < b → b < ms.length → stN ms a ≠ stN ms b) : ∀ a b, a < b → b < (exMs ms m).length → stN (exMs ms m) a ≠ stN (exMs ms m) b := by
  intro a b hab hb
  unfold exMs at hb ⊢
  split at hb
  · rename_i hf
    rw [if_pos hf]; exact h a b hab hb
  · rename_i hf
    rw [if_neg hf]
    simp at hb
    by_cases hbl : b < ms.length
    · rw [stN_append_left hbl, stN_append_left (by omega)]; exact h a b hab hbl
    · have : b = ms.length := by omega
      subst this
      rw [stN_append_last, stN_append_left hab]
      exact (findN_new hf).2 a hab
theorem exMs_all {P : ByteArray → Prop} {ms : List ByteArray} {m : ByteArray} (h : ∀ a, a < ms.length → P (stN ms a)) (hm : P m) : ∀ a, a < (exMs ms m).length → P (stN (exMs ms m) a) := by
  intro a ha
  unfold exMs at ha ⊢
  split at ha
  · rename_i hf
    rw [if_pos hf]; exact h a ha
  · rename_i hf
    rw [if_neg hf]
    simp at ha
    by_cases hal : a < ms.length
    · rw [stN_append_left hal]; exact h a hal
    · have : a = ms.length := by omega
      subst this
      rw [stN_append_last]; exact hm

theorem ex_dig {n : NetD} {bs : List UInt8} (h : Dig bs) (hl : (bs.length : Int) = n.places) : markB n (bstr bs) = true := by
  unfold markB digB
  rw [bstr_size, decide_eq_true hl, Bool.and_true, decide_eq_true_eq]
  intro i hi
  have hs : i < (bstr bs).size := by rw [bstr_size]; exact hi
  rw [get!_eq hs, ← byte_at hs, bytes_bstr]
  rcases h i hi with c | c
  · left; rw [c]; rfl
  · right; rw [c]; rfl
theorem exNext_mark {n : NetD} {m : ByteArray} {t : Nat} (hg : goodN n = true) (hm : markB n m = true) (ht : t < n.ts.length) : markB n (exNext n m t) = true := by
  obtain ⟨i1, i2, _, _⟩ := good_tr hg ht
  unfold exNext
  refine ex_dig ?_ ?_
  · exact ((mark_dig hm).put (Or.inl rfl) i1.nonneg).put (Or.inr rfl) i2.nonneg
  · rw [putAll_length]; unfold restB; rw [putAll_length, bytes_length]; exact mark_size hm

/-- what holds of the state at each place -/
structure ExOk (n : NetD) (mx : Nat) (m0 : ByteArray) (i k t : Nat) (s : ExS) : Prop where
  place : i = k * (n.ts.length + 1) + t
  tle : t ≤ n.ts.length
  tin : t ≠ 0 → k < s.ms.length
  kle : k ≤ s.ms.length
  pos : 0 < s.ms.length
  bound : s.ms.length ≤ mx + t
  first : stN s.ms 0 = m0
  dist : ∀ a b, a < b → b < s.ms.length → stN s.ms a ≠ stN s.ms b
  mks : ∀ a, a < s.ms.length → markB n (stN s.ms a) = true
  mvs : s.mv.length ≤ i
  bd : ∀ q, q < s.mv.length → (0 ≤ mvF s.mv q ∧ mvF s.mv q < s.ms.length) ∧ (0 ≤ mvT s.mv q ∧ mvT s.mv q < s.ms.length) ∧ (0 ≤ mvB s.mv q ∧ mvB s.mv q < n.ts.length)

theorem mv_snoc {ms : List Mv} {x : Mv} {q : Nat} (h : q < ms.length) : mvF (ms ++ [x]) q = mvF ms q ∧ mvB (ms ++ [x]) q = mvB ms q ∧ mvT (ms ++ [x]) q = mvT ms q := by
  simp [mvF, mvB, mvT, List.getD, List.getElem?_append_left h]
theorem mv_last (ms : List Mv) (x : Mv) : mvF (ms ++ [x]) ms.length = x.1 ∧ mvB (ms ++ [x]) ms.length = x.2.1 ∧ mvT (ms ++ [x]) ms.length = x.2.2 := by
  simp [mvF, mvB, mvT, List.getD]

theorem exOk_zero {n : NetD} {mx : Nat} {m0 : ByteArray} (hx : 1 ≤ mx) (hm : markB n m0 = true) : ExOk n mx m0 0 0 0 ⟨[m0], []⟩ :=
  ⟨by simp, Nat.zero_le _, fun h => absurd rfl h, Nat.zero_le _, by simp, by simpa using hx, rfl, fun a b h1 h2 => by simp at h2; omega, fun a ha => by
    simp at ha; subst ha; exact hm, Nat.le_refl _, fun q hq => absurd hq (by simp)⟩
theorem ExOk.skip {n : NetD} {mx : Nat} {m0 : ByteArray} {i k t : Nat} {s : ExS} (h : ExOk n mx m0 i k t s) (hk : k < s.ms.length) (ht : t < n.ts.length) : ExOk n mx m0 (i + 1) k (t + 1) s :=
  ⟨by have := h.place; omega, ht, fun _ => hk, h.kle, h.pos, by have := h.bound; omega, h.first, h.dist, h.mks, by have := h.mvs; omega, h.bd⟩
theorem ExOk.add {n : NetD} {mx : Nat} {m0 : ByteArray} {i k t : Nat} {s : ExS} (h : ExOk n mx m0 i k t s) (hg : goodN n = true) (hk : k < s.ms.length) (ht : t < n.ts.length) : ExOk n mx m0 (i + 1) k (t + 1) (exAdd s k t (exNext n (stN s.ms k) t)) := by
  have hl := exMs_length_le s.ms (exNext n (stN s.ms k) t)
  have hh := exMs_has s.ms (exNext n (stN s.ms k) t)
  refine ⟨by have := h.place; omega, ht, fun _ => ?_, ?_, ?_, ?_, ?_, ?_, ?_, ?_, ?_⟩ <;> simp only [exAdd]
  · omega
  · omega
  · have := h.pos; omega
  · have := h.bound; omega
  · rw [exMs_old h.pos]; exact h.first
  · exact exMs_dist h.dist
  · exact exMs_all (P := fun x => markB n x = true) h.mks (exNext_mark hg (h.mks k hk) ht)
  · have := h.mvs; simp; omega
  · intro q hq
    by_cases hql : q < s.mv.length
    · obtain ⟨e1, e2, e3⟩ := mv_snoc (x := ((k : Int), (t : Int), (findN s.ms (exNext n (stN s.ms k) t) : Int))) hql
      rw [e1, e2, e3]
      have := h.bd q hql
      omega
    · have : q = s.mv.length := by simp at hq; omega
      subst this
      obtain ⟨e1, e2, e3⟩ := mv_last s.mv ((k : Int), (t : Int), (findN s.ms (exNext n (stN s.ms k) t) : Int))
      rw [e1, e2, e3]
      simp only
      omega
theorem ExOk.next {n : NetD} {mx : Nat} {m0 : ByteArray} {i k t : Nat} {s : ExS} (h : ExOk n mx m0 i k t s) (hk : k < s.ms.length) (ht : t = n.ts.length) (hb : s.ms.length ≤ mx) : ExOk n mx m0 (i + 1) (k + 1) 0 s :=
  ⟨by have := h.place; rw [Nat.add_mul]; omega, Nat.zero_le _, fun h => absurd rfl h, hk, h.pos, hb, h.first, h.dist, h.mks, by have := h.mvs; omega, h.bd⟩

/-! the steps, one by one -/
section
variable {n : NetD} {ea : Bool} {mx : Nat} {m0 : ByteArray} {i k t : Nat} {s : ExS}
theorem ex_end (h : exTo n ea mx m0 i = .on k t s) (hk : ¬ k < s.ms.length) : exTo n ea mx m0 (i + 1) = .done s := by
  rw [exTo, h]; simp only [exStep]; rw [if_neg hk]
theorem ex_row_full (h : exTo n ea mx m0 i = .on k t s) (hk : k < s.ms.length) (ht : ¬ t < n.ts.length) (he : ea = false) (hf : mx < s.ms.length) : exTo n ea mx m0 (i + 1) = .full := by
  rw [exTo, h]; simp only [exStep]; rw [if_pos hk, if_neg ht, if_pos ⟨he, hf⟩]
theorem ex_row (h : exTo n ea mx m0 i = .on k t s) (hk : k < s.ms.length) (ht : ¬ t < n.ts.length) (hf : ea = true ∨ s.ms.length ≤ mx) : exTo n ea mx m0 (i + 1) = .on (k + 1) 0 s := by
  rw [exTo, h]; simp only [exStep]; have hno : ¬ (ea = false ∧ mx < s.ms.length) := by
    rintro ⟨e1, e2⟩
    rcases hf with e | e
    · rw [e] at e1; cases e1
    · omega
  rw [if_pos hk, if_neg ht, if_neg hno]
theorem ex_not (h : exTo n ea mx m0 i = .on k t s) (hk : k < s.ms.length) (ht : t < n.ts.length) (hr : readyOf n (stN s.ms k) t = false) : exTo n ea mx m0 (i + 1) = .on k (t + 1) s := by
  rw [exTo, h]; simp only [exStep]; rw [if_pos hk, if_pos ht, if_neg (by rw [hr]; simp)]
theorem ex_bad (h : exTo n ea mx m0 i = .on k t s) (hk : k < s.ms.length) (ht : t < n.ts.length) (hr : readyOf n (stN s.ms k) t = true) (ho : exOk n (stN s.ms k) t = false) : exTo n ea mx m0 (i + 1) = .bad k t s := by
  rw [exTo, h]; simp only [exStep]; rw [if_pos hk, if_pos ht, if_pos hr, if_neg (by rw [ho]; simp)]
theorem ex_full (h : exTo n ea mx m0 i = .on k t s) (hk : k < s.ms.length) (ht : t < n.ts.length) (hr : readyOf n (stN s.ms k) t = true) (ho : exOk n (stN s.ms k) t = true) (he : ea = true) (hf : mx < (exMs s.ms (exNext n (stN s.ms k) t)).length) : exTo n ea mx m0 (i + 1) = .full := by
  rw [exTo, h]; simp only [exStep]; rw [if_pos hk, if_pos ht, if_pos hr, if_pos ho, if_pos ⟨he, hf⟩]
theorem ex_fire (h : exTo n ea mx m0 i = .on k t s) (hk : k < s.ms.length) (ht : t < n.ts.length) (hr : readyOf n (stN s.ms k) t = true) (ho : exOk n (stN s.ms k) t = true) (hf : ea = false ∨ (exMs s.ms (exNext n (stN s.ms k) t)).length ≤ mx) : exTo n ea mx m0 (i + 1) = .on k (t + 1) (exAdd s k t (exNext n (stN s.ms k) t)) := by
  rw [exTo, h]; simp only [exStep]
  have hno : ¬ (ea = true ∧ mx < (exMs s.ms (exNext n (stN s.ms k) t)).length) := by
    rintro ⟨e1, e2⟩
    rcases hf with e | e
    · rw [e] at e1; cases e1
    · omega
  rw [if_pos hk, if_pos ht, if_pos hr, if_pos ho, if_neg hno]
end

/-- what holds wherever the search stands; for the early look the row's bound is kept too -/
theorem ex_ok {n : NetD} {ea : Bool} {mx : Nat} {m0 : ByteArray} (hg : goodN n = true) (hx : 1 ≤ mx) (hm : markB n m0 = true) : ∀ i k t s, exTo n ea mx m0 i = .on k t s → ExOk n mx m0 i k t s ∧ (ea = true → s.ms.length ≤ mx)
  | 0, k, t, s, h => by
    rw [exTo] at h
    injection h with h1 h2 h3
    subst h1; subst h2; subst h3
    exact ⟨exOk_zero hx hm, fun _ => by simpa using hx⟩
  | i + 1, k, t, s, h => by
    have ih := ex_ok (ea := ea) hg hx hm i
    cases hc : exTo n ea mx m0 i with
    | done s' => rw [exTo, hc] at h; cases h
    | bad k' t' s' => rw [exTo, hc] at h; cases h
    | full => rw [exTo, hc] at h; cases h
    | on k' t' s' =>
      obtain ⟨ih, ihe⟩ := ih k' t' s' hc
      by_cases hk : k' < s'.ms.length
      case neg => rw [ex_end hc hk] at h; cases h
      by_cases ht : t' < n.ts.length
      case neg =>
        by_cases hf : ea = true ∨ s'.ms.length ≤ mx
        · rw [ex_row hc hk ht hf] at h
          injection h with h1 h2 h3
          subst h1; subst h2; subst h3
          have htl := ih.tle
          exact ⟨ih.next hk (by omega) (by rcases hf with e | e; · exact ihe e
                                           · exact e), ihe⟩
        · rw [ex_row_full hc hk ht (by cases ea <;> simp_all) (by simp at hf; omega)] at h; cases h
      by_cases hr : readyOf n (stN s'.ms k') t' = true
      case neg =>
        rw [ex_not hc hk ht (by simpa using hr)] at h
        injection h with h1 h2 h3
        subst h1; subst h2; subst h3
        exact ⟨ih.skip hk ht, ihe⟩
      by_cases ho : exOk n (stN s'.ms k') t' = true
      case neg => rw [ex_bad hc hk ht hr (by simpa using ho)] at h; cases h
      by_cases hf : ea = false ∨ (exMs s'.ms (exNext n (stN s'.ms k') t')).length ≤ mx
      · rw [ex_fire hc hk ht hr ho hf] at h
        injection h with h1 h2 h3
        subst h1; subst h2; subst h3
        exact ⟨ih.add hg hk ht, fun he => by rcases hf with e | e; · rw [e] at he; cases he
                                             · exact e⟩
      · rw [ex_full hc hk ht hr ho (by cases ea <;> simp_all) (by simp at hf; omega)] at h; cases h

theorem ex_stay {n : NetD} {ea : Bool} {mx : Nat} {m0 : ByteArray} {i : Nat} {c : ExC} (h : exTo n ea mx m0 i = c) (hc : c.isOn = false) : ∀ j, exTo n ea mx m0 (i + j) = c
  | 0 => h
  | j + 1 => by
    rw [← Nat.add_assoc, exTo, ex_stay h hc j]
    cases c with
    | on k t s => cases hc
    | done s => rfl
    | bad k t s => rfl
    | full => rfl
theorem exF_off {n : NetD} {ea : Bool} {mx : Nat} {m0 : ByteArray} (hg : goodN n = true) (hx : 1 ≤ mx) (hm : markB n m0 = true) : (exF n ea mx m0).isOn = false := by
  cases hc : exF n ea mx m0 with
  | done s => rfl
  | bad k t s => rfl
  | full => rfl
  | on k t s =>
    exfalso
    have h := (ex_ok hg hx hm _ _ _ _ hc).1
    have hT := (goodN_parts hg).2.2.1
    have hp := h.place
    have h1 := h.kle
    have h2 := h.bound
    have h3 := h.tle
    have hk : k ≤ mx + 24 := by omega
    have : k * (n.ts.length + 1) ≤ (mx + 24) * 25 := Nat.mul_le_mul hk (by omega)
    have e1 : (mx + 26) * 25 = (mx + 24) * 25 + 50 := by omega
    omega
/-- a search that has ended has ended so -/
theorem exF_is {n : NetD} {ea : Bool} {mx : Nat} {m0 : ByteArray} {i : Nat} {c : ExC} (hg : goodN n = true) (hx : 1 ≤ mx) (hm : markB n m0 = true) (h : exTo n ea mx m0 i = c) (hc : c.isOn = false) : exF n ea mx m0 = c := by
  have hF := exF_off (ea := ea) hg hx hm
  by_cases hi : i ≤ (mx + 26) * 25
  · have := ex_stay h hc ((mx + 26) * 25 - i)
    rw [show i + ((mx + 26) * 25 - i) = (mx + 26) * 25 by omega] at this
    exact this
  · have := ex_stay (i := (mx + 26) * 25) (c := exF n ea mx m0) rfl hF (i - (mx + 26) * 25)
    rw [show (mx + 26) * 25 + (i - (mx + 26) * 25) = i by omega, h] at this
    exact this.symm

/-! the enabled ones, in order -/
theorem ex_skip {n : NetD} {ea : Bool} {mx : Nat} {m0 : ByteArray} {k : Nat} {s : ExS} (hk : k < s.ms.length) : ∀ (d i t : Nat), exTo n ea mx m0 i = .on k t s → t + d ≤ n.ts.length → (∀ q, t ≤ q → q < t + d → readyOf n (stN s.ms k) q = false) → exTo n ea mx m0 (i + d) = .on k (t + d) s
  | 0, i, t, h, _, _ => h
  | d + 1, i, t, h, hl, hq => by
    have h1 := ex_not h hk (by omega) (hq t (Nat.le_refl _) (by omega))
    have := ex_skip hk d (i + 1) (t + 1) h1 (by omega) (fun q h1 h2 => hq q (by omega) (by omega))
    rw [show i + (d + 1) = i + 1 + d by omega, show t + (d + 1) = t + 1 + d by omega]
    exact this
theorem enTo_prefix (f : Nat → Bool) : ∀ (d t : Nat), ∃ l, enTo f (t + d) = enTo f t ++ l
  | 0, t => ⟨[], by simp⟩
  | d + 1, t => by
    obtain ⟨l, hl⟩ := enTo_prefix f d t
    rw [← Nat.add_assoc]
    cases hf : f (t + d) with
    | true => exact ⟨l ++ [((t + d : Nat) : Int)], by rw [enTo_true hf, hl, List.append_assoc]⟩
    | false => exact ⟨l, by rw [enTo_false hf, hl]⟩
theorem en_next (f : Nat → Bool) (T j : Nat) (hj : j < (enTo f T).length) : ∀ (d t : Nat), t + d = T → (enTo f t).length = j → ∃ t2, t ≤ t2 ∧ t2 < T ∧ f t2 = true ∧ (∀ q, t ≤ q → q < t2 → f q = false) ∧ (enTo f T).getD j 0 = (t2 : Int) ∧ (enTo f (t2 + 1)).length = j + 1
  | 0, t, he, hl => by rw [← he] at hj; simp at hj; omega
  | d + 1, t, he, hl => by
    cases hf : f t with
    | true =>
      refine ⟨t, Nat.le_refl _, by omega, hf, fun q h1 h2 => absurd h1 (by omega), ?_, by rw [enTo_true hf]; simp [hl]⟩
      obtain ⟨l, hp⟩ := enTo_prefix f d (t + 1)
      rw [show T = t + 1 + d by omega, hp, enTo_true hf, ← hl]
      simp [List.getD]
    | false =>
      obtain ⟨t2, h1, h2, h3, h4, h5, h6⟩ := en_next f T j hj d (t + 1) (by omega) (by rw [enTo_false hf]; exact hl)
      exact ⟨t2, by omega, h2, h3, fun q q1 q2 => by
        by_cases e : q = t
        · subst e; exact hf
        · exact h4 q (by omega) q2, h5, h6⟩
theorem en_end (f : Nat → Bool) (T : Nat) : ∀ (d t : Nat), t + d = T → (enTo f t).length = (enTo f T).length → ∀ q, t ≤ q → q < T → f q = false
  | 0, t, he, _, q, h1, h2 => absurd h1 (by omega)
  | d + 1, t, he, hl, q, h1, h2 => by
    cases hf : f t with
    | true =>
      exfalso
      obtain ⟨l, hp⟩ := enTo_prefix f d (t + 1)
      rw [show T = t + 1 + d by omega, hp, enTo_true hf] at hl
      simp at hl
    | false =>
      by_cases e : q = t
      · subst e; exact hf
      · exact en_end f T d (t + 1) (by omega) (by rw [enTo_false hf]; exact hl) q (by omega) h2

end Go.Proofs.Ytigkgfdnnfmmmaa
