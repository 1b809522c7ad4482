/- PLAIN PART: passes that set how far a place is, one step more each; the first move of a shortest way, and the way. No program is named here.
   WALKS: toStringS, toMove, toMoveS, toReachabilityGraph of the laws.
   WALKS: szStringS, szMoveS, szReachabilityGraph, eqStringS, eqMove, eqMoveS, eqReachabilityGraph of the laws. -/
import Derived.Test.YtnmoocgocnjdjaaGreatVHsp
import Derived.Test.YtnmoocgocnjdjaaGreatVMtext
import Derived.Test.YtnmoocgocnjdjaaGreatVNetb
import Derived.Test.YtnmoocgocnjdjaaGreatVRgbt
namespace Go.Proofs.YtnmoocgocnjdjaaGreat
open Go.RowKit

theorem lev_more {L : Nat → List Int} {s d : Nat} (h : ∀ k, Lev L s (d + 1) k → Lev L s d k) : ∀ e k, Lev L s (d + e) k → Lev L s d k
  | 0, _, hk => hk
  | e + 1, k, hk => by
    have hk : Lev L s (d + e + 1) k := hk
    rcases hk with hk | ⟨p, hp, hkp⟩
    · exact lev_more h e k hk
    · exact h k (Or.inr ⟨p, lev_more h e p hp, hkp⟩)
theorem lev_shut {L : Nat → List Int} {s n : Nat} (hL : InB n L) (hs : s < n) : ∀ d, (∀ k, Lev L s (d + 1) k → Lev L s d k) ∨ ∃ m : Nat → Bool, (∀ k, m k = true → Lev L s d k) ∧ d + 1 ≤ cntB n m
  | 0 => Or.inr ⟨fun k => decide (k = s), fun k hk => (by have h : decide (k = s) = true := hk; exact (of_decide_eq_true h : k = s)), cntB_some hs (decide_eq_true rfl)⟩
  | d + 1 => by
    by_cases hsh : ∀ k, Lev L s (d + 1) k → Lev L s d k
    · left
      intro k hk
      exact Or.inl (lev_more hsh 2 k hk)
    · right
      rcases lev_shut hL hs d with h | ⟨m, hm, hc⟩
      · exact absurd h hsh
      · have : ∃ k, Lev L s (d + 1) k ∧ ¬ Lev L s d k := by
          false_or_by_contra
          rename_i hno
          refine hsh (fun k hk => ?_)
          false_or_by_contra
          rename_i h2
          exact hno ⟨k, hk, h2⟩
        obtain ⟨k, h1, h2⟩ := this
        have hup : ∀ j, upB m k j = true → Lev L s (d + 1) j := fun j hj => by
          unfold upB at hj
          by_cases e : j = k
          · subst e; exact h1
          · rw [if_neg e] at hj; exact Or.inl (hm j hj)
        have := cntB_lt (m := m) (m' := upB m k) (fun j hj => by unfold upB; split <;> simp [hj]) (t := k) (fun hk => h2 (hm k hk)) (by simp [upB]) n (Lev.lt hL hs _ _ h1)
        exact ⟨upB m k, hup, by omega⟩
theorem lev_all {L : Nat → List Int} {s n : Nat} (hL : InB n L) (hs : s < n) {d k : Nat} (h : Lev L s d k) : Lev L s (n - 1) k := by
  have hk := Lev.lt hL hs d k h
  rcases lev_shut hL hs (n - 1) with h2 | ⟨m, hm, hc⟩
  · by_cases hd : d ≤ n - 1
    · exact Lev.le h hd
    · refine lev_more h2 (d - (n - 1)) k ?_
      rw [show n - 1 + (d - (n - 1)) = d by omega]
      exact h
  · have hf : cntB n m = n := by have := cntB_le n m; omega
    have ha := (cntB_full (n := n) (g := m)).symm.trans (decide_eq_true hf)
    rw [List.all_eq_true] at ha
    exact hm k (ha k (by simpa using hk))

/-- in the pass p, before the move j -/
def FarJ (ms : List Mv) (n s p j : Nat) (D : Nat → Int) : Prop :=
  (∀ k, k < n → -1 ≤ D k ∧ D k ≤ p + 1) ∧ (∀ k, k < n → 0 ≤ D k → Lev (tgL ms) s (D k).toNat k) ∧ (∀ d k, d ≤ p → Lev (tgL ms) s d k → 0 ≤ D k) ∧
  (∀ k, k < n → ∀ d, Lev (tgL ms) s d k → D k ≤ d) ∧ (∀ i, i < j → D (mvF ms i).toNat = p → 0 ≤ D (mvT ms i).toNat)
def MvIn (ms : List Mv) (n : Nat) : Prop := ∀ i, i < ms.length → (0 ≤ mvF ms i ∧ mvF ms i < n) ∧ (0 ≤ mvT ms i ∧ mvT ms i < n)
theorem MvIn.inB {ls : List Mv} {n : Nat} (h : MvIn ls n) : InB n (tgL ls) := by
  intro p _ x hx
  obtain ⟨i, hi, _, h2⟩ := (mem_tgTo _).1 hx
  have := (h i hi).2
  omega
theorem FarJ.start (ms : List Mv) (n s : Nat) : FarJ ms n s 0 0 (updD (fun _ => -1) s 0) := by
  refine ⟨fun k _ => ?_, fun k _ h => ?_, fun d k hd h => ?_, fun k _ d h => ?_, fun i hi => absurd hi (Nat.not_lt_zero _)⟩
  · unfold updD; dsimp only; split <;> omega
  · unfold updD at h ⊢
    by_cases e : k = s
    · rw [if_pos e]; exact e
    · rw [if_neg e] at h; dsimp only at h; omega
  · have hd0 : d = 0 := by omega
    subst hd0
    have : k = s := h
    subst this
    rw [updD_same]; exact Int.le_refl _
  · unfold updD; dsimp only; split <;> omega
theorem FarJ.hit {ms : List Mv} {n s p j : Nat} {D : Nat → Int} (h : FarJ ms n s p j D) (hin : MvIn ms n) (hj : j < ms.length) (h1 : D (mvF ms j).toNat = p) (h2 : D (mvT ms j).toNat < 0) : FarJ ms n s p (j + 1) (updD D (mvT ms j).toNat (p + 1)) := by
  obtain ⟨a, b, c, e, f⟩ := h
  have hb := hin j hj
  have hlev : Lev (tgL ms) s (p + 1) (mvT ms j).toNat := by
    have h3 := b (mvF ms j).toNat (by omega) (by omega)
    rw [h1, Int.toNat_natCast] at h3
    refine Or.inr ⟨_, h3, (mem_tgTo _).2 ⟨j, hj, rfl, ?_⟩⟩
    omega
  refine ⟨fun k hk => ?_, fun k hk h => ?_, fun d k hd h => ?_, fun k hk d h => ?_, fun i hi h => ?_⟩
  · unfold updD
    have := a k hk
    split <;> omega
  · by_cases e : k = (mvT ms j).toNat
    · subst e
      rw [updD_same, show ((p : Int) + 1).toNat = p + 1 by omega]
      exact hlev
    · rw [updD_ne e] at h ⊢
      exact b k hk h
  · have := c d k hd h
    unfold updD
    split <;> omega
  · by_cases e2 : k = (mvT ms j).toNat
    · subst e2
      rw [updD_same]
      by_cases hd : d ≤ p
      · have := c d _ hd h; omega
      · omega
    · rw [updD_ne e2]; exact e k hk d h
  · have hfi : D (mvF ms i).toNat = p := by
      by_cases e : (mvF ms i).toNat = (mvT ms j).toNat
      · rw [e, updD_same] at h; omega
      · rw [updD_ne e] at h; exact h
    by_cases e : i = j
    · subst e; rw [updD_same]; omega
    · have := f i (by omega) hfi
      unfold updD
      split <;> omega
theorem FarJ.miss {ms : List Mv} {n s p j : Nat} {D : Nat → Int} (h : FarJ ms n s p j D) (h1 : ¬ (D (mvF ms j).toNat = p ∧ D (mvT ms j).toNat < 0)) : FarJ ms n s p (j + 1) D := by
  obtain ⟨a, b, c, e, f⟩ := h
  refine ⟨a, b, c, e, fun i hi h => ?_⟩
  by_cases e2 : i = j
  · subst e2
    by_cases h3 : D (mvT ms i).toNat < 0
    · exact absurd ⟨h, h3⟩ h1
    · omega
  · exact f i (by omega) h
theorem FarJ.next {ms : List Mv} {n s p : Nat} {D : Nat → Int} (h : FarJ ms n s p ms.length D) (hin : MvIn ms n) (hs : s < n) : FarJ ms n s (p + 1) 0 D := by
  obtain ⟨a, b, c, e, f⟩ := h
  refine ⟨fun k hk => ?_, b, fun d k hd h => ?_, e, fun i hi => absurd hi (Nat.not_lt_zero _)⟩
  · have := a k hk; omega
  · by_cases hdp : d ≤ p
    · exact c d k hdp h
    · have hd1 : d = p + 1 := by omega
      subst hd1
      rcases h with h | ⟨q, hq, hk⟩
      · exact c p k (Nat.le_refl _) h
      · have hqn := Lev.lt hin.inB hs _ _ hq
        have h0 := c p q (Nat.le_refl _) hq
        have h1 := e q hqn p hq
        by_cases heq : D q = p
        · obtain ⟨i, hi, h2, h3⟩ := (mem_tgTo _).1 hk
          have := f i hi (by rw [h2]; exact heq)
          rw [h3, Int.toNat_natCast] at this
          exact this
        · refine c ((D q).toNat + 1) k (by omega) (Or.inr ⟨q, b q hqn h0, hk⟩)
theorem FarJ.dist {ms : List Mv} {n s : Nat} {D : Nat → Int} (h : FarJ ms n s n 0 D) (hin : MvIn ms n) (hs : s < n) : Dist n (tgL ms) s D := by
  obtain ⟨a, b, c, e, f⟩ := h
  refine fun k hk => ⟨(a k hk).1, ?_, b k hk, fun d hd => ⟨c (n - 1) k (by omega) (lev_all hin.inB hs hd), e k hk d hd⟩⟩
  by_cases h0 : 0 ≤ D k
  · have := e k hk _ (lev_all hin.inB hs (b k hk h0))
    omega
  · omega

/-- the passes themselves -/
def farTo (ms : List Mv) (p : Nat) (D : Nat → Int) : Nat → (Nat → Int)
  | 0 => D
  | j + 1 => if farTo ms p D j (mvF ms j).toNat = (p : Int) ∧ farTo ms p D j (mvT ms j).toNat < 0 then updD (farTo ms p D j) (mvT ms j).toNat ((p : Int) + 1) else farTo ms p D j
def farN (ms : List Mv) (s : Nat) : Nat → (Nat → Int)
  | 0 => updD (fun _ => -1) s 0
  | p + 1 => farTo ms p (farN ms s p) ms.length
theorem farTo_is {ms : List Mv} {n s p : Nat} {D : Nat → Int} (h : FarJ ms n s p 0 D) (hin : MvIn ms n) : ∀ j, j ≤ ms.length → FarJ ms n s p j (farTo ms p D j)
  | 0, _ => h
  | j + 1, hj => by
    have ih := farTo_is h hin j (by omega)
    unfold farTo
    by_cases hc : farTo ms p D j (mvF ms j).toNat = (p : Int) ∧ farTo ms p D j (mvT ms j).toNat < 0
    · rw [if_pos hc]; exact ih.hit hin (by omega) hc.1 hc.2
    · rw [if_neg hc]; exact ih.miss hc
theorem farN_is {ms : List Mv} {n s : Nat} (hin : MvIn ms n) (hs : s < n) : ∀ p, FarJ ms n s p 0 (farN ms s p)
  | 0 => FarJ.start ms n s
  | p + 1 => (farTo_is (farN_is hin hs p) hin ms.length (Nat.le_refl _)).next hin hs
/-- how far each place is from the first -/
def distC (n : Nat) (ms : List Mv) : Nat → Int := farN ms 0 n
theorem distC_is {n : Nat} {ms : List Mv} (hin : MvIn ms n) (hn : 0 < n) : Dist n (tgL ms) 0 (distC n ms) := (farN_is hin hn n).dist hin hn
theorem distC_eq {n : Nat} {ms : List Mv} (hin : MvIn ms n) {D : Nat → Int} (h : Dist n (tgL ms) 0 D) : ∀ k, k < n → distC n ms k = D k := fun _ hk => (distC_is hin (by omega)).eq h hk

/-! the way -/
/-- the first move to `at` from a place that is d steps away -/
def stepOk (ms : List Mv) (D : Nat → Int) (at_ d : Nat) (i : Nat) : Bool := decide (mvT ms i = (at_ : Int) ∧ D (mvF ms i).toNat = (d : Int))
def stepAt (ms : List Mv) (D : Nat → Int) (at_ d : Nat) : Nat := (List.range ms.length).findIdx (stepOk ms D at_ d)
theorem stepAt_eq {ms : List Mv} {D : Nat → Int} {at_ d i : Nat} (hi : i < ms.length) (h : ∀ j, j < i → stepOk ms D at_ d j = false) (he : stepOk ms D at_ d i = true) : stepAt ms D at_ d = i := by
  unfold stepAt
  rw [List.findIdx_eq (by simpa using hi)]
  refine ⟨by simpa using he, fun j hj => ?_⟩
  simpa using h j hj
theorem stepAt_some {ms : List Mv} {D : Nat → Int} {n s at_ d : Nat} (hD : Dist n (tgL ms) s D) (hin : MvIn ms n) (hs : s < n) (ha : at_ < n) (h : D at_ = (d : Int) + 1) : stepAt ms D at_ d < ms.length ∧ stepOk ms D at_ d (stepAt ms D at_ d) = true := by
  have h1 := (hD at_ ha).2.2.1 (by omega)
  rw [h, show ((d : Int) + 1).toNat = d + 1 by omega] at h1
  have : ∃ i, i < ms.length ∧ stepOk ms D at_ d i = true := by
    rcases h1 with h1 | ⟨q, hq, hk⟩
    · have := ((hD at_ ha).2.2.2 d h1).2
      omega
    · obtain ⟨i, hi, h2, h3⟩ := (mem_tgTo _).1 hk
      have hqn := Lev.lt hin.inB hs _ _ hq
      have h4 := (hD q hqn).2.2.2 d hq
      refine ⟨i, hi, decide_eq_true ⟨h3, ?_⟩⟩
      rw [h2]
      have h5 := (hD at_ ha).2.2.2 ((D q).toNat + 1) (Or.inr ⟨q, (hD q hqn).2.2.1 h4.1, hk⟩)
      omega
  obtain ⟨i, hi, he⟩ := this
  have hlt : stepAt ms D at_ d < (List.range ms.length).length := by
    unfold stepAt
    rw [List.findIdx_lt_length]
    exact ⟨i, by simpa using hi, he⟩
  refine ⟨by simpa using hlt, ?_⟩
  have h6 := ((List.findIdx_eq (p := stepOk ms D at_ d) hlt).1 rfl).1
  simpa using h6
theorem stepOk_iff {ms : List Mv} {D : Nat → Int} {at_ d i : Nat} : stepOk ms D at_ d i = true ↔ mvT ms i = (at_ : Int) ∧ D (mvF ms i).toNat = (d : Int) := decide_eq_true_iff
/-- the moves of the way to `at`, which is d steps away -/
def wayTo (ms : List Mv) (D : Nat → Int) : Nat → Nat → List Nat
  | 0, _ => []
  | d + 1, at_ => wayTo ms D d (mvF ms (stepAt ms D at_ d)).toNat ++ [stepAt ms D at_ d]
theorem wayTo_length (ms : List Mv) (D : Nat → Int) : ∀ d at_, (wayTo ms D d at_).length = d
  | 0, _ => rfl
  | d + 1, at_ => by
    unfold wayTo
    rw [List.length_append, wayTo_length ms D d]
    rfl
theorem stepAt_congr {ms : List Mv} {D D' : Nat → Int} {n : Nat} (hin : MvIn ms n) (h : ∀ k, k < n → D k = D' k) (at_ d : Nat) : stepAt ms D at_ d = stepAt ms D' at_ d := by
  unfold stepAt
  have : ∀ i ∈ List.range ms.length, stepOk ms D at_ d i = stepOk ms D' at_ d i := by
    intro i hi
    have hi : i < ms.length := by simpa using hi
    unfold stepOk
    rw [h _ (by have := (hin i hi).1; omega)]
  have key : ∀ l : List Nat, (∀ i ∈ l, stepOk ms D at_ d i = stepOk ms D' at_ d i) → l.findIdx (stepOk ms D at_ d) = l.findIdx (stepOk ms D' at_ d) := by
    intro l
    induction l with
    | nil => intro _; rfl
    | cons x l ih =>
      intro hl
      rw [List.findIdx_cons, List.findIdx_cons, hl x (List.mem_cons_self ..), ih (fun i hi => hl i (List.mem_cons_of_mem _ hi))]
  exact key _ this
theorem wayTo_congr {ms : List Mv} {D D' : Nat → Int} {n : Nat} (hin : MvIn ms n) (h : ∀ k, k < n → D k = D' k) : ∀ d at_, wayTo ms D d at_ = wayTo ms D' d at_
  | 0, _ => rfl
  | d + 1, at_ => by
    unfold wayTo
    rw [stepAt_congr hin h, wayTo_congr hin h d]

end Go.Proofs.YtnmoocgocnjdjaaGreat

namespace Go.Proofs.YtnmoocgocnjdjaaGreat
open Go.RowKit

end Go.Proofs.YtnmoocgocnjdjaaGreat

namespace Go.Proofs.YtnmoocgocnjdjaaGreat
open Go.RowKit

def eqRgB (r r' : RgD) : Bool := decide (r.marks = r'.marks) && decide (r.moves = r'.moves)
theorem eqRgB_self (r : RgD) : eqRgB r r = true := by simp [eqRgB]

end Go.Proofs.YtnmoocgocnjdjaaGreat
