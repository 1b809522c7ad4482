/- RELATIONS BETWEEN EVENTS, CONFIGURATIONS, said of data: the program's bit sets and the model's lists.
   WALKS: hasEvent, eventSet.has of the program. -/
import Derived.Test.YtigkgfdnnfmmmaaGreatVUvp
import Derived.Test.YtigkgfdnnfmmmaaGreatVLpa
import Derived.Test.YtigkgfdnnfmmmaaGreatVLtg
namespace Go.Proofs.YtigkgfdnnfmmmaaGreat
open Go.RowKit

/-- the pasts of the events of a list, rising -/
def pastQ (cs : List Cnd) (es : List Ev) (L : List Int) : List Nat := (List.range es.length).filter (pastM cs es (inL L) es.length)
theorem out_pastQ (cs : List Cnd) (es : List Ev) (L : List Int) : outTo (pastM cs es (inL L) es.length) es.length = (pastQ cs es L).map fun (e : Nat) => (e : Int) := rfl
theorem pastQ_rise (cs : List Cnd) (es : List Ev) (L : List Int) : (pastQ cs es L).Pairwise (· < ·) := List.Pairwise.filter _ List.pairwise_lt_range
theorem pastQ_lt {cs : List Cnd} {es : List Ev} {L : List Int} : ∀ e ∈ pastQ cs es L, e < es.length := fun e he => by
  unfold pastQ at he
  rw [List.mem_filter, List.mem_range] at he
  exact he.1
theorem mem_pastQ {cs : List Cnd} {es : List Ev} {L : List Int} (hw : WfU cs es) (hL : ∀ x ∈ L, x < (es.length : Int)) {f : Nat} : f ∈ pastQ cs es L ↔ ∃ g : Nat, (g : Int) ∈ L ∧ Anc cs es g f := by
  unfold pastQ
  rw [List.mem_filter, List.mem_range]
  have hM : ∀ g, inL L g = true → g < es.length := fun g hg => by
    have := hL _ (of_decide_eq_true hg)
    omega
  rw [past_iff hw hM]
  constructor
  · rintro ⟨_, g, hg, ha⟩
    exact ⟨g, of_decide_eq_true hg, ha⟩
  · rintro ⟨g, hg, ha⟩
    have hd : inL L g = true := decide_eq_true hg
    exact ⟨anc_lt hw ha (hM g hd), g, hd, ha⟩
theorem has_pastQ {cs : List Cnd} {es : List Ev} {L : List Int} (hw : WfU cs es) (hL : ∀ x ∈ L, x < (es.length : Int)) {a : Nat} : hasB ((pastQ cs es L).map fun (e : Nat) => (e : Int)) (a : Int) = true ↔ ∃ g : Nat, (g : Int) ∈ L ∧ Anc cs es g a := by
  rw [hasB_mem, decide_eq_true_iff, List.mem_map, ← mem_pastQ hw hL]
  constructor
  · rintro ⟨x, hx, e⟩
    have : x = a := by omega
    subst this; exact hx
  · intro h; exact ⟨a, h, rfl⟩
/-- one test of conflicts for both -/
theorem conf_eq {cs : List Cnd} {es : List Ev} {ps us : List Nat} (h : Means cs es ps us) (hf : Fit us) (hn : NodE es) {P : List Nat} {S : Nat} (hP : P.Pairwise (· < ·)) (hl : ∀ e ∈ P, e < es.length) (hS : ∀ i, i < es.length → (S.testBit i = true ↔ i ∈ P)) :
    (!freeB es P) = cfB us S := by
  rw [Bool.eq_iff_iff, Bool.not_eq_true', ← Bool.not_eq_true, freeB_iff h.wf hn hP hl, cfB_iff hf]
  have hu : ∀ c, c < cs.length → ∀ e, (us.getD c 0).testBit e = true ↔ e < es.length ∧ Cons es e c := fun c hc e => h.u c hc e
  constructor
  · intro hc
    apply Classical.byContradiction
    intro hno
    apply hc
    intro c hcl i j hij hi hj ⟨h1, h2⟩
    exact hno ⟨c, by rw [h.uc]; exact hcl, i, j, hij, ⟨(hu c hcl i).2 ⟨hl i hi, h1⟩, (hS i (hl i hi)).2 hi⟩, ⟨(hu c hcl j).2 ⟨hl j hj, h2⟩, (hS j (hl j hj)).2 hj⟩⟩
  · rintro ⟨c, hc, i, j, hij, ⟨h1, h2⟩, ⟨h3, h4⟩⟩ hno
    have hcl : c < cs.length := by rw [← h.uc]; exact hc
    have g1 := (hu c hcl i).1 h1
    have g3 := (hu c hcl j).1 h3
    exact hno c hcl i j hij ((hS i g1.1).1 h2) ((hS j g3.1).1 h4) ⟨g1.2, g3.2⟩

/-- the relation of two events, by the program's sets -/
def relV (x : His) (a b : Nat) : Int := if a = b then 0 else if (x.ps.getD b 0).testBit a = true then 1 else if (x.ps.getD a 0).testBit b = true then 2 else if cfB x.us (x.ps.getD a 0 ||| x.ps.getD b 0) = true then 3 else 4
theorem rel_before {x : His} (h : HisG x) {a b : Nat} (hb : b < x.es.length) : hasB ((pastQ x.cs x.es [(b : Int)]).map fun (e : Nat) => (e : Int)) (a : Int) = (x.ps.getD b 0).testBit a := by
  rw [Bool.eq_iff_iff, has_pastQ h.m.wf (by intro z hz; simp only [List.mem_cons, List.not_mem_nil, or_false] at hz; omega), h.m.p b hb]
  constructor
  · rintro ⟨g, hg, ha⟩
    simp only [List.mem_cons, List.not_mem_nil, or_false] at hg
    have : g = b := by omega
    subst this; exact ha
  · intro ha; exact ⟨b, by simp, ha⟩
theorem rel_conf {x : His} (h : HisG x) {a b : Nat} (ha : a < x.es.length) (hb : b < x.es.length) : (!freeB x.es (pastQ x.cs x.es [(a : Int), (b : Int)])) = cfB x.us (x.ps.getD a 0 ||| x.ps.getD b 0) := by
  refine conf_eq h.m h.fu h.nd (pastQ_rise _ _ _) pastQ_lt fun i _ => ?_
  rw [Nat.testBit_or, Bool.or_eq_true, h.m.p a ha, h.m.p b hb, mem_pastQ h.m.wf (by intro z hz; simp only [List.mem_cons, List.not_mem_nil, or_false] at hz; omega)]
  constructor
  · rintro (q | q)
    · exact ⟨a, by simp, q⟩
    · exact ⟨b, by simp, q⟩
  · rintro ⟨g, hg, q⟩
    simp only [List.mem_cons, List.not_mem_nil, or_false] at hg
    rcases hg with e | e
    · have : g = a := by omega
      subst this; exact Or.inl q
    · have : g = b := by omega
      subst this; exact Or.inr q
/-- what is known of a valid unfolding -/
theorem uvB_all {n : NetD} {s : ByteArray} {u : UnfD} (h : uvB n s u = true) : goodN n = true ∧ u.es.length ≤ 60 ∧ u.cs.length ≤ 200 ∧ (hisAll n s u.es).cs = u.cs ∧ (hisAll n s u.es).es = u.es ∧ HisG (hisAll n s u.es) := by
  have h0 := h
  unfold uvB at h
  simp only [Bool.and_eq_true] at h
  have h1 := of_decide_eq_true h.2.1
  have h3 := of_decide_eq_true h.2.2.2.1
  have h4 := of_decide_eq_true h.2.2.2.2
  have h5 := of_decide_eq_true h.2.2.1
  refine ⟨(iuB_good h.1).1, h1, by rw [← h4]; exact h3, h4, ?_, hisTo_good _ h1 h5⟩
  unfold hisAll
  rw [hisTo_es _ (Nat.le_refl _), List.take_of_length_le (Nat.le_refl _)]

end Go.Proofs.YtigkgfdnnfmmmaaGreat

namespace Go.Proofs.YtigkgfdnnfmmmaaGreat
open Go.RowKit

theorem inRange_of (a : Int) (n : Nat) : decide (0 ≤ a ∧ a < (n : Int)) = (decide (0 ≤ a) && decide (a < (n : Int))) := by simp [Bool.decide_and]
set_option maxHeartbeats 1000000 in
theorem hasEvent_any (B H : Nat) (w : World) (P : Int) (vt vc ve vp vu : Value) (cs : List Cnd) (es : List Ev) (ps us : List Nat) (a : Int) (h : HisAt B H w P vt vc ve vp vu cs es ps us) :
    Calls Tryz.prog 50 #[.pointer (some ⟨H, 0, none⟩), .int .i64 a] w (RetB w (decide (0 ≤ a ∧ a < (es.length : Int)))) := by
  have c3 := h.c3
  obtain ⟨ae, ke, rfl⟩ := h.re.form
  clear h
  rw [inRange_of]
  generalize es.length = ne at c3 ⊢
  go_enter Tryz.func50, Tryz.ntmps50
  by_cases h0 : 0 ≤ a
  · have t0 : decide (0 ≤ a) = true := decide_eq_true h0
    by_cases h1 : a < (ne : Int)
    · have t1 : decide (a < (ne : Int)) = true := decide_eq_true h1
      rw [t0, t1]
      go_wp2_with fail
      go_ret
      exact ⟨rfl, Below.refl _ _⟩
    · have t1 : decide (a < (ne : Int)) = false := decide_eq_false h1
      rw [t0, t1]
      go_wp2_with fail
      go_ret
      exact ⟨rfl, Below.refl _ _⟩
  · have t0 : decide (0 ≤ a) = false := decide_eq_false h0
    rw [t0, Bool.false_and]
    go_wp2_with fail
    go_ret
    exact ⟨rfl, Below.refl _ _⟩

theorem shr_bit {S e : Nat} (hS : S < 18446744073709551616) : bits .and .u64 ((S : Int) / 2 ^ e) 1 = (((S.testBit e).toNat : Nat) : Int) := by
  have h1 : ((S : Int) / 2 ^ e) = ((S / 2 ^ e : Nat) : Int) := by push_cast; rfl
  have h2 : S / 2 ^ e < 18446744073709551616 := Nat.lt_of_le_of_lt (Nat.div_le_self _ _) hS
  have h3 := bits_and_u64_nat (S / 2 ^ e) 1 h2 (by decide)
  rw [h1]
  refine h3.trans ?_
  rw [Nat.and_one_is_mod, Nat.testBit_eq_decide_div_mod_eq]
  rcases Nat.mod_two_eq_zero_or_one (S / 2 ^ e) with h | h <;> rw [h] <;> rfl
set_option maxHeartbeats 1000000 in
theorem has_any (S e : Nat) (w : World) (hS : S < 18446744073709551616) (he : e ≤ 63) :
    Calls Tryz.prog 79 #[.int .u64 (S : Int), .int .i64 (e : Int)] w (RetB w (S.testBit e)) := by
  have e1 := shr_bit (e := e) hS
  go_enter Tryz.func79, Tryz.ntmps79
  cases hb : S.testBit e with
  | false =>
    rw [hb] at e1
    have e1 : bits .and .u64 ((S : Int) / 2 ^ e) 1 = 0 := e1
    go_wp2_with fail
    go_ret
    exact ⟨rfl, Below.refl _ _⟩
  | true =>
    rw [hb] at e1
    have e1 : bits .and .u64 ((S : Int) / 2 ^ e) 1 = 1 := e1
    go_wp2_with fail
    go_ret
    exact ⟨rfl, Below.refl _ _⟩

end Go.Proofs.YtigkgfdnnfmmmaaGreat
