/- RELATIONS BETWEEN EVENTS, CONFIGURATIONS, said of data: the program's bit sets and the model's lists.
   WALKS: hasEvent, eventSet.has of the program.
   CONFIGURATIONS, said of data: the program's bit sets and the model's lists. -/
import Derived.Test.YtdiblkgjmkbpmaaGreatVUvp
import Derived.Test.YtdiblkgjmkbpmaaGreatVLpa
import Derived.Test.YtdiblkgjmkbpmaaGreatVLus
namespace Go.Proofs.YtdiblkgjmkbpmaaGreat
open Go.RowKit

/-- the pasts of the events of a list, rising -/
def pastQ (cs : List Cnd) (es : List Ev) (L : List Int) : List Nat := (List.range es.length).filter (pastM cs es (inL L) es.length)
theorem out_pastQ (cs : List Cnd) (es : List Ev) (L : List Int) : outTo (pastM cs es (inL L) es.length) es.length = (pastQ cs es L).map fun (e : Nat) => (e : Int) := rfl
theorem pastQ_rise (cs : List Cnd) (es : List Ev) (L : List Int) : (pastQ cs es L).Pairwise (· < ·) := List.Pairwise.filter _ List.pairwise_lt_range
theorem pastQ_lt {cs : List Cnd} {es : List Ev} {L : List Int} : ∀ e ∈ pastQ cs es L, e < es.length := fun e he => by
  unfold pastQ at he
  rw [List.mem_filter, List.mem_range] at he
  exact he.1
theorem mem_pastQ {cs : List Cnd} {es : List Ev} {L : List Int} (hw : WfU cs es) (hL : ∀ x ∈ L, x < (es.length : Int)) {f : Nat} : f ∈ pastQ cs es L ↔ ∃ g : Nat, (g : Int) ∈ L ∧ Anc cs es g f := by
  unfold pastQ
  rw [List.mem_filter, List.mem_range]
  have hM : ∀ g, inL L g = true → g < es.length := fun g hg => by
    have := hL _ (of_decide_eq_true hg)
    omega
  rw [past_iff hw hM]
  constructor
  · rintro ⟨_, g, hg, ha⟩
    exact ⟨g, of_decide_eq_true hg, ha⟩
  · rintro ⟨g, hg, ha⟩
    have hd : inL L g = true := decide_eq_true hg
    exact ⟨anc_lt hw ha (hM g hd), g, hd, ha⟩
theorem has_pastQ {cs : List Cnd} {es : List Ev} {L : List Int} (hw : WfU cs es) (hL : ∀ x ∈ L, x < (es.length : Int)) {a : Nat} : hasB ((pastQ cs es L).map fun (e : Nat) => (e : Int)) (a : Int) = true ↔ ∃ g : Nat, (g : Int) ∈ L ∧ Anc cs es g a := by
  rw [hasB_mem, decide_eq_true_iff, List.mem_map, ← mem_pastQ hw hL]
  constructor
  · rintro ⟨x, hx, e⟩
    have : x = a := by omega
    subst this; exact hx
  · intro h; exact ⟨a, h, rfl⟩
/-- one test of conflicts for both -/
theorem conf_eq {cs : List Cnd} {es : List Ev} {ps us : List Nat} (h : Means cs es ps us) (hf : Fit us) (hn : NodE es) {P : List Nat} {S : Nat} (hP : P.Pairwise (· < ·)) (hl : ∀ e ∈ P, e < es.length) (hS : ∀ i, i < es.length → (S.testBit i = true ↔ i ∈ P)) :
    (!freeB es P) = cfB us S := by
  rw [Bool.eq_iff_iff, Bool.not_eq_true', ← Bool.not_eq_true, freeB_iff h.wf hn hP hl, cfB_iff hf]
  have hu : ∀ c, c < cs.length → ∀ e, (us.getD c 0).testBit e = true ↔ e < es.length ∧ Cons es e c := fun c hc e => h.u c hc e
  constructor
  · intro hc
    apply Classical.byContradiction
    intro hno
    apply hc
    intro c hcl i j hij hi hj ⟨h1, h2⟩
    exact hno ⟨c, by rw [h.uc]; exact hcl, i, j, hij, ⟨(hu c hcl i).2 ⟨hl i hi, h1⟩, (hS i (hl i hi)).2 hi⟩, ⟨(hu c hcl j).2 ⟨hl j hj, h2⟩, (hS j (hl j hj)).2 hj⟩⟩
  · rintro ⟨c, hc, i, j, hij, ⟨h1, h2⟩, ⟨h3, h4⟩⟩ hno
    have hcl : c < cs.length := by rw [← h.uc]; exact hc
    have g1 := (hu c hcl i).1 h1
    have g3 := (hu c hcl j).1 h3
    exact hno c hcl i j hij ((hS i g1.1).1 h2) ((hS j g3.1).1 h4) ⟨g1.2, g3.2⟩

/-- the relation of two events, by the program's sets -/
def relV (x : His) (a b : Nat) : Int := if a = b then 0 else if (x.ps.getD b 0).testBit a = true then 1 else if (x.ps.getD a 0).testBit b = true then 2 else if cfB x.us (x.ps.getD a 0 ||| x.ps.getD b 0) = true then 3 else 4
theorem rel_before {x : His} (h : HisG x) {a b : Nat} (hb : b < x.es.length) : hasB ((pastQ x.cs x.es [(b : Int)]).map fun (e : Nat) => (e : Int)) (a : Int) = (x.ps.getD b 0).testBit a := by
  rw [Bool.eq_iff_iff, has_pastQ h.m.wf (by intro z hz; simp only [List.mem_cons, List.not_mem_nil, or_false] at hz; omega), h.m.p b hb]
  constructor
  · rintro ⟨g, hg, ha⟩
    simp only [List.mem_cons, List.not_mem_nil, or_false] at hg
    have : g = b := by omega
    subst this; exact ha
  · intro ha; exact ⟨b, by simp, ha⟩
theorem rel_conf {x : His} (h : HisG x) {a b : Nat} (ha : a < x.es.length) (hb : b < x.es.length) : (!freeB x.es (pastQ x.cs x.es [(a : Int), (b : Int)])) = cfB x.us (x.ps.getD a 0 ||| x.ps.getD b 0) := by
  refine conf_eq h.m h.fu h.nd (pastQ_rise _ _ _) pastQ_lt fun i _ => ?_
  rw [Nat.testBit_or, Bool.or_eq_true, h.m.p a ha, h.m.p b hb, mem_pastQ h.m.wf (by intro z hz; simp only [List.mem_cons, List.not_mem_nil, or_false] at hz; omega)]
  constructor
  · rintro (q | q)
    · exact ⟨a, by simp, q⟩
    · exact ⟨b, by simp, q⟩
  · rintro ⟨g, hg, q⟩
    simp only [List.mem_cons, List.not_mem_nil, or_false] at hg
    rcases hg with e | e
    · have : g = a := by omega
      subst this; exact Or.inl q
    · have : g = b := by omega
      subst this; exact Or.inr q
/-- what is known of a valid unfolding -/
theorem uvB_all {n : NetD} {s : ByteArray} {u : UnfD} (h : uvB n s u = true) : goodN n = true ∧ u.es.length ≤ 60 ∧ u.cs.length ≤ 200 ∧ (hisAll n s u.es).cs = u.cs ∧ (hisAll n s u.es).es = u.es ∧ HisG (hisAll n s u.es) := by
  have h0 := h
  unfold uvB at h
  simp only [Bool.and_eq_true] at h
  have h1 := of_decide_eq_true h.2.1
  have h3 := of_decide_eq_true h.2.2.2.1
  have h4 := of_decide_eq_true h.2.2.2.2
  have h5 := of_decide_eq_true h.2.2.1
  refine ⟨(iuB_good h.1).1, h1, by rw [← h4]; exact h3, h4, ?_, hisTo_good _ h1 h5⟩
  unfold hisAll
  rw [hisTo_es _ (Nat.le_refl _), List.take_of_length_le (Nat.le_refl _)]

end Go.Proofs.YtdiblkgjmkbpmaaGreat

namespace Go.Proofs.YtdiblkgjmkbpmaaGreat
open Go.RowKit

theorem inRange_of (a : Int) (n : Nat) : decide (0 ≤ a ∧ a < (n : Int)) = (decide (0 ≤ a) && decide (a < (n : Int))) := by simp [Bool.decide_and]
set_option maxHeartbeats 1000000 in
theorem hasEvent_any (B H : Nat) (w : World) (P : Int) (vt vc ve vp vu : Value) (cs : List Cnd) (es : List Ev) (ps us : List Nat) (a : Int) (h : HisAt B H w P vt vc ve vp vu cs es ps us) :
    Calls Tryz.prog 58 #[.pointer (some ⟨H, 0, none⟩), .int .i64 a] w (RetB w (decide (0 ≤ a ∧ a < (es.length : Int)))) := by
  have c3 := h.c3
  obtain ⟨ae, ke, rfl⟩ := h.re.form
  clear h
  rw [inRange_of]
  generalize es.length = ne at c3 ⊢
  go_enter Tryz.func58, Tryz.ntmps58
  by_cases h0 : 0 ≤ a
  · have t0 : decide (0 ≤ a) = true := decide_eq_true h0
    by_cases h1 : a < (ne : Int)
    · have t1 : decide (a < (ne : Int)) = true := decide_eq_true h1
      rw [t0, t1]
      go_wp2_with fail
      go_ret
      exact ⟨rfl, Below.refl _ _⟩
    · have t1 : decide (a < (ne : Int)) = false := decide_eq_false h1
      rw [t0, t1]
      go_wp2_with fail
      go_ret
      exact ⟨rfl, Below.refl _ _⟩
  · have t0 : decide (0 ≤ a) = false := decide_eq_false h0
    rw [t0, Bool.false_and]
    go_wp2_with fail
    go_ret
    exact ⟨rfl, Below.refl _ _⟩

theorem shr_bit {S e : Nat} (hS : S < 18446744073709551616) : bits .and .u64 ((S : Int) / 2 ^ e) 1 = (((S.testBit e).toNat : Nat) : Int) := by
  have h1 : ((S : Int) / 2 ^ e) = ((S / 2 ^ e : Nat) : Int) := by push_cast; rfl
  have h2 : S / 2 ^ e < 18446744073709551616 := Nat.lt_of_le_of_lt (Nat.div_le_self _ _) hS
  have h3 := bits_and_u64_nat (S / 2 ^ e) 1 h2 (by decide)
  rw [h1]
  refine h3.trans ?_
  rw [Nat.and_one_is_mod, Nat.testBit_eq_decide_div_mod_eq]
  rcases Nat.mod_two_eq_zero_or_one (S / 2 ^ e) with h | h <;> rw [h] <;> rfl
set_option maxHeartbeats 1000000 in
theorem has_any (S e : Nat) (w : World) (hS : S < 18446744073709551616) (he : e ≤ 63) :
    Calls Tryz.prog 59 #[.int .u64 (S : Int), .int .i64 (e : Int)] w (RetB w (S.testBit e)) := by
  have e1 := shr_bit (e := e) hS
  go_enter Tryz.func59, Tryz.ntmps59
  cases hb : S.testBit e with
  | false =>
    rw [hb] at e1
    have e1 : bits .and .u64 ((S : Int) / 2 ^ e) 1 = 0 := e1
    go_wp2_with fail
    go_ret
    exact ⟨rfl, Below.refl _ _⟩
  | true =>
    rw [hb] at e1
    have e1 : bits .and .u64 ((S : Int) / 2 ^ e) 1 = 1 := e1
    go_wp2_with fail
    go_ret
    exact ⟨rfl, Below.refl _ _⟩

end Go.Proofs.YtdiblkgjmkbpmaaGreat

namespace Go.Proofs.YtdiblkgjmkbpmaaGreat
open Go.RowKit

theorem anyTo_ex {n : Nat} {g : Nat → Bool} (h : anyTo n g = true) : ∃ k, k < n ∧ g k = true := by
  apply Classical.byContradiction
  intro hno
  have : anyTo n g = false := anyTo_false fun k hk => by
    cases e : g k with
    | false => rfl
    | true => exact absurd ⟨k, hk, e⟩ hno
  rw [this] at h; cases h
/-- the set of the first k events of a list -/
def setTo (L : List Int) : Nat → Nat
  | 0 => 0
  | k + 1 => setTo L k ||| 2 ^ (L.getD k 0).toNat
def setL (L : List Int) : Nat := setTo L L.length
theorem setTo_fit {L : List Int} {m : Nat} (hm : m ≤ 64) (h : ∀ k, k < L.length → (L.getD k 0).toNat < m) : ∀ k, k ≤ L.length → setTo L k < 18446744073709551616
  | 0, _ => by show 0 < 18446744073709551616; decide
  | k + 1, hk => by
    have ih := setTo_fit hm h k (by omega)
    have h1 := h k (by omega)
    have h2 : (2 : Nat) ^ (L.getD k 0).toNat < 2 ^ 64 := Nat.pow_lt_pow_right (by decide) (by omega)
    exact Nat.or_lt_two_pow (n := 64) ih (by omega)
theorem setTo_bit {L : List Int} {i : Nat} : ∀ k, (setTo L k).testBit i = true ↔ ∃ q, q < k ∧ (L.getD q 0).toNat = i
  | 0 => by simp [setTo]
  | k + 1 => by
    show (setTo L k ||| 2 ^ (L.getD k 0).toNat).testBit i = true ↔ _
    rw [Nat.testBit_or, Bool.or_eq_true, setTo_bit k, Nat.testBit_two_pow, decide_eq_true_iff]
    constructor
    · rintro (⟨q, hq, e⟩ | e)
      · exact ⟨q, by omega, e⟩
      · exact ⟨k, by omega, e⟩
    · rintro ⟨q, hq, e⟩
      by_cases h : q = k
      · subst h; exact Or.inr e
      · exact Or.inl ⟨q, by omega, e⟩
/-- one set includes the other, as the program reckons it -/
def incB (S T : Nat) : Bool := decide (T &&& (18446744073709551615 - S) = 0)
theorem incB_iff {S T : Nat} (hS : S < 18446744073709551616) (hT : T < 18446744073709551616) : incB S T = true ↔ ∀ i, T.testBit i = true → S.testBit i = true := by
  unfold incB
  rw [decide_eq_true_iff]
  have e : 18446744073709551615 - S = 2 ^ 64 - (S + 1) := by omega
  have hb : ∀ i, (18446744073709551615 - S).testBit i = (decide (i < 64) && !S.testBit i) := fun i => by
    rw [e]; exact Nat.testBit_two_pow_sub_succ (n := 64) hS i
  constructor
  · intro h i hi
    have h1 : (T &&& (18446744073709551615 - S)).testBit i = false := by rw [h]; exact Nat.zero_testBit i
    rw [Nat.testBit_and, hi, Bool.true_and, hb, decide_eq_true (bit_small hT hi), Bool.true_and] at h1
    simpa using h1
  · intro h
    apply Classical.byContradiction
    intro hne
    obtain ⟨i, hi⟩ := bit_some hne
    rw [Nat.testBit_and, hb] at hi
    simp only [Bool.and_eq_true, Bool.not_eq_true'] at hi
    rw [h i hi.1] at hi
    exact absurd hi.2.2 (by simp)
/-- the program's test of a configuration -/
def cfgB (x : His) (L : List Int) : Bool := !cfB x.us (setL L) && !anyTo L.length (fun k => !incB (setL L) (x.ps.getD (L.getD k 0).toNat 0))
/-- the model's -/
def cfgM (x : His) (L : List Int) : Bool := decide (((pastQ x.cs x.es L).map fun (e : Nat) => (e : Int)) = L) && freeB x.es (L.map Int.toNat)
theorem list_toNat {L : List Int} (h : ∀ z ∈ L, 0 ≤ z) : ((L.map Int.toNat).map fun (e : Nat) => (e : Int)) = L := by
  rw [List.map_map]
  conv => rhs; rw [← List.map_id L]
  apply List.map_congr_left
  intro z hz
  have := h z hz
  show ((z.toNat : Nat) : Int) = z
  omega
theorem mem_getD {L : List Int} {z : Int} : z ∈ L ↔ ∃ q, q < L.length ∧ L.getD q 0 = z := by
  constructor
  · intro h
    obtain ⟨q, hq, e⟩ := List.getElem_of_mem h
    exact ⟨q, hq, by simpa only [List.getD, List.getElem?_eq_getElem hq, Option.getD_some] using e⟩
  · rintro ⟨q, hq, rfl⟩
    simp only [List.getD, List.getElem?_eq_getElem hq, Option.getD_some]
    exact List.getElem_mem hq
theorem cfg_eq {x : His} (h : HisG x) (h60 : x.es.length ≤ 60) {L : List Int} (hr : riseB 0 ((x.es.length : Int) - 1) L = true) : cfgM x L = cfgB x L := by
  have hin := rise_in rfl hr
  have hlt := rise_lt hr
  have hmem : ∀ z ∈ L, 0 ≤ z ∧ z < (x.es.length : Int) := fun z hz => by
    obtain ⟨q, hq, rfl⟩ := mem_getD.1 hz
    exact hin q hq
  have hbits : ∀ i, (setL L).testBit i = true ↔ ((i : Int) ∈ L) := fun i => by
    unfold setL
    rw [setTo_bit, mem_getD]
    constructor
    · rintro ⟨q, hq, e⟩
      exact ⟨q, hq, by have := hin q hq; omega⟩
    · rintro ⟨q, hq, e⟩
      exact ⟨q, hq, by omega⟩
  have hSf : setL L < 18446744073709551616 := setTo_fit (m := 64) (Nat.le_refl _) (fun k hk => by have := hin k hk; omega) _ (Nat.le_refl _)
  have hP : (L.map Int.toNat).Pairwise (· < ·) := by
    rw [List.pairwise_map]
    exact hlt.imp_of_mem fun {a b} ha hb hab => by have := hmem a ha; have := hmem b hb; omega
  have hPl : ∀ e ∈ L.map Int.toNat, e < x.es.length := fun e he => by
    obtain ⟨z, hz, rfl⟩ := List.mem_map.1 he
    have := hmem z hz
    omega
  have hPm : ∀ i : Nat, i ∈ L.map Int.toNat ↔ (i : Int) ∈ L := fun i => by
    rw [List.mem_map]
    constructor
    · rintro ⟨z, hz, rfl⟩
      have := hmem z hz
      rw [show ((z.toNat : Nat) : Int) = z by omega]; exact hz
    · intro hi; exact ⟨_, hi, by simp⟩
  have hc := conf_eq h.m h.fu h.nd (S := setL L) hP hPl (fun i _ => (hbits i).trans (hPm i).symm)
  unfold cfgM cfgB
  rw [← hc, Bool.not_not, Bool.and_comm]
  congr 1
  have hqr : ((pastQ x.cs x.es L).map fun (e : Nat) => (e : Int)).Pairwise (· < ·) := by
    rw [List.pairwise_map]
    exact (pastQ_rise _ _ _).imp fun hab => by omega
  have hqm : ∀ f : Nat, (f : Int) ∈ ((pastQ x.cs x.es L).map fun (e : Nat) => (e : Int)) ↔ ∃ g : Nat, (g : Int) ∈ L ∧ Anc x.cs x.es g f := fun f => by
    rw [← mem_pastQ h.m.wf (fun z hz => (hmem z hz).2), List.mem_map]
    constructor
    · rintro ⟨z, hz, e⟩
      have : z = f := by omega
      subst this; exact hz
    · intro hf; exact ⟨f, hf, rfl⟩
  rw [Bool.eq_iff_iff, decide_eq_true_iff, Bool.not_eq_true', Bool.eq_false_iff]
  constructor
  · intro he hany
    obtain ⟨k, hk, hi⟩ := anyTo_ex hany
    rw [Bool.not_eq_true'] at hi
    have hk2 := hin k hk
    have : incB (setL L) (x.ps.getD (L.getD k 0).toNat 0) = true := (incB_iff hSf (h.fp _)).2 fun i hb => by
      rw [hbits, ← he, hqm]
      refine ⟨(L.getD k 0).toNat, mem_getD.2 ⟨k, hk, by omega⟩, ?_⟩
      exact (h.m.p _ (by omega) i).1 hb
    rw [this] at hi; cases hi
  · intro hno
    apply rise_ext _ _ hqr hlt
    intro z
    constructor
    · intro hz
      obtain ⟨f, _, rfl⟩ := List.mem_map.1 hz
      obtain ⟨g, hg, ha⟩ := (hqm f).1 hz
      obtain ⟨k, hk, e⟩ := mem_getD.1 hg
      have hgl := hmem _ hg
      have hi : incB (setL L) (x.ps.getD (L.getD k 0).toNat 0) = true := by
        cases hq : incB (setL L) (x.ps.getD (L.getD k 0).toNat 0) with
        | true => rfl
        | false =>
          exact absurd (anyTo_true hk (by show (!incB (setL L) (x.ps.getD (L.getD k 0).toNat 0)) = true; rw [hq]; rfl)) hno
      rw [e, Int.toNat_natCast] at hi
      exact (hbits f).1 ((incB_iff hSf (h.fp _)).1 hi f ((h.m.p g (by omega) f).2 ha))
    · intro hz
      have hz2 := hmem z hz
      have e : ((z.toNat : Nat) : Int) = z := by omega
      rw [← e]
      exact (hqm z.toNat).2 ⟨z.toNat, by rw [e]; exact hz, Anc.self _⟩

end Go.Proofs.YtdiblkgjmkbpmaaGreat
