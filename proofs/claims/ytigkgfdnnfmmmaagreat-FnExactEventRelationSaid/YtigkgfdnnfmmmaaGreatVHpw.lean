/- THE MODEL's PASTS as data: marks that are handed down from the last event to the first; what they mean; co-sets of the program and of the model.
   THE MODEL's TEST OF A CO-SET as data, and that it is the program's. -/
import Derived.Test.YtigkgfdnnfmmmaaGreatVHpu
namespace Go.Proofs.YtigkgfdnnfmmmaaGreat
open Go.RowKit

theorem Anc.trans {cs : List Cnd} {es : List Ev} {a b c : Nat} (h : Anc cs es a b) (h2 : Anc cs es b c) : Anc cs es a c := by
  induction h with
  | self e => exact h2
  | @step e g f k hk hb _ ih => exact .step k hk hb (ih h2)
/-- event f has produced a condition of the list -/
def byAny (cs : List Cnd) (L : List Int) (f : Nat) : Bool := L.any fun c => decide (cnB cs c.toNat = (f : Int))
def mkStep (cs : List Cnd) (es : List Ev) (M : Nat → Bool) (e : Nat) : Nat → Bool := fun f => M f || (M e && byAny cs (evP es e) f)
/-- the last j events have handed their marks down -/
def pastM (cs : List Cnd) (es : List Ev) (M : Nat → Bool) : Nat → Nat → Bool
  | 0 => M
  | j + 1 => mkStep cs es (pastM cs es M j) (es.length - 1 - j)
theorem byAny_iff {cs : List Cnd} {L : List Int} {f : Nat} : byAny cs L f = true ↔ ∃ k, k < L.length ∧ cnB cs (L.getD k 0).toNat = (f : Int) := by
  unfold byAny
  rw [List.any_eq_true]
  constructor
  · rintro ⟨c, hc, h⟩
    obtain ⟨k, hk, rfl⟩ := List.getElem_of_mem hc
    exact ⟨k, hk, by simpa [List.getD, hk] using h⟩
  · rintro ⟨k, hk, h⟩
    exact ⟨L[k], List.getElem_mem hk, by simpa [List.getD, hk] using h⟩
theorem past_sound {cs : List Cnd} {es : List Ev} {M : Nat → Bool} : ∀ j f, pastM cs es M j f = true → ∃ g, M g = true ∧ Anc cs es g f
  | 0, f, h => ⟨f, h, .self f⟩
  | j + 1, f, h => by
    have h : (pastM cs es M j f || (pastM cs es M j (es.length - 1 - j) && byAny cs (evP es (es.length - 1 - j)) f)) = true := h
    rw [Bool.or_eq_true, Bool.and_eq_true] at h
    rcases h with h | ⟨h1, h2⟩
    · exact past_sound j f h
    · obtain ⟨g, hg, ha⟩ := past_sound j _ h1
      obtain ⟨k, hk, hb⟩ := byAny_iff.1 h2
      exact ⟨g, hg, ha.trans (.step k hk hb (.self f))⟩
theorem past_mono {cs : List Cnd} {es : List Ev} {M : Nat → Bool} {f j : Nat} : ∀ i, pastM cs es M j f = true → pastM cs es M (j + i) f = true
  | 0, h => h
  | i + 1, h => by
    have h1 := past_mono (cs := cs) (es := es) (M := M) (f := f) (j := j) i h
    show (pastM cs es M (j + i) f || _) = true
    rw [h1, Bool.true_or]
/-- behind the later events an event's mark stays -/
theorem past_final {cs : List Cnd} {es : List Ev} {M : Nat → Bool} (hw : WfU cs es) {e : Nat} (he : e < es.length) : ∀ i, es.length - 1 - e + i ≤ es.length → pastM cs es M (es.length - 1 - e + i) e = pastM cs es M (es.length - 1 - e) e
  | 0, _ => rfl
  | i + 1, h => by
    have ih := past_final (M := M) hw he i (by omega)
    show (pastM cs es M (es.length - 1 - e + i) e || (_ && byAny cs (evP es (es.length - 1 - (es.length - 1 - e + i))) e)) = _
    have h0 : byAny cs (evP es (es.length - 1 - (es.length - 1 - e + i))) e = false := by
      rw [Bool.eq_false_iff]
      intro hb
      obtain ⟨k, hk, hb⟩ := byAny_iff.1 hb
      have := hw (es.length - 1 - (es.length - 1 - e + i)) (by omega) k hk
      omega
    rw [h0, Bool.and_false, Bool.or_false, ih]
theorem past_step {cs : List Cnd} {es : List Ev} {M : Nat → Bool} (hw : WfU cs es) {e f k : Nat} (he : e < es.length) (hk : k < (evP es e).length) (hb : cnB cs ((evP es e).getD k 0).toNat = (f : Int)) (h : pastM cs es M es.length e = true) : pastM cs es M es.length f = true := by
  have h1 := past_final (M := M) hw he (e + 1) (by omega)
  rw [show es.length - 1 - e + (e + 1) = es.length by omega, h] at h1
  have h2 : pastM cs es M (es.length - 1 - e + 1) f = true := by
    show (_ || (pastM cs es M (es.length - 1 - e) (es.length - 1 - (es.length - 1 - e)) && byAny cs (evP es (es.length - 1 - (es.length - 1 - e))) f)) = true
    rw [show es.length - 1 - (es.length - 1 - e) = e by omega, ← h1, byAny_iff.2 ⟨k, hk, hb⟩]
    simp
  have h3 := past_mono (cs := cs) (es := es) (M := M) (f := f) e h2
  rw [show es.length - 1 - e + 1 + e = es.length by omega] at h3
  exact h3
theorem past_full {cs : List Cnd} {es : List Ev} {M : Nat → Bool} (hw : WfU cs es) {g f : Nat} (ha : Anc cs es g f) : g < es.length → pastM cs es M es.length g = true → pastM cs es M es.length f = true := by
  induction ha with
  | self e => exact fun _ h => h
  | @step e g f k hk hb _ ih =>
    intro he h
    have := hw e he k hk
    exact ih (by omega) (past_step hw he hk hb h)
/-- the marks at the end: the pasts of what was marked at first -/
theorem past_iff {cs : List Cnd} {es : List Ev} {M : Nat → Bool} (hw : WfU cs es) (hM : ∀ g, M g = true → g < es.length) {f : Nat} : pastM cs es M es.length f = true ↔ ∃ g, M g = true ∧ Anc cs es g f := by
  constructor
  · exact past_sound _ f
  · rintro ⟨g, hg, ha⟩
    refine past_full hw ha (hM g hg) ?_
    have := past_mono (cs := cs) (es := es) (M := M) (f := g) (j := 0) es.length hg
    rwa [Nat.zero_add] at this

/-- an event has condition c in its Pre -/
def Cons (es : List Ev) (e c : Nat) : Prop := ∃ q, q < (evP es e).length ∧ ((evP es e).getD q 0).toNat = c
/-- the past of the producers of a list -/
def PastL (cs : List Cnd) (es : List Ev) (L : List Int) (f : Nat) : Prop := ∃ k, k < L.length ∧ ∃ g : Nat, cnB cs (L.getD k 0).toNat = (g : Int) ∧ Anc cs es g f
theorem anc_lt {cs : List Cnd} {es : List Ev} (hw : WfU cs es) {g f : Nat} (h : Anc cs es g f) : g < es.length → f < es.length := by
  induction h with
  | self e => exact id
  | @step e g f k hk hb _ ih =>
    intro he
    have := hw e he k hk
    exact ih (by omega)
/-- the program's test of a co-set -/
theorem Means.co {cs : List Cnd} {es : List Ev} {ps us : List Nat} (h : Means cs es ps us) (hf : Fit us) {L : List Int} (hin : ∀ k, k < L.length → 0 ≤ L.getD k 0 ∧ L.getD k 0 < (cs.length : Int)) :
    coB cs ps us L = true ↔ (∀ c, c < cs.length → ∀ i j, i < j → PastL cs es L i → PastL cs es L j → ¬ (Cons es i c ∧ Cons es j c)) ∧ ∀ k, k < L.length → ∀ e, PastL cs es L e → ¬ Cons es e (L.getD k 0).toNat := by
  have hlt : ∀ e, PastL cs es L e → e < es.length := fun e ⟨k, hk, g, hg, ha⟩ => by
    have := h.by_ (L.getD k 0).toNat (by have := hin k hk; omega)
    exact anc_lt h.wf ha (by omega)
  unfold coB
  rw [Bool.and_eq_true, Bool.not_eq_true', Bool.not_eq_true', Bool.eq_false_iff, Bool.eq_false_iff]
  refine and_congr ?_ ?_
  · rw [Ne, cfB_iff hf]
    constructor
    · intro hn c hc i j hij hi hj ⟨k1, k2⟩
      exact hn ⟨c, by rw [h.uc]; exact hc, i, j, hij, ⟨(h.u c hc i).2 ⟨hlt i hi, k1⟩, (h.past hin).2 hi⟩, (h.u c hc j).2 ⟨hlt j hj, k2⟩, (h.past hin).2 hj⟩
    · rintro hn ⟨c, hc, i, j, hij, ⟨k1, k2⟩, k3, k4⟩
      rw [h.uc] at hc
      exact hn c hc i j hij ((h.past hin).1 k2) ((h.past hin).1 k4) ⟨((h.u c hc i).1 k1).2, ((h.u c hc j).1 k3).2⟩
  · unfold anyTo
    rw [Ne, List.any_eq_true]
    constructor
    · intro hn k hk e he hc
      have hcl : (L.getD k 0).toNat < cs.length := by have := hin k hk; omega
      refine hn ⟨k, by simpa using hk, ?_⟩
      unfold usAt
      exact decide_eq_true (and_ne.2 ⟨e, (h.u _ hcl e).2 ⟨hlt e he, hc⟩, (h.past hin).2 he⟩)
    · rintro hn ⟨k, hk, hu⟩
      have hk : k < L.length := by simpa using hk
      have hcl : (L.getD k 0).toNat < cs.length := by have := hin k hk; omega
      unfold usAt at hu
      obtain ⟨e, h1, h2⟩ := and_ne.1 (of_decide_eq_true hu)
      exact hn k hk e ((h.past hin).1 h2) ((h.u _ hcl e).1 h1).2

end Go.Proofs.YtigkgfdnnfmmmaaGreat

namespace Go.Proofs.YtigkgfdnnfmmmaaGreat
open Go.RowKit

/-- the events in the past of a list of conditions, rising -/
def pastE (cs : List Cnd) (es : List Ev) (L : List Int) : List Nat := (List.range es.length).filter (pastM cs es (byAny cs L) es.length)
def usedB (es : List Ev) (P : List Nat) (c : Int) : Bool := P.any fun e => decide (c ∈ evP es e)
def freeB (es : List Ev) (P : List Nat) : Bool := decide ((P.flatMap (evP es)).Nodup)
def togB (cs : List Cnd) (es : List Ev) (L : List Int) : Bool := !L.any (usedB es (pastE cs es L)) && freeB es (pastE cs es L)
/-- no event has a condition twice -/
def NodE (es : List Ev) : Prop := ∀ e, e < es.length → (evP es e).Nodup
theorem mem_pastE {cs : List Cnd} {es : List Ev} {L : List Int} (hw : WfU cs es) (hby : ByIn cs es.length) (hin : ∀ k, k < L.length → 0 ≤ L.getD k 0 ∧ L.getD k 0 < (cs.length : Int)) {f : Nat} : f ∈ pastE cs es L ↔ PastL cs es L f := by
  have hM : ∀ g, byAny cs L g = true → g < es.length := fun g hg => by
    obtain ⟨k, hk, hb⟩ := byAny_iff.1 hg
    have := hby (L.getD k 0).toNat (by have := hin k hk; omega)
    omega
  unfold pastE
  rw [List.mem_filter, List.mem_range, past_iff hw hM]
  constructor
  · rintro ⟨_, g, hg, ha⟩
    obtain ⟨k, hk, hb⟩ := byAny_iff.1 hg
    exact ⟨k, hk, g, hb, ha⟩
  · rintro ⟨k, hk, g, hb, ha⟩
    have hg := byAny_iff.2 ⟨k, hk, hb⟩
    exact ⟨anc_lt hw ha (hM g hg), g, hg, ha⟩
theorem cons_iff {cs : List Cnd} {es : List Ev} (hw : WfU cs es) {e : Nat} (he : e < es.length) {c : Int} (hc : 0 ≤ c) : Cons es e c.toNat ↔ c ∈ evP es e := by
  unfold Cons
  constructor
  · rintro ⟨q, hq, h⟩
    have h1 := (hw e he q hq).1.1
    have h2 : (evP es e).getD q 0 = c := by omega
    rw [← h2]
    simp only [List.getD, List.getElem?_eq_getElem hq, Option.getD_some]
    exact List.getElem_mem hq
  · intro h
    obtain ⟨q, hq, rfl⟩ := List.getElem_of_mem h
    exact ⟨q, hq, by simp only [List.getD, List.getElem?_eq_getElem hq, Option.getD_some]⟩
theorem pastE_rise (cs : List Cnd) (es : List Ev) (L : List Int) : (pastE cs es L).Pairwise (· < ·) := List.Pairwise.filter _ List.pairwise_lt_range
theorem freeB_iff {cs : List Cnd} {es : List Ev} (hw : WfU cs es) (hn : NodE es) {P : List Nat} (hP : P.Pairwise (· < ·)) (hl : ∀ e ∈ P, e < es.length) :
    freeB es P = true ↔ ∀ c, c < cs.length → ∀ i j, i < j → i ∈ P → j ∈ P → ¬ (Cons es i c ∧ Cons es j c) := by
  unfold freeB
  rw [decide_eq_true_iff]
  unfold List.Nodup
  rw [List.pairwise_flatMap]
  constructor
  · rintro ⟨_, h⟩ c hc i j hij hi hj ⟨h1, h2⟩
    have h1 := (cons_iff hw (hl i hi) (c := (c : Int)) (by omega)).1 (by rw [Int.toNat_natCast]; exact h1)
    have h2 := (cons_iff hw (hl j hj) (c := (c : Int)) (by omega)).1 (by rw [Int.toNat_natCast]; exact h2)
    obtain ⟨a, ha, ea⟩ := List.getElem_of_mem hi
    obtain ⟨b, hb, eb⟩ := List.getElem_of_mem hj
    rcases Nat.lt_trichotomy a b with hab | hab | hab
    · have := List.pairwise_iff_getElem.1 h a b ha hb hab
      rw [ea, eb] at this
      exact this _ h1 _ h2 rfl
    · subst hab
      omega
    · have := List.pairwise_iff_getElem.1 h b a hb ha hab
      rw [ea, eb] at this
      exact this _ h2 _ h1 rfl
  · intro h
    refine ⟨fun e he => hn e (hl e he), hP.imp_of_mem fun {i j} hi hj hij x hx y hy e => ?_⟩
    subst e
    have hx0 : 0 ≤ x ∧ x < (cs.length : Int) := by
      obtain ⟨q, hq, rfl⟩ := List.getElem_of_mem hx
      have := (hw i (hl i hi) q hq).1
      simpa only [List.getD, List.getElem?_eq_getElem hq, Option.getD_some] using this
    exact h x.toNat (by omega) i j hij hi hj ⟨(cons_iff hw (hl i hi) hx0.1).2 hx, (cons_iff hw (hl j hj) hx0.1).2 hy⟩
/-- one test for both -/
theorem togB_eq {cs : List Cnd} {es : List Ev} {ps us : List Nat} (h : Means cs es ps us) (hf : Fit us) (hn : NodE es) {L : List Int} (hin : ∀ k, k < L.length → 0 ≤ L.getD k 0 ∧ L.getD k 0 < (cs.length : Int)) :
    togB cs es L = coB cs ps us L := by
  rw [Bool.eq_iff_iff, h.co hf hin]
  have hm : ∀ {f}, f ∈ pastE cs es L ↔ PastL cs es L f := mem_pastE h.wf h.by_ hin
  have hl : ∀ e ∈ pastE cs es L, e < es.length := fun e he => by
    unfold pastE at he
    rw [List.mem_filter, List.mem_range] at he
    exact he.1
  unfold togB
  rw [Bool.and_eq_true, Bool.not_eq_true', freeB_iff h.wf hn (pastE_rise cs es L) hl, and_comm]
  refine and_congr ?_ ?_
  · simp only [hm]
  · rw [Bool.eq_false_iff, Ne, List.any_eq_true]
    constructor
    · intro hno k hk e he hc
      refine hno ⟨L.getD k 0, ?_, ?_⟩
      · simp only [List.getD, List.getElem?_eq_getElem hk, Option.getD_some]; exact List.getElem_mem hk
      · unfold usedB
        rw [List.any_eq_true]
        exact ⟨e, hm.2 he, decide_eq_true ((cons_iff h.wf (hl e (hm.2 he)) (hin k hk).1).1 hc)⟩
    · rintro hno ⟨c, hc, hu⟩
      obtain ⟨k, hk, rfl⟩ := List.getElem_of_mem hc
      unfold usedB at hu
      rw [List.any_eq_true] at hu
      obtain ⟨e, he, hd⟩ := hu
      have e1 : L[k] = L.getD k 0 := by simp only [List.getD, List.getElem?_eq_getElem hk, Option.getD_some]
      have hd := of_decide_eq_true hd
      rw [e1] at hd
      exact hno k hk e (hm.1 he) ((cons_iff h.wf (hl e he) (hin k hk).1).2 hd)

end Go.Proofs.YtigkgfdnnfmmmaaGreat
