/- THE MODEL's PASTS as data: marks that are handed down from the last event to the first; what they mean; co-sets of the program and of the model.
   THE MODEL's TEST OF A CO-SET as data, and that it is the program's.
   WALK: contains of the program.
   CONTRACTS OF THE LIBRARY at this program, laid by program (gen/layshelf.py): Tryz.slices_Sort_int Tryz.slices_Sort_int_none -/
import Derived.Test.YtigkgfdnnfmmmaaGreatVHpu
import Derived.Shelf.Sort.Plain
import Derived.Shelf.Slices.In.SortNone
import Derived.Test.YtigkgfdnnfmmmaaGreatVNeta
namespace Go.Proofs.YtigkgfdnnfmmmaaGreat
open Go.RowKit

theorem Anc.trans {cs : List Cnd} {es : List Ev} {a b c : Nat} (h : Anc cs es a b) (h2 : Anc cs es b c) : Anc cs es a c := by
  induction h with
  | self e => exact h2
  | @step e g f k hk hb _ ih => exact .step k hk hb (ih h2)
/-- event f has produced a condition of the list -/
def byAny (cs : List Cnd) (L : List Int) (f : Nat) : Bool := L.any fun c => decide (cnB cs c.toNat = (f : Int))
def mkStep (cs : List Cnd) (es : List Ev) (M : Nat → Bool) (e : Nat) : Nat → Bool := fun f => M f || (M e && byAny cs (evP es e) f)
/-- the last j events have handed their marks down -/
def pastM (cs : List Cnd) (es : List Ev) (M : Nat → Bool) : Nat → Nat → Bool
  | 0 => M
  | j + 1 => mkStep cs es (pastM cs es M j) (es.length - 1 - j)
theorem byAny_iff {cs : List Cnd} {L : List Int} {f : Nat} : byAny cs L f = true ↔ ∃ k, k < L.length ∧ cnB cs (L.getD k 0).toNat = (f : Int) := by
  unfold byAny
  rw [List.any_eq_true]
  constructor
  · rintro ⟨c, hc, h⟩
    obtain ⟨k, hk, rfl⟩ := List.getElem_of_mem hc
    exact ⟨k, hk, by simpa [List.getD, hk] using h⟩
  · rintro ⟨k, hk, h⟩
    exact ⟨L[k], List.getElem_mem hk, by simpa [List.getD, hk] using h⟩
theorem past_sound {cs : List Cnd} {es : List Ev} {M : Nat → Bool} : ∀ j f, pastM cs es M j f = true → ∃ g, M g = true ∧ Anc cs es g f
  | 0, f, h => ⟨f, h, .self f⟩
  | j + 1, f, h => by
    have h : (pastM cs es M j f || (pastM cs es M j (es.length - 1 - j) && byAny cs (evP es (es.length - 1 - j)) f)) = true := h
    rw [Bool.or_eq_true, Bool.and_eq_true] at h
    rcases h with h | ⟨h1, h2⟩
    · exact past_sound j f h
    · obtain ⟨g, hg, ha⟩ := past_sound j _ h1
      obtain ⟨k, hk, hb⟩ := byAny_iff.1 h2
      exact ⟨g, hg, ha.trans (.step k hk hb (.self f))⟩
theorem past_mono {cs : List Cnd} {es : List Ev} {M : Nat → Bool} {f j : Nat} : ∀ i, pastM cs es M j f = true → pastM cs es M (j + i) f = true
  | 0, h => h
  | i + 1, h => by
    have h1 := past_mono (cs := cs) (es := es) (M := M) (f := f) (j := j) i h
    show (pastM cs es M (j + i) f || _) = true
    rw [h1, Bool.true_or]
/-- behind the later events an event's mark stays -/
theorem past_final {cs : List Cnd} {es : List Ev} {M : Nat → Bool} (hw : WfU cs es) {e : Nat} (he : e < es.length) : ∀ i, es.length - 1 - e + i ≤ es.length → pastM cs es M (es.length - 1 - e + i) e = pastM cs es M (es.length - 1 - e) e
  | 0, _ => rfl
  | i + 1, h => by
    have ih := past_final (M := M) hw he i (by omega)
    show (pastM cs es M (es.length - 1 - e + i) e || (_ && byAny cs (evP es (es.length - 1 - (es.length - 1 - e + i))) e)) = _
    have h0 : byAny cs (evP es (es.length - 1 - (es.length - 1 - e + i))) e = false := by
      rw [Bool.eq_false_iff]
      intro hb
      obtain ⟨k, hk, hb⟩ := byAny_iff.1 hb
      have := hw (es.length - 1 - (es.length - 1 - e + i)) (by omega) k hk
      omega
    rw [h0, Bool.and_false, Bool.or_false, ih]
theorem past_step {cs : List Cnd} {es : List Ev} {M : Nat → Bool} (hw : WfU cs es) {e f k : Nat} (he : e < es.length) (hk : k < (evP es e).length) (hb : cnB cs ((evP es e).getD k 0).toNat = (f : Int)) (h : pastM cs es M es.length e = true) : pastM cs es M es.length f = true := by
  have h1 := past_final (M := M) hw he (e + 1) (by omega)
  rw [show es.length - 1 - e + (e + 1) = es.length by omega, h] at h1
  have h2 : pastM cs es M (es.length - 1 - e + 1) f = true := by
    show (_ || (pastM cs es M (es.length - 1 - e) (es.length - 1 - (es.length - 1 - e)) && byAny cs (evP es (es.length - 1 - (es.length - 1 - e))) f)) = true
    rw [show es.length - 1 - (es.length - 1 - e) = e by omega, ← h1, byAny_iff.2 ⟨k, hk, hb⟩]
    simp
  have h3 := past_mono (cs := cs) (es := es) (M := M) (f := f) e h2
  rw [show es.length - 1 - e + 1 + e = es.length by omega] at h3
  exact h3
theorem past_full {cs : List Cnd} {es : List Ev} {M : Nat → Bool} (hw : WfU cs es) {g f : Nat} (ha : Anc cs es g f) : g < es.length → pastM cs es M es.length g = true → pastM cs es M es.length f = true := by
  induction ha with
  | self e => exact fun _ h => h
  | @step e g f k hk hb _ ih =>
    intro he h
    have := hw e he k hk
    exact ih (by omega) (past_step hw he hk hb h)
/-- the marks at the end: the pasts of what was marked at first -/
theorem past_iff {cs : List Cnd} {es : List Ev} {M : Nat → Bool} (hw : WfU cs es) (hM : ∀ g, M g = true → g < es.length) {f : Nat} : pastM cs es M es.length f = true ↔ ∃ g, M g = true ∧ Anc cs es g f := by
  constructor
  · exact past_sound _ f
  · rintro ⟨g, hg, ha⟩
    refine past_full hw ha (hM g hg) ?_
    have := past_mono (cs := cs) (es := es) (M := M) (f := g) (j := 0) es.length hg
    rwa [Nat.zero_add] at this

/-- an event has condition c in its Pre -/
def Cons (es : List Ev) (e c : Nat) : Prop := ∃ q, q < (evP es e).length ∧ ((evP es e).getD q 0).toNat = c
/-- the past of the producers of a list -/
def PastL (cs : List Cnd) (es : List Ev) (L : List Int) (f : Nat) : Prop := ∃ k, k < L.length ∧ ∃ g : Nat, cnB cs (L.getD k 0).toNat = (g : Int) ∧ Anc cs es g f
theorem anc_lt {cs : List Cnd} {es : List Ev} (hw : WfU cs es) {g f : Nat} (h : Anc cs es g f) : g < es.length → f < es.length := by
  induction h with
  | self e => exact id
  | @step e g f k hk hb _ ih =>
    intro he
    have := hw e he k hk
    exact ih (by omega)
/-- the program's test of a co-set -/
theorem Means.co {cs : List Cnd} {es : List Ev} {ps us : List Nat} (h : Means cs es ps us) (hf : Fit us) {L : List Int} (hin : ∀ k, k < L.length → 0 ≤ L.getD k 0 ∧ L.getD k 0 < (cs.length : Int)) :
    coB cs ps us L = true ↔ (∀ c, c < cs.length → ∀ i j, i < j → PastL cs es L i → PastL cs es L j → ¬ (Cons es i c ∧ Cons es j c)) ∧ ∀ k, k < L.length → ∀ e, PastL cs es L e → ¬ Cons es e (L.getD k 0).toNat := by
  have hlt : ∀ e, PastL cs es L e → e < es.length := fun e ⟨k, hk, g, hg, ha⟩ => by
    have := h.by_ (L.getD k 0).toNat (by have := hin k hk; omega)
    exact anc_lt h.wf ha (by omega)
  unfold coB
  rw [Bool.and_eq_true, Bool.not_eq_true', Bool.not_eq_true', Bool.eq_false_iff, Bool.eq_false_iff]
  refine and_congr ?_ ?_
  · rw [Ne, cfB_iff hf]
    constructor
    · intro hn c hc i j hij hi hj ⟨k1, k2⟩
      exact hn ⟨c, by rw [h.uc]; exact hc, i, j, hij, ⟨(h.u c hc i).2 ⟨hlt i hi, k1⟩, (h.past hin).2 hi⟩, (h.u c hc j).2 ⟨hlt j hj, k2⟩, (h.past hin).2 hj⟩
    · rintro hn ⟨c, hc, i, j, hij, ⟨k1, k2⟩, k3, k4⟩
      rw [h.uc] at hc
      exact hn c hc i j hij ((h.past hin).1 k2) ((h.past hin).1 k4) ⟨((h.u c hc i).1 k1).2, ((h.u c hc j).1 k3).2⟩
  · unfold anyTo
    rw [Ne, List.any_eq_true]
    constructor
    · intro hn k hk e he hc
      have hcl : (L.getD k 0).toNat < cs.length := by have := hin k hk; omega
      refine hn ⟨k, by simpa using hk, ?_⟩
      unfold usAt
      exact decide_eq_true (and_ne.2 ⟨e, (h.u _ hcl e).2 ⟨hlt e he, hc⟩, (h.past hin).2 he⟩)
    · rintro hn ⟨k, hk, hu⟩
      have hk : k < L.length := by simpa using hk
      have hcl : (L.getD k 0).toNat < cs.length := by have := hin k hk; omega
      unfold usAt at hu
      obtain ⟨e, h1, h2⟩ := and_ne.1 (of_decide_eq_true hu)
      exact hn k hk e ((h.past hin).1 h2) ((h.u _ hcl e).1 h1).2

end Go.Proofs.YtigkgfdnnfmmmaaGreat

namespace Go.Proofs.YtigkgfdnnfmmmaaGreat
open Go.RowKit

/-- the events in the past of a list of conditions, rising -/
def pastE (cs : List Cnd) (es : List Ev) (L : List Int) : List Nat := (List.range es.length).filter (pastM cs es (byAny cs L) es.length)
def usedB (es : List Ev) (P : List Nat) (c : Int) : Bool := P.any fun e => decide (c ∈ evP es e)
def freeB (es : List Ev) (P : List Nat) : Bool := decide ((P.flatMap (evP es)).Nodup)
def togB (cs : List Cnd) (es : List Ev) (L : List Int) : Bool := !L.any (usedB es (pastE cs es L)) && freeB es (pastE cs es L)
/-- no event has a condition twice -/
def NodE (es : List Ev) : Prop := ∀ e, e < es.length → (evP es e).Nodup
theorem mem_pastE {cs : List Cnd} {es : List Ev} {L : List Int} (hw : WfU cs es) (hby : ByIn cs es.length) (hin : ∀ k, k < L.length → 0 ≤ L.getD k 0 ∧ L.getD k 0 < (cs.length : Int)) {f : Nat} : f ∈ pastE cs es L ↔ PastL cs es L f := by
  have hM : ∀ g, byAny cs L g = true → g < es.length := fun g hg => by
    obtain ⟨k, hk, hb⟩ := byAny_iff.1 hg
    have := hby (L.getD k 0).toNat (by have := hin k hk; omega)
    omega
  unfold pastE
  rw [List.mem_filter, List.mem_range, past_iff hw hM]
  constructor
  · rintro ⟨_, g, hg, ha⟩
    obtain ⟨k, hk, hb⟩ := byAny_iff.1 hg
    exact ⟨k, hk, g, hb, ha⟩
  · rintro ⟨k, hk, g, hb, ha⟩
    have hg := byAny_iff.2 ⟨k, hk, hb⟩
    exact ⟨anc_lt hw ha (hM g hg), g, hg, ha⟩
theorem cons_iff {cs : List Cnd} {es : List Ev} (hw : WfU cs es) {e : Nat} (he : e < es.length) {c : Int} (hc : 0 ≤ c) : Cons es e c.toNat ↔ c ∈ evP es e := by
  unfold Cons
  constructor
  · rintro ⟨q, hq, h⟩
    have h1 := (hw e he q hq).1.1
    have h2 : (evP es e).getD q 0 = c := by omega
    rw [← h2]
    simp only [List.getD, List.getElem?_eq_getElem hq, Option.getD_some]
    exact List.getElem_mem hq
  · intro h
    obtain ⟨q, hq, rfl⟩ := List.getElem_of_mem h
    exact ⟨q, hq, by simp only [List.getD, List.getElem?_eq_getElem hq, Option.getD_some]⟩
theorem pastE_rise (cs : List Cnd) (es : List Ev) (L : List Int) : (pastE cs es L).Pairwise (· < ·) := List.Pairwise.filter _ List.pairwise_lt_range
theorem freeB_iff {cs : List Cnd} {es : List Ev} (hw : WfU cs es) (hn : NodE es) {P : List Nat} (hP : P.Pairwise (· < ·)) (hl : ∀ e ∈ P, e < es.length) :
    freeB es P = true ↔ ∀ c, c < cs.length → ∀ i j, i < j → i ∈ P → j ∈ P → ¬ (Cons es i c ∧ Cons es j c) := by
  unfold freeB
  rw [decide_eq_true_iff]
  unfold List.Nodup
  rw [List.pairwise_flatMap]
  constructor
  · rintro ⟨_, h⟩ c hc i j hij hi hj ⟨h1, h2⟩
    have h1 := (cons_iff hw (hl i hi) (c := (c : Int)) (by omega)).1 (by rw [Int.toNat_natCast]; exact h1)
    have h2 := (cons_iff hw (hl j hj) (c := (c : Int)) (by omega)).1 (by rw [Int.toNat_natCast]; exact h2)
    obtain ⟨a, ha, ea⟩ := List.getElem_of_mem hi
    obtain ⟨b, hb, eb⟩ := List.getElem_of_mem hj
    rcases Nat.lt_trichotomy a b with hab | hab | hab
    · have := List.pairwise_iff_getElem.1 h a b ha hb hab
      rw [ea, eb] at this
      exact this _ h1 _ h2 rfl
    · subst hab
      omega
    · have := List.pairwise_iff_getElem.1 h b a hb ha hab
      rw [ea, eb] at this
      exact this _ h2 _ h1 rfl
  · intro h
    refine ⟨fun e he => hn e (hl e he), hP.imp_of_mem fun {i j} hi hj hij x hx y hy e => ?_⟩
    subst e
    have hx0 : 0 ≤ x ∧ x < (cs.length : Int) := by
      obtain ⟨q, hq, rfl⟩ := List.getElem_of_mem hx
      have := (hw i (hl i hi) q hq).1
      simpa only [List.getD, List.getElem?_eq_getElem hq, Option.getD_some] using this
    exact h x.toNat (by omega) i j hij hi hj ⟨(cons_iff hw (hl i hi) hx0.1).2 hx, (cons_iff hw (hl j hj) hx0.1).2 hy⟩
/-- one test for both -/
theorem togB_eq {cs : List Cnd} {es : List Ev} {ps us : List Nat} (h : Means cs es ps us) (hf : Fit us) (hn : NodE es) {L : List Int} (hin : ∀ k, k < L.length → 0 ≤ L.getD k 0 ∧ L.getD k 0 < (cs.length : Int)) :
    togB cs es L = coB cs ps us L := by
  rw [Bool.eq_iff_iff, h.co hf hin]
  have hm : ∀ {f}, f ∈ pastE cs es L ↔ PastL cs es L f := mem_pastE h.wf h.by_ hin
  have hl : ∀ e ∈ pastE cs es L, e < es.length := fun e he => by
    unfold pastE at he
    rw [List.mem_filter, List.mem_range] at he
    exact he.1
  unfold togB
  rw [Bool.and_eq_true, Bool.not_eq_true', freeB_iff h.wf hn (pastE_rise cs es L) hl, and_comm]
  refine and_congr ?_ ?_
  · simp only [hm]
  · rw [Bool.eq_false_iff, Ne, List.any_eq_true]
    constructor
    · intro hno k hk e he hc
      refine hno ⟨L.getD k 0, ?_, ?_⟩
      · simp only [List.getD, List.getElem?_eq_getElem hk, Option.getD_some]; exact List.getElem_mem hk
      · unfold usedB
        rw [List.any_eq_true]
        exact ⟨e, hm.2 he, decide_eq_true ((cons_iff h.wf (hl e (hm.2 he)) (hin k hk).1).1 hc)⟩
    · rintro hno ⟨c, hc, hu⟩
      obtain ⟨k, hk, rfl⟩ := List.getElem_of_mem hc
      unfold usedB at hu
      rw [List.any_eq_true] at hu
      obtain ⟨e, he, hd⟩ := hu
      have e1 : L[k] = L.getD k 0 := by simp only [List.getD, List.getElem?_eq_getElem hk, Option.getD_some]
      have hd := of_decide_eq_true hd
      rw [e1] at hd
      exact hno k hk e (hm.1 he) ((cons_iff h.wf (hl e he) (hin k hk).1).2 hd)

end Go.Proofs.YtigkgfdnnfmmmaaGreat

namespace Go.Proofs.YtigkgfdnnfmmmaaGreat
open Go.RowKit

/-- event k is this one -/
def evIs (es : List Ev) (t : Int) (L : List Int) (k : Nat) : Bool := decide (evT es k = t) && decide (evP es k = L)
def evHas (es : List Ev) (t : Int) (L : List Int) : Bool := anyTo es.length (evIs es t L)

set_option maxRecDepth 100000 in
set_option maxHeartbeats 1000000 in
theorem containsClo_any (x t : Int) (M L : List Int) (u v : Value) (b : Nat) (w : World) (lo lo' : Nat) (hu : IntsAt lo w u M) (hv : IntsAt lo' w v L) (hM : M.length ≤ 1048576) (hL : L.length ≤ 1048576) (h0 : w.cell? ⟨b, 0, none⟩ = some (.int .i64 t)) (h1 : w.cell? ⟨b, 1, none⟩ = some v) :
    Calls Tryz.prog 92 #[.agg #[.int .i64 x, u], .pointer (some ⟨b, 0, none⟩)] w (RetB w (decide (x = t) && decide (M = L))) := by
  obtain ⟨a1, c1, rfl, _, _⟩ := id hu
  obtain ⟨a2, c2, rfl, _, _⟩ := id hv
  have HU := Lib.hid hu; clear hu
  have HV := Lib.hid hv; clear hv
  have HM := Lib.hid hM; clear hM
  have HL := Lib.hid hL; clear hL
  obtain ⟨m1, hm1⟩ : ∃ x, x = M.length := ⟨_, rfl⟩
  obtain ⟨m2, hm2⟩ : ∃ x, x = L.length := ⟨_, rfl⟩
  rw [← hm1] at HU ⊢
  rw [← hm2] at HV h1
  clear hm1 hm2
  have HA : Below w.heap.size w (w.alloc (.cells #[.int .i64 x, .slice a1 m1 c1] 46)) := (Below.refl _ _).alloc (Nat.le_refl _) _
  have h0 := cell_carry h0 (Carries.of 0 HA)
  have h1 := cell_carry h1 (Carries.of 0 HA)
  by_cases he : x = t
  · subst he
    have e1 : (x == x) = true := by simp
    rw [decide_eq_true rfl, Bool.true_and]
    go_enter Tryz.func92, Tryz.ntmps92
    go_wp2_with fail
    refine (EqualInts_any _ _ M L _ _ _ (HU.out.keep (Carries.of _ HA)) (HV.out.keep (Carries.of _ HA)) HM.out HL.out).mono ?_
    rintro e w1 ⟨rfl, hb⟩
    have hw1 : Below w.heap.size w w1 := HA.trans (hb.mono (by simp))
    clear hb
    go_wp2_with fail
    go_ret
    exact ⟨rfl, hw1⟩
  · have e1 : (x == t) = false := by simpa using he
    rw [decide_eq_false he, Bool.false_and]
    clear he
    go_enter Tryz.func92, Tryz.ntmps92
    go_wp2_with fail
    go_ret
    exact ⟨rfl, HA⟩

set_option maxRecDepth 100000 in
set_option maxHeartbeats 1000000 in
theorem contains_any (B H : Nat) (w : World) (P : Int) (vt vc ve vp vu : Value) (cs : List Cnd) (es : List Ev) (ps us : List Nat) (t : Int) (v : Value) (L : List Int) (lo : Nat) (h : HisAt B H w P vt vc ve vp vu cs es ps us) (hv : IntsAt lo w v L) (hl : L.length ≤ 1048576) (hel : es.length ≤ 1048576) (hes : ∀ k, k < es.length → (evP es k).length ≤ 1048576) :
    Calls Tryz.prog 69 #[.pointer (some ⟨H, 0, none⟩), .agg #[.int .i64 t, v]] w (RetB w (evHas es t L)) := by
  obtain ⟨q, hq⟩ : ∃ q, q = evHas es t L := ⟨_, rfl⟩
  rw [← hq]
  have HQ := Lib.hid hq; clear hq
  have c3 := h.c3
  have hat := h.re.at
  obtain ⟨ae, ke, rfl, _, _⟩ := id hat
  have HE := Lib.hid hat; clear hat h
  have HV := Lib.hid hv
  obtain ⟨ao, cap, rfl, _, _⟩ := hv
  have HES := Lib.hid hes; clear hes
  obtain ⟨n, hn⟩ : ∃ n, n = L.length := ⟨_, rfl⟩
  rw [← hn] at HV hl ⊢
  have HN := Lib.hid hn; clear hn
  have hmf : ∀ (fn : Fn) (first cap : Array Value) (w : World), (Instr.makeFunc fn first cap).run Tryz.prog w = .ok (.func fn first cap) w := fun _ _ _ _ => rfl
  have HA : Below w.heap.size w (w.alloc (.cells #[.int .i64 t, .slice ao n cap] 46)) := (Below.refl _ _).alloc (Nat.le_refl _) _
  have c3 := cell_carry c3 (Carries.of 0 HA)
  have b0 : (w.alloc (.cells #[.int .i64 t, .slice ao n cap] 46)).cell? ⟨w.heap.size, 0, none⟩ = some (.int .i64 t) := (cell_new2 rfl).1
  have b1 : (w.alloc (.cells #[.int .i64 t, .slice ao n cap] 46)).cell? ⟨w.heap.size, 1, none⟩ = some (.slice ao n cap) := (cell_new2 rfl).2
  go_enter Tryz.func69, Tryz.ntmps69
  go_wp2_with fail
  refine (ContainsFuncEv_any _ es 92 _ (evIs es t L) _ B (HE.out.keep (Carries.of B HA)) hel (fun _ _ => rfl) (fun k hk w1 hb u1 hu => containsClo_any _ t _ L u1 _ w.heap.size w1 B lo hu (HV.out.keep (Carries.of lo (HA.trans (hb.mono (by simp))))) (HES.out k hk) (by rw [← HN.out]; exact hl) (cell_carry b0 (Carries.of 0 hb)) (cell_carry b1 (Carries.of 0 hb)))).mono ?_
  rintro e w2 ⟨rfl, hb⟩
  have hw2 : Below w.heap.size w w2 := HA.trans (hb.mono (by simp))
  have hq : anyTo es.length (evIs es t L) = q := HQ.out.symm
  rw [hq]
  go_wp2_with fail
  go_ret
  exact ⟨rfl, hw2⟩

end Go.Proofs.YtigkgfdnnfmmmaaGreat

namespace Go.Proofs
open Go.Shelf
def Tryz.lays189_ren : Go.Shelf.Ren := ⟨fun | 189 => 88 | 125 => 99 | 257 => 98 | 128 => 112 | 129 => 113 | 294 => 103 | 295 => 104 | 296 => 105 | 297 => 106 | 298 => 107 | 299 => 108 | 216 => 109 | 300 => 110 | 301 => 111 | 328 => 114 | 329 => 115 | 330 => 116 | 331 => 117 | 332 => 118 | 215 => 119 | 343 => 120 | n => n, fun | 28 => 29 | 3 => 3 | 46 => 127 | 0 => 0 | 51 => 139 | 53 => 108 | 4 => 4 | 183 => 133 | 182 => 132 | 131 => 55 | 5 => 5 | 9 => 9 | 218 => 140 | 222 => 144 | 228 => 146 | 229 => 147 | n => n, fun | n => n⟩
theorem Tryz.lays189 : Go.Proofs.Lays.n189 Tryz.prog Tryz.lays189_ren := {
  mixed := by kernel_rfl
  f125 := Tryz.func99.trans (congrArg some (by kernel_rfl))
  f128 := Tryz.func112.trans (congrArg some (by kernel_rfl))
  f129 := Tryz.func113.trans (congrArg some (by kernel_rfl))
  f189 := Tryz.func88.trans (congrArg some (by kernel_rfl))
  f215 := Tryz.func119.trans (congrArg some (by kernel_rfl))
  f216 := Tryz.func109.trans (congrArg some (by kernel_rfl))
  f257 := Tryz.func98.trans (congrArg some (by kernel_rfl))
  f294 := Tryz.func103.trans (congrArg some (by kernel_rfl))
  f295 := Tryz.func104.trans (congrArg some (by kernel_rfl))
  f296 := Tryz.func105.trans (congrArg some (by kernel_rfl))
  f297 := Tryz.func106.trans (congrArg some (by kernel_rfl))
  f298 := Tryz.func107.trans (congrArg some (by kernel_rfl))
  f299 := Tryz.func108.trans (congrArg some (by kernel_rfl))
  f300 := Tryz.func110.trans (congrArg some (by kernel_rfl))
  f301 := Tryz.func111.trans (congrArg some (by kernel_rfl))
  f328 := Tryz.func114.trans (congrArg some (by kernel_rfl))
  f329 := Tryz.func115.trans (congrArg some (by kernel_rfl))
  f330 := Tryz.func116.trans (congrArg some (by kernel_rfl))
  f331 := Tryz.func117.trans (congrArg some (by kernel_rfl))
  f332 := Tryz.func118.trans (congrArg some (by kernel_rfl))
  f343 := Tryz.func120.trans (congrArg some (by kernel_rfl))
  t0 := Tryz.underlying0
  a0 := Tryz.isAgg0
  z0 := Tryz.sizeOf0
  v0 := Tryz.zeroValue0
  t3 := Tryz.underlying3
  a3 := Tryz.isAgg3
  z3 := Tryz.sizeOf3
  v3 := Tryz.zeroValue3
  t4 := Tryz.underlying4
  a4 := Tryz.isAgg4
  z4 := Tryz.sizeOf4
  v4 := Tryz.zeroValue4
  t5 := Tryz.underlying5
  a5 := Tryz.isAgg5
  z5 := Tryz.sizeOf5
  v5 := Tryz.zeroValue5
  t9 := Tryz.underlying9
  a9 := Tryz.isAgg9
  z9 := Tryz.sizeOf9
  v9 := Tryz.zeroValue9
  t28 := Tryz.underlying29
  a28 := Tryz.isAgg29
  z28 := Tryz.sizeOf29
  v28 := Tryz.zeroValue29
  t46 := Tryz.underlying127
  a46 := Tryz.isAgg127
  z46 := Tryz.sizeOf127
  v46 := Tryz.zeroValue127
  t51 := Tryz.underlying139
  a51 := Tryz.isAgg139
  z51 := Tryz.sizeOf139
  v51 := Tryz.zeroValue139
  t53 := Tryz.underlying108
  a53 := Tryz.isAgg108
  z53 := Tryz.sizeOf108
  v53 := Tryz.zeroValue108
  t131 := Tryz.underlying55
  a131 := Tryz.isAgg55
  z131 := Tryz.sizeOf55
  v131 := Tryz.zeroValue55
  t182 := Tryz.underlying132
  a182 := Tryz.isAgg132
  z182 := Tryz.sizeOf132
  v182 := Tryz.zeroValue132
  t183 := Tryz.underlying133
  a183 := Tryz.isAgg133
  z183 := Tryz.sizeOf133
  v183 := Tryz.zeroValue133
  t218 := Tryz.underlying140
  a218 := Tryz.isAgg140
  z218 := Tryz.sizeOf140
  v218 := Tryz.zeroValue140
  t222 := Tryz.underlying144
  a222 := Tryz.isAgg144
  z222 := Tryz.sizeOf144
  v222 := Tryz.zeroValue144
  t228 := Tryz.underlying146
  a228 := Tryz.isAgg146
  z228 := Tryz.sizeOf146
  v228 := Tryz.zeroValue146
  t229 := Tryz.underlying147
  a229 := Tryz.isAgg147
  z229 := Tryz.sizeOf147
  v229 := Tryz.zeroValue147 }
open Go.Sort Go.RowKit in
theorem Tryz.slices_Sort_int (blk off cap : Nat) (zs : List Int) (w : World) (hH : Holds (Value.int .i64) w blk off zs.toArray) (hblk : blk < w.heap.size) (hsz : zs.length < 4611686018427387904) :
    Calls Tryz.prog 88 #[.slice (some ⟨blk, off, none⟩) zs.length cap] w fun e w' =>
      e = .returned (.tuple #[]) ∧ ∃ n os, w' = grow (putRow (Value.int .i64) (Sort.ahead w n) blk off (zs.mergeSort fun x y => decide (x ≤ y)).toArray) os := Any.slices_Sort_int Tryz.lays189 blk off cap zs w hH hblk hsz
open Go.RowKit Go.Sort in
/-- .. and plain. (LAID: no walk: one application.) -/
theorem Tryz.slices_Sort_int_none (p : Option Addr) (cap : Nat) (w : World) :
    Calls Tryz.prog 88 #[.slice p 0 cap] w fun e w' => e = .returned (.tuple #[]) ∧ w' = w := Any.slices_Sort_int_none Tryz.lays189 p cap w
end Go.Proofs
