/- PLAIN PART: an int is among ints. No program is named here.
   WALKS: l1Has, l1Same of the model (out of Meet).
   WALK: l7Used of the model.
   RELATIONS BETWEEN EVENTS, CONFIGURATIONS, said of data: the program's bit sets and the model's lists.
   WALKS: hasEvent, eventSet.has of the program. -/
import Derived.Test.YtigkgfdnnfmmmaaGreatVInts
import Derived.Test.YtigkgfdnnfmmmaaGreatVUvl
import Derived.Test.YtigkgfdnnfmmmaaGreatVHpw
import Derived.Test.YtigkgfdnnfmmmaaGreatVUvp
import Derived.Test.YtigkgfdnnfmmmaaGreatVLpa
namespace Go.Proofs.YtigkgfdnnfmmmaaGreat
open Go.RowKit

def hasB (l : List Int) (x : Int) : Bool := decide (x ∈ l)
theorem hasB_true {l : List Int} {x : Int} {k : Nat} (hk : k < l.length) (h : l.getD k 0 = x) : hasB l x = true := by
  rw [getD_eq hk] at h; subst h
  exact decide_eq_true (List.getElem_mem hk)
theorem hasB_false {l : List Int} {x : Int} (h : ∀ i, i < l.length → l.getD i 0 ≠ x) : hasB l x = false := by
  refine decide_eq_false fun hm => ?_
  obtain ⟨i, hi, he⟩ := List.mem_iff_getElem.1 hm
  exact h i hi (by rw [getD_eq hi]; exact he)

end Go.Proofs.YtigkgfdnnfmmmaaGreat

namespace Go.Proofs.YtigkgfdnnfmmmaaGreat
open Go.RowKit

set_option maxHeartbeats 400000 in
theorem l1Has_any (v : Value) (zs : List Int) (x : Int) (w : World) (lo : Nat) (hv : IntsAt lo w v zs) (hn : zs.length ≤ 4611686018427387904) :
    Calls Tryz.prog 76 #[v, .int .i64 x] w (RetB w (hasB zs x)) := by
  generalize hR : hasB zs x = r
  have HR := Lib.hid hR; clear hR
  obtain ⟨ao, cap, rfl, hc, hz⟩ := hv
  have HF := Lib.hid hz; clear hz
  go_enter Tryz.func76, Tryz.ntmps76
  go_wp2_with fail
  go_loop [9] (fun i => ∃ k : Nat, k ≤ zs.length ∧ i = .int .i64 k ∧ Hid (∀ i, i < k → zs.getD i 0 ≠ x)) (fun i => zs.length - (intOf i).toNat)
  case atStart => exact ⟨0, Nat.zero_le _, rfl, fun i hi => absurd hi (Nat.not_lt_zero _)⟩
  case round =>
    obtain ⟨k, hk, rfl, hall⟩ := hrel
    by_cases hlt : k < zs.length
    · rcases HF.out with rfl | ⟨b, off, rfl, hlo, hcell⟩
      · simp at hlt
      have c1 := hcell k hlt
      obtain ⟨y, hy⟩ : ∃ y, y = zs.getD k 0 := ⟨_, rfl⟩
      rw [← hy] at c1
      have HY := Lib.hid hy; clear hy hcell
      by_cases he : y = x
      · have hfin := hasB_true hlt (HY.out.symm.trans he)
        rw [HR.out] at hfin
        subst hfin
        have te : (y == x) = true := by simpa using he
        clear he
        go_wp2_with fail
        go_ret
        exact ⟨rfl, Below.refl _ _⟩
      · have H2 : Hid (∀ i, i < k + 1 → zs.getD i 0 ≠ x) := by
          intro i hi
          by_cases e : i = k
          · subst e; rw [← HY.out]; exact he
          · exact hall.out i (by omega)
        have te : (y == x) = false := by simpa using he
        clear he
        go_wp2_with fail
        go_round
        case rel => exact ⟨k + 1, by omega, by go_num, H2⟩
        case measure => simp [intOf]; omega
    · have hkk : k = zs.length := by omega
      subst hkk
      have hfin := hasB_false hall.out
      rw [HR.out] at hfin
      subst hfin
      go_wp2_with fail
      go_ret
      exact ⟨rfl, Below.refl _ _⟩


set_option maxHeartbeats 400000 in
theorem l1Same_any (v v' : Value) (zs ys : List Int) (w : World) (lo lo' : Nat) (hv : IntsAt lo w v zs) (hv' : IntsAt lo' w v' ys) (hn : zs.length ≤ 4611686018427387904) (hm : ys.length ≤ 4611686018427387904) :
    Calls Tryz.prog 56 #[v, v'] w (RetB w (decide (zs = ys))) := by
  obtain ⟨ao, cap, rfl, hc, hz⟩ := hv
  obtain ⟨ao', cap', rfl, hc', hz'⟩ := hv'
  by_cases hl : zs.length = ys.length
  · have hb : ((zs.length : Int) != (ys.length : Int)) = false := by simp [hl]
    by_cases hzs : 0 < zs.length
    · rcases hz with rfl | ⟨b, off, rfl, _, hcell⟩
      · simp at hzs
      rcases hz' with rfl | ⟨b', off', rfl, _, hcell'⟩
      · simp at hl; simp [hl] at hzs
      have HC := Lib.hid hcell; clear hcell
      have HC' := Lib.hid hcell'; clear hcell'
      have HL := Lib.hid hl
      have hl1 : zs.length ≤ ys.length := by omega
      have hl2 : ys.length ≤ zs.length := by omega
      clear hl
      go_enter Tryz.func56, Tryz.ntmps56
      go_wp2
      go_loopw [13] (fun i wr => ∃ k : Nat, k ≤ zs.length ∧ i = .int .i64 k ∧ Hid (zs.take k = ys.take k) ∧ Below w.heap.size w wr) (fun i _ => zs.length - (intOf i).toNat)
      case atStart => exact ⟨0, Nat.zero_le _, rfl, rfl, Below.refl _ _⟩
      case round =>
        obtain ⟨k, hk, rfl, ht, hb1⟩ := hrel
        by_cases hlt : k < zs.length
        · have hk2 : k < ys.length := by omega
          have c1 := cell_keep (HC.out k hlt) hb1 (Nat.le_refl _)
          have c2 := cell_keep (HC'.out k hk2) hb1 (Nat.le_refl _)
          go_wp2
          go_quiet (fail)
          go_wp2
          · have hne : (zs[k] != ys[k]) = true := by assumption
            go_ret
            refine ⟨?_, below_drewN hb1 _⟩
            rw [ne_of_getD (k := k) (by rw [getD_eq hlt, getD_eq hk2]; simpa using hne)]; rfl
          · have heq : (zs[k] != ys[k]) = false := by assumption
            have hs := Lib.hid (take_eq_succ hlt hk2 ht.out (by rw [getD_eq hlt, getD_eq hk2]; simpa using heq))
            go_roundw
            case rel => exact ⟨k + 1, by omega, by go_num, hs, below_drewN hb1 _⟩
            case measure => simp [intOf]; omega
        · go_wp2
          go_ret
          refine ⟨?_, hb1⟩
          have h1 := ht.out
          rw [List.take_of_length_le (by omega), List.take_of_length_le (by omega)] at h1
          simp [h1]
    · have hz0 : zs = [] := List.eq_nil_of_length_eq_zero (by omega)
      have hy0 : ys = [] := List.eq_nil_of_length_eq_zero (by omega)
      subst hz0; subst hy0
      simp only [List.length_nil]
      clear hz hz' hc hc' hb hl hzs
      go_enter Tryz.func56, Tryz.ntmps56
      go_wp2
      go_rounds 1
      go_ret
      exact ⟨rfl, Below.refl _ _⟩
  · have hb : ((zs.length : Int) != (ys.length : Int)) = true := by rw [bne_iff_ne]; omega
    have hd : decide (zs = ys) = false := by rw [decide_eq_false_iff_not]; rintro rfl; exact hl rfl
    rw [hd]; clear hd
    go_enter Tryz.func56, Tryz.ntmps56
    go_wp2
    go_ret
    exact ⟨rfl, Below.refl _ _⟩

end Go.Proofs.YtigkgfdnnfmmmaaGreat

namespace Go.Proofs.YtigkgfdnnfmmmaaGreat
open Go.RowKit

theorem hasB_mem {zs : List Int} {x : Int} : hasB zs x = decide (x ∈ zs) := rfl
theorem usedB_true {es : List Ev} {P : List Nat} {c : Int} {k : Nat} (hk : k < P.length) (h : hasB (evP es (P.getD k 0)) c = true) : usedB es P c = true := by
  unfold usedB
  rw [List.any_eq_true]
  refine ⟨P.getD k 0, ?_, by rw [← hasB_mem]; exact h⟩
  simp only [List.getD, List.getElem?_eq_getElem hk, Option.getD_some]
  exact List.getElem_mem hk
theorem usedB_false {es : List Ev} {P : List Nat} {c : Int} (h : ∀ k, k < P.length → hasB (evP es (P.getD k 0)) c = false) : usedB es P c = false := by
  unfold usedB
  rw [List.any_eq_false]
  intro e he
  obtain ⟨k, hk, rfl⟩ := List.getElem_of_mem he
  have := h k hk
  simp only [List.getD, List.getElem?_eq_getElem hk, Option.getD_some] at this
  rw [← hasB_mem, this]
  simp

set_option maxRecDepth 100000 in
set_option maxHeartbeats 1000000 in
theorem l7Used_any (v vl : Value) (cs : List Cnd) (es : List Ev) (P : List Nat) (c : Int) (w : World) (lo lo' : Nat) (hv : UnfAt lo w v ⟨cs, es⟩) (hvl : IntsAt lo' w vl (P.map fun (e : Nat) => (e : Int))) (hl : P.length ≤ 1048576) (hev : ∀ k, k < es.length → (evP es k).length ≤ 1048576) (hin : ∀ k, k < P.length → P.getD k 0 < es.length) :
    Calls Tryz.prog 84 #[v, vl, .int .i64 c] w (RetB w (usedB es P c)) := by
  obtain ⟨G, hG⟩ : ∃ x, x = usedB es P c := ⟨_, rfl⟩
  rw [← hG]
  have HG := Lib.hid hG; clear hG
  obtain ⟨a0, c0, a1, c1, rfl, hcn, hes⟩ := hv.form
  clear hv hcn
  obtain ⟨ac, kc, e0, hkc, hcz⟩ := hes
  injection e0 with e1 e2 e3
  subst e1; subst e3; clear e2
  simp only at hkc hcz ⊢
  have HC := Lib.hid hcz; clear hcz hkc
  have HIN := Lib.hid hin; clear hin
  have HEV := Lib.hid hev; clear hev
  obtain ⟨ao, cap, rfl, hxa, hxb⟩ := hvl
  rw [List.length_map] at hxb ⊢
  have HF := Lib.hid hxb; clear hxb hxa
  obtain ⟨nc, hnc⟩ : ∃ x, x = cs.length := ⟨_, rfl⟩
  rw [← hnc]
  obtain ⟨ne, hne⟩ : ∃ x, x = es.length := ⟨_, rfl⟩
  rw [← hne] at HC HIN HEV ⊢
  clear hnc hne
  go_enter Tryz.func84, Tryz.ntmps84
  have hW : Below w.heap.size w (w.alloc (.cells #[.slice a0 nc c0, .slice a1 ne c1] 38)) := (Below.refl _ _).alloc (Nat.le_refl _) _
  have x1 : (w.alloc (.cells #[.slice a0 nc c0, .slice a1 ne c1] 38)).cell? ⟨w.heap.size, 1, none⟩ = some (.slice a1 ne c1) := by simp
  have zW : w.heap.size < (w.alloc (.cells #[.slice a0 nc c0, .slice a1 ne c1] 38)).heap.size := by simp
  go_wp2_with fail
  generalize w.alloc (.cells #[.slice a0 nc c0, .slice a1 ne c1] 38) = W at hW x1 zW ⊢
  go_loopw [11] (fun i wr => ∃ k : Nat, k ≤ P.length ∧ i = .int .i64 k ∧ Hid (∀ j, j < k → hasB (evP es (P.getD j 0)) c = false) ∧ Below W.heap.size W wr) (fun i _ => P.length - (intOf i).toNat)
  case atStart => exact ⟨0, Nat.zero_le _, rfl, fun j hj => absurd hj (Nat.not_lt_zero _), Below.refl _ _⟩
  case round =>
    obtain ⟨k, hk, rfl, hall, hb1⟩ := hrel
    have hw1 : Below w.heap.size w wr := hW.trans (hb1.mono hW.size)
    have x1 := cell_keep x1 hb1 (Nat.le_refl _)
    by_cases hlt : k < P.length
    · rcases HF.out with h0 | ⟨b, off, rfl, hlo, hcell⟩
      · exact absurd hlt (by have h1 : P.length = 0 := (by simpa using h0); omega)
      have q0 := hcell k hlt
      have d0 := Carries.of lo' hw1 _ _ hlo q0
      have eP : (P.map fun (e : Nat) => (e : Int)).getD k 0 = ((P.getD k 0 : Nat) : Int) := by simp [List.getD, hlt]
      rw [eP] at d0
      clear hcell q0 eP
      have hin := HIN.out k hlt
      have hUT := Lib.hid (fun h => usedB_true (es := es) (c := c) hlt h)
      have H2' : Hid (hasB (evP es (P.getD k 0)) c = false → ∀ j, j < k + 1 → hasB (evP es (P.getD j 0)) c = false) := fun h j hj => by
        by_cases ej : j = k
        · subst ej; exact h
        · exact hall.out j (by omega)
      generalize P.getD k 0 = e at d0 hin hUT H2'
      have i1 : (0 : Int) ≤ (e : Int) := by omega
      have i2 : (e : Int) < (ne : Int) := by omega
      rcases HC.out with h0 | ⟨b2, off2, rfl, hlo2, hcell2⟩
      · exact absurd hin (by rw [h0]; exact Nat.not_lt_zero _)
      obtain ⟨v1, q0, q1, hp⟩ := hcell2 e hin
      have g1 := Carries.of lo hw1 _ _ hlo2 q1
      have HP := Lib.hid (hp.keep (Carries.of _ hw1))
      have hle := HEV.out e hin
      obtain ⟨ap, kp, rfl, _, _⟩ := id hp
      clear hcell2 q0 q1 hp
      try dsimp only at g1
      go_wp2_with fail
      refine (l1Has_any _ (evP es e) c wr _ HP.out (by omega)).mono ?_
      rintro r w2 ⟨rfl, hb2⟩
      have hb3 : Below W.heap.size W w2 := hb1.trans (hb2.mono hb1.size)
      clear hb2
      cases hh : hasB (evP es e) c with
      | true =>
        have hg := HG.out
        rw [hUT.out hh] at hg
        subst hg
        clear hh
        go_wp2_with fail
        go_ret
        exact ⟨rfl, hW.trans (hb3.mono hW.size)⟩
      | false =>
        have H2 := Lib.hid (H2'.out hh)
        clear hh
        go_wp2_with fail
        go_roundw
        case rel => exact ⟨k + 1, by omega, by go_num, H2, hb3⟩
        case measure => simp [intOf]; omega
    · have hkk : k = P.length := by omega
      subst hkk
      have hg := HG.out
      rw [usedB_false hall.out] at hg
      subst hg
      go_wp2_with fail
      go_ret
      exact ⟨rfl, hw1⟩

end Go.Proofs.YtigkgfdnnfmmmaaGreat

namespace Go.Proofs.YtigkgfdnnfmmmaaGreat
open Go.RowKit

/-- the pasts of the events of a list, rising -/
def pastQ (cs : List Cnd) (es : List Ev) (L : List Int) : List Nat := (List.range es.length).filter (pastM cs es (inL L) es.length)
theorem out_pastQ (cs : List Cnd) (es : List Ev) (L : List Int) : outTo (pastM cs es (inL L) es.length) es.length = (pastQ cs es L).map fun (e : Nat) => (e : Int) := rfl
theorem pastQ_rise (cs : List Cnd) (es : List Ev) (L : List Int) : (pastQ cs es L).Pairwise (· < ·) := List.Pairwise.filter _ List.pairwise_lt_range
theorem pastQ_lt {cs : List Cnd} {es : List Ev} {L : List Int} : ∀ e ∈ pastQ cs es L, e < es.length := fun e he => by
  unfold pastQ at he
  rw [List.mem_filter, List.mem_range] at he
  exact he.1
theorem mem_pastQ {cs : List Cnd} {es : List Ev} {L : List Int} (hw : WfU cs es) (hL : ∀ x ∈ L, x < (es.length : Int)) {f : Nat} : f ∈ pastQ cs es L ↔ ∃ g : Nat, (g : Int) ∈ L ∧ Anc cs es g f := by
  unfold pastQ
  rw [List.mem_filter, List.mem_range]
  have hM : ∀ g, inL L g = true → g < es.length := fun g hg => by
    have := hL _ (of_decide_eq_true hg)
    omega
  rw [past_iff hw hM]
  constructor
  · rintro ⟨_, g, hg, ha⟩
    exact ⟨g, of_decide_eq_true hg, ha⟩
  · rintro ⟨g, hg, ha⟩
    have hd : inL L g = true := decide_eq_true hg
    exact ⟨anc_lt hw ha (hM g hd), g, hd, ha⟩
theorem has_pastQ {cs : List Cnd} {es : List Ev} {L : List Int} (hw : WfU cs es) (hL : ∀ x ∈ L, x < (es.length : Int)) {a : Nat} : hasB ((pastQ cs es L).map fun (e : Nat) => (e : Int)) (a : Int) = true ↔ ∃ g : Nat, (g : Int) ∈ L ∧ Anc cs es g a := by
  rw [hasB_mem, decide_eq_true_iff, List.mem_map, ← mem_pastQ hw hL]
  constructor
  · rintro ⟨x, hx, e⟩
    have : x = a := by omega
    subst this; exact hx
  · intro h; exact ⟨a, h, rfl⟩
/-- one test of conflicts for both -/
theorem conf_eq {cs : List Cnd} {es : List Ev} {ps us : List Nat} (h : Means cs es ps us) (hf : Fit us) (hn : NodE es) {P : List Nat} {S : Nat} (hP : P.Pairwise (· < ·)) (hl : ∀ e ∈ P, e < es.length) (hS : ∀ i, i < es.length → (S.testBit i = true ↔ i ∈ P)) :
    (!freeB es P) = cfB us S := by
  rw [Bool.eq_iff_iff, Bool.not_eq_true', ← Bool.not_eq_true, freeB_iff h.wf hn hP hl, cfB_iff hf]
  have hu : ∀ c, c < cs.length → ∀ e, (us.getD c 0).testBit e = true ↔ e < es.length ∧ Cons es e c := fun c hc e => h.u c hc e
  constructor
  · intro hc
    apply Classical.byContradiction
    intro hno
    apply hc
    intro c hcl i j hij hi hj ⟨h1, h2⟩
    exact hno ⟨c, by rw [h.uc]; exact hcl, i, j, hij, ⟨(hu c hcl i).2 ⟨hl i hi, h1⟩, (hS i (hl i hi)).2 hi⟩, ⟨(hu c hcl j).2 ⟨hl j hj, h2⟩, (hS j (hl j hj)).2 hj⟩⟩
  · rintro ⟨c, hc, i, j, hij, ⟨h1, h2⟩, ⟨h3, h4⟩⟩ hno
    have hcl : c < cs.length := by rw [← h.uc]; exact hc
    have g1 := (hu c hcl i).1 h1
    have g3 := (hu c hcl j).1 h3
    exact hno c hcl i j hij ((hS i g1.1).1 h2) ((hS j g3.1).1 h4) ⟨g1.2, g3.2⟩

/-- the relation of two events, by the program's sets -/
def relV (x : His) (a b : Nat) : Int := if a = b then 0 else if (x.ps.getD b 0).testBit a = true then 1 else if (x.ps.getD a 0).testBit b = true then 2 else if cfB x.us (x.ps.getD a 0 ||| x.ps.getD b 0) = true then 3 else 4
theorem rel_before {x : His} (h : HisG x) {a b : Nat} (hb : b < x.es.length) : hasB ((pastQ x.cs x.es [(b : Int)]).map fun (e : Nat) => (e : Int)) (a : Int) = (x.ps.getD b 0).testBit a := by
  rw [Bool.eq_iff_iff, has_pastQ h.m.wf (by intro z hz; simp only [List.mem_cons, List.not_mem_nil, or_false] at hz; omega), h.m.p b hb]
  constructor
  · rintro ⟨g, hg, ha⟩
    simp only [List.mem_cons, List.not_mem_nil, or_false] at hg
    have : g = b := by omega
    subst this; exact ha
  · intro ha; exact ⟨b, by simp, ha⟩
theorem rel_conf {x : His} (h : HisG x) {a b : Nat} (ha : a < x.es.length) (hb : b < x.es.length) : (!freeB x.es (pastQ x.cs x.es [(a : Int), (b : Int)])) = cfB x.us (x.ps.getD a 0 ||| x.ps.getD b 0) := by
  refine conf_eq h.m h.fu h.nd (pastQ_rise _ _ _) pastQ_lt fun i _ => ?_
  rw [Nat.testBit_or, Bool.or_eq_true, h.m.p a ha, h.m.p b hb, mem_pastQ h.m.wf (by intro z hz; simp only [List.mem_cons, List.not_mem_nil, or_false] at hz; omega)]
  constructor
  · rintro (q | q)
    · exact ⟨a, by simp, q⟩
    · exact ⟨b, by simp, q⟩
  · rintro ⟨g, hg, q⟩
    simp only [List.mem_cons, List.not_mem_nil, or_false] at hg
    rcases hg with e | e
    · have : g = a := by omega
      subst this; exact Or.inl q
    · have : g = b := by omega
      subst this; exact Or.inr q
/-- what is known of a valid unfolding -/
theorem uvB_all {n : NetD} {s : ByteArray} {u : UnfD} (h : uvB n s u = true) : goodN n = true ∧ u.es.length ≤ 60 ∧ u.cs.length ≤ 200 ∧ (hisAll n s u.es).cs = u.cs ∧ (hisAll n s u.es).es = u.es ∧ HisG (hisAll n s u.es) := by
  have h0 := h
  unfold uvB at h
  simp only [Bool.and_eq_true] at h
  have h1 := of_decide_eq_true h.2.1
  have h3 := of_decide_eq_true h.2.2.2.1
  have h4 := of_decide_eq_true h.2.2.2.2
  have h5 := of_decide_eq_true h.2.2.1
  refine ⟨(iuB_good h.1).1, h1, by rw [← h4]; exact h3, h4, ?_, hisTo_good _ h1 h5⟩
  unfold hisAll
  rw [hisTo_es _ (Nat.le_refl _), List.take_of_length_le (Nat.le_refl _)]

end Go.Proofs.YtigkgfdnnfmmmaaGreat

namespace Go.Proofs.YtigkgfdnnfmmmaaGreat
open Go.RowKit

theorem inRange_of (a : Int) (n : Nat) : decide (0 ≤ a ∧ a < (n : Int)) = (decide (0 ≤ a) && decide (a < (n : Int))) := by simp [Bool.decide_and]
set_option maxHeartbeats 1000000 in
theorem hasEvent_any (B H : Nat) (w : World) (P : Int) (vt vc ve vp vu : Value) (cs : List Cnd) (es : List Ev) (ps us : List Nat) (a : Int) (h : HisAt B H w P vt vc ve vp vu cs es ps us) :
    Calls Tryz.prog 50 #[.pointer (some ⟨H, 0, none⟩), .int .i64 a] w (RetB w (decide (0 ≤ a ∧ a < (es.length : Int)))) := by
  have c3 := h.c3
  obtain ⟨ae, ke, rfl⟩ := h.re.form
  clear h
  rw [inRange_of]
  generalize es.length = ne at c3 ⊢
  go_enter Tryz.func50, Tryz.ntmps50
  by_cases h0 : 0 ≤ a
  · have t0 : decide (0 ≤ a) = true := decide_eq_true h0
    by_cases h1 : a < (ne : Int)
    · have t1 : decide (a < (ne : Int)) = true := decide_eq_true h1
      rw [t0, t1]
      go_wp2_with fail
      go_ret
      exact ⟨rfl, Below.refl _ _⟩
    · have t1 : decide (a < (ne : Int)) = false := decide_eq_false h1
      rw [t0, t1]
      go_wp2_with fail
      go_ret
      exact ⟨rfl, Below.refl _ _⟩
  · have t0 : decide (0 ≤ a) = false := decide_eq_false h0
    rw [t0, Bool.false_and]
    go_wp2_with fail
    go_ret
    exact ⟨rfl, Below.refl _ _⟩

theorem shr_bit {S e : Nat} (hS : S < 18446744073709551616) : bits .and .u64 ((S : Int) / 2 ^ e) 1 = (((S.testBit e).toNat : Nat) : Int) := by
  have h1 : ((S : Int) / 2 ^ e) = ((S / 2 ^ e : Nat) : Int) := by push_cast; rfl
  have h2 : S / 2 ^ e < 18446744073709551616 := Nat.lt_of_le_of_lt (Nat.div_le_self _ _) hS
  have h3 := bits_and_u64_nat (S / 2 ^ e) 1 h2 (by decide)
  rw [h1]
  refine h3.trans ?_
  rw [Nat.and_one_is_mod, Nat.testBit_eq_decide_div_mod_eq]
  rcases Nat.mod_two_eq_zero_or_one (S / 2 ^ e) with h | h <;> rw [h] <;> rfl
set_option maxHeartbeats 1000000 in
theorem has_any (S e : Nat) (w : World) (hS : S < 18446744073709551616) (he : e ≤ 63) :
    Calls Tryz.prog 79 #[.int .u64 (S : Int), .int .i64 (e : Int)] w (RetB w (S.testBit e)) := by
  have e1 := shr_bit (e := e) hS
  go_enter Tryz.func79, Tryz.ntmps79
  cases hb : S.testBit e with
  | false =>
    rw [hb] at e1
    have e1 : bits .and .u64 ((S : Int) / 2 ^ e) 1 = 0 := e1
    go_wp2_with fail
    go_ret
    exact ⟨rfl, Below.refl _ _⟩
  | true =>
    rw [hb] at e1
    have e1 : bits .and .u64 ((S : Int) / 2 ^ e) 1 = 1 := e1
    go_wp2_with fail
    go_ret
    exact ⟨rfl, Below.refl _ _⟩

end Go.Proofs.YtigkgfdnnfmmmaaGreat
