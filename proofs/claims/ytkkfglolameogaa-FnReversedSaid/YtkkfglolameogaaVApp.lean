/- WALKS: l1Has, l1Same, l1Meet, IsFreeChoice of the model.
   APPEND of ints onto a slice of the call's own; the walks l1Own, l1Both. -/
import Derived.Test.YtkkfglolameogaaVArrb
import Derived.Laws.AppendOwnNone
import Derived.Test.YtkkfglolameogaaVSteps
namespace Go.Proofs.Ytkkfglolameogaa
open Go.RowKit

def hasB (l : List Int) (x : Int) : Bool := decide (x ∈ l)
def meetB (a b : List Int) : Bool := a.any (hasB b)
theorem hasB_true {l : List Int} {x : Int} {k : Nat} (hk : k < l.length) (h : l.getD k 0 = x) : hasB l x = true := by
  rw [getD_eq hk] at h; subst h
  exact decide_eq_true (List.getElem_mem hk)
theorem hasB_false {l : List Int} {x : Int} (h : ∀ i, i < l.length → l.getD i 0 ≠ x) : hasB l x = false := by
  refine decide_eq_false fun hm => ?_
  obtain ⟨i, hi, he⟩ := List.mem_iff_getElem.1 hm
  exact h i hi (by rw [getD_eq hi]; exact he)
theorem meetB_true {a b : List Int} {k : Nat} (hk : k < a.length) (h : hasB b (a.getD k 0) = true) : meetB a b = true := by
  unfold meetB
  rw [List.any_eq_true]
  exact ⟨a[k], List.getElem_mem hk, by rw [← getD_eq hk]; exact h⟩
theorem meetB_false {a b : List Int} (h : ∀ i, i < a.length → hasB b (a.getD i 0) = false) : meetB a b = false := by
  unfold meetB
  rw [List.any_eq_false]
  intro x hx
  obtain ⟨i, hi, rfl⟩ := List.mem_iff_getElem.1 hx
  rw [← getD_eq hi, h i hi]
  simp

set_option maxHeartbeats 400000 in
theorem l1Has_any (v : Value) (zs : List Int) (x : Int) (w : World) (lo : Nat) (hv : IntsAt lo w v zs) (hn : zs.length ≤ 4611686018427387904) :
    Calls Try.prog 144 #[v, .int .i64 x] w (RetB w (hasB zs x)) := by
  generalize hR : hasB zs x = r
  have HR := Lib.hid hR; clear hR
  obtain ⟨ao, cap, rfl, hc, hz⟩ := hv
  have HF := Lib.hid hz; clear hz
  go_enter Try.func144, Try.ntmps144
  go_wp2_with fail
  go_loop [9] (fun i => ∃ k : Nat, k ≤ zs.length ∧ i = .int .i64 k ∧ Hid (∀ i, i < k → zs.getD i 0 ≠ x)) (fun i => zs.length - (intOf i).toNat)
  case atStart => exact ⟨0, Nat.zero_le _, rfl, fun i hi => absurd hi (Nat.not_lt_zero _)⟩
  case round =>
    obtain ⟨k, hk, rfl, hall⟩ := hrel
    by_cases hlt : k < zs.length
    · rcases HF.out with rfl | ⟨b, off, rfl, hlo, hcell⟩
      · simp at hlt
      have c1 := hcell k hlt
      obtain ⟨y, hy⟩ : ∃ y, y = zs.getD k 0 := ⟨_, rfl⟩
      rw [← hy] at c1
      have HY := Lib.hid hy; clear hy hcell
      by_cases he : y = x
      · have hfin := hasB_true hlt (HY.out.symm.trans he)
        rw [HR.out] at hfin
        subst hfin
        have te : (y == x) = true := by simpa using he
        clear he
        go_wp2_with fail
        go_ret
        exact ⟨rfl, Below.refl _ _⟩
      · have H2 : Hid (∀ i, i < k + 1 → zs.getD i 0 ≠ x) := by
          intro i hi
          by_cases e : i = k
          · subst e; rw [← HY.out]; exact he
          · exact hall.out i (by omega)
        have te : (y == x) = false := by simpa using he
        clear he
        go_wp2_with fail
        go_round
        case rel => exact ⟨k + 1, by omega, by go_num, H2⟩
        case measure => simp [intOf]; omega
    · have hkk : k = zs.length := by omega
      subst hkk
      have hfin := hasB_false hall.out
      rw [HR.out] at hfin
      subst hfin
      go_wp2_with fail
      go_ret
      exact ⟨rfl, Below.refl _ _⟩

set_option maxHeartbeats 400000 in
theorem l1Meet_any (v v' : Value) (zs ys : List Int) (w : World) (lo lo' : Nat) (hv : IntsAt lo w v zs) (hv' : IntsAt lo' w v' ys) (hn : zs.length ≤ 4611686018427387904) (hm : ys.length ≤ 4611686018427387904) :
    Calls Try.prog 112 #[v, v'] w (RetB w (meetB zs ys)) := by
  generalize hR : meetB zs ys = r
  have HR := Lib.hid hR; clear hR
  obtain ⟨ao, cap, rfl, hc, hz⟩ := hv
  have HF := Lib.hid hz; clear hz
  have hv2 := hv'
  obtain ⟨ao', cap', rfl, _, _⟩ := hv2
  have HV := Lib.hid hv'; clear hv'
  go_enter Try.func112, Try.ntmps112
  go_wp2_with fail
  go_loopw [9] (fun i wr => ∃ k : Nat, k ≤ zs.length ∧ i = .int .i64 k ∧ Hid (∀ i, i < k → hasB ys (zs.getD i 0) = false) ∧ Below w.heap.size w wr) (fun i _ => zs.length - (intOf i).toNat)
  case atStart => exact ⟨0, Nat.zero_le _, rfl, fun i hi => absurd hi (Nat.not_lt_zero _), Below.refl _ _⟩
  case round =>
    obtain ⟨k, hk, rfl, hall, hb1⟩ := hrel
    by_cases hlt : k < zs.length
    · rcases HF.out with rfl | ⟨b, off, rfl, hlo, hcell⟩
      · simp at hlt
      have c1 := Carries.of lo hb1 _ _ hlo (hcell k hlt)
      obtain ⟨y, hy⟩ : ∃ y, y = zs.getD k 0 := ⟨_, rfl⟩
      rw [← hy] at c1
      have HY := Lib.hid hy; clear hy hcell
      go_wp2_with fail
      refine (l1Has_any _ ys _ _ lo' (HV.out.keep (Carries.of lo' hb1)) hm).mono ?_
      rintro e w1 ⟨rfl, hb2⟩
      have hw1 : Below w.heap.size w w1 := hb1.trans (hb2.mono hb1.size)
      clear hb2
      cases hd : hasB ys y with
      | true =>
        have hfin := meetB_true (b := ys) hlt (by rw [← HY.out]; exact hd)
        rw [HR.out] at hfin
        subst hfin
        clear hd
        go_wp2_with fail
        go_ret
        exact ⟨rfl, hw1⟩
      | false =>
        have H2 : Hid (∀ i, i < k + 1 → hasB ys (zs.getD i 0) = false) := by
          intro i hi
          by_cases e : i = k
          · subst e; rw [← HY.out]; exact hd
          · exact hall.out i (by omega)
        clear hd
        go_wp2_with fail
        go_roundw
        case rel => exact ⟨k + 1, by omega, by go_num, H2, hw1⟩
        case measure => simp [intOf]; omega
    · have hkk : k = zs.length := by omega
      subst hkk
      have hfin := meetB_false hall.out
      rw [HR.out] at hfin
      subst hfin
      go_wp2_with fail
      go_ret
      exact ⟨rfl, hb1⟩

set_option maxHeartbeats 400000 in
theorem l1Same_any (v v' : Value) (zs ys : List Int) (w : World) (lo lo' : Nat) (hv : IntsAt lo w v zs) (hv' : IntsAt lo' w v' ys) (hn : zs.length ≤ 4611686018427387904) (hm : ys.length ≤ 4611686018427387904) :
    Calls Try.prog 111 #[v, v'] w (RetB w (decide (zs = ys))) := by
  obtain ⟨ao, cap, rfl, hc, hz⟩ := hv
  obtain ⟨ao', cap', rfl, hc', hz'⟩ := hv'
  by_cases hl : zs.length = ys.length
  · have hb : ((zs.length : Int) != (ys.length : Int)) = false := by simp [hl]
    by_cases hzs : 0 < zs.length
    · rcases hz with rfl | ⟨b, off, rfl, _, hcell⟩
      · simp at hzs
      rcases hz' with rfl | ⟨b', off', rfl, _, hcell'⟩
      · simp at hl; simp [hl] at hzs
      have HC := Lib.hid hcell; clear hcell
      have HC' := Lib.hid hcell'; clear hcell'
      have HL := Lib.hid hl
      have hl1 : zs.length ≤ ys.length := by omega
      have hl2 : ys.length ≤ zs.length := by omega
      clear hl
      go_enter Try.func111, Try.ntmps111
      go_wp2
      go_loopw [13] (fun i wr => ∃ k : Nat, k ≤ zs.length ∧ i = .int .i64 k ∧ Hid (zs.take k = ys.take k) ∧ Below w.heap.size w wr) (fun i _ => zs.length - (intOf i).toNat)
      case atStart => exact ⟨0, Nat.zero_le _, rfl, rfl, Below.refl _ _⟩
      case round =>
        obtain ⟨k, hk, rfl, ht, hb1⟩ := hrel
        by_cases hlt : k < zs.length
        · have hk2 : k < ys.length := by omega
          have c1 := cell_keep (HC.out k hlt) hb1 (Nat.le_refl _)
          have c2 := cell_keep (HC'.out k hk2) hb1 (Nat.le_refl _)
          go_wp2
          go_quiet (fail)
          go_wp2
          · have hne : (zs[k] != ys[k]) = true := by assumption
            go_ret
            refine ⟨?_, below_drewN hb1 _⟩
            rw [ne_of_getD (k := k) (by rw [getD_eq hlt, getD_eq hk2]; simpa using hne)]; rfl
          · have heq : (zs[k] != ys[k]) = false := by assumption
            have hs := Lib.hid (take_eq_succ hlt hk2 ht.out (by rw [getD_eq hlt, getD_eq hk2]; simpa using heq))
            go_roundw
            case rel => exact ⟨k + 1, by omega, by go_num, hs, below_drewN hb1 _⟩
            case measure => simp [intOf]; omega
        · go_wp2
          go_ret
          refine ⟨?_, hb1⟩
          have h1 := ht.out
          rw [List.take_of_length_le (by omega), List.take_of_length_le (by omega)] at h1
          simp [h1]
    · have hz0 : zs = [] := List.eq_nil_of_length_eq_zero (by omega)
      have hy0 : ys = [] := List.eq_nil_of_length_eq_zero (by omega)
      subst hz0; subst hy0
      simp only [List.length_nil]
      clear hz hz' hc hc' hb hl hzs
      go_enter Try.func111, Try.ntmps111
      go_wp2
      go_rounds 1
      go_ret
      exact ⟨rfl, Below.refl _ _⟩
  · have hb : ((zs.length : Int) != (ys.length : Int)) = true := by rw [bne_iff_ne]; omega
    have hd : decide (zs = ys) = false := by rw [decide_eq_false_iff_not]; rintro rfl; exact hl rfl
    rw [hd]; clear hd
    go_enter Try.func111, Try.ntmps111
    go_wp2
    go_ret
    exact ⟨rfl, Below.refl _ _⟩

end Go.Proofs.Ytkkfglolameogaa

namespace Go.Proofs.Ytkkfglolameogaa
open Go.RowKit

/-- the cells of a list of ints -/
def intCells (zs : List Int) : List Value := zs.map (Value.int .i64)
theorem intCells_length (zs : List Int) : (intCells zs).length = zs.length := by simp [intCells]
theorem intCells_append (a b : List Int) : intCells (a ++ b) = intCells a ++ intCells b := by simp [intCells]
theorem intCells_one (zs : List Int) : ∀ u ∈ intCells zs, u.oneCell' = true := by
  intro u hu
  obtain ⟨z, _, rfl⟩ := List.mem_map.1 hu
  rfl
theorem intCells_get {zs : List Int} {i : Nat} (h : i < zs.length) : (intCells zs)[i]? = some (.int .i64 (zs.getD i 0)) := by
  simp [intCells, h, List.getD]

theorem ints_of_owns {w : World} {base : Nat} {v : Value} {zs : List Int} (h : w.ownsRow base 3 1 v zs.length (intCells zs)) : IntsAt base w v zs := by
  have h0 := h
  rcases h.2 with ⟨rfl, hn⟩ | ⟨g, cap, cur, rfl, hb, hg, hnc, _, _, _⟩
  · have hz : zs = [] := List.eq_nil_of_length_eq_zero hn
    subst hz
    exact ⟨_, _, rfl, Nat.le_refl _, Or.inl rfl⟩
  · refine ⟨_, _, rfl, hnc, Or.inr ⟨g, 0, rfl, hb, fun i hi => ?_⟩⟩
    rw [Nat.zero_add, h0.cellAt i (by omega)]
    exact intCells_get hi

theorem run_append_ints (w : World) (ty : TypeId) (base lo : Nat) (v : Value) (n : Nat) (xs : List Value) (hown : w.ownsRow base 3 1 v n xs) (src : Value) (zs : List Int) (hsrc : IntsAt lo w src zs)
    (hlen : n + zs.length ≤ 1073741824) (hbase : base ≤ w.heap.size) :
    ∃ v' w', (Builtin.append_ #[47, 47] ty #[v, src]).run Try.prog w = .ok v' w' ∧ w'.ownsRow base 3 1 v' (n + zs.length) (xs ++ intCells zs) ∧ w.grownBy w' v.ownBlock := by
  obtain ⟨i, hi, hzz⟩ := Option.map_eq_some_iff.1 Try.infoInt
  simp only [Prod.mk.injEq] at hzz
  obtain ⟨hz, hs, hby⟩ := hzz
  obtain ⟨ao, cap, rfl, hc, hcase⟩ := hsrc
  rcases hcase with rfl | ⟨b, off, rfl, _, hcell⟩
  · have hrun : (Builtin.append_ #[47, 47] ty #[v, .slice ao 0 cap]).run Try.prog w = .ok v w := by
      rcases hown.2 with ⟨rfl, rfl⟩ | ⟨g, cap', cur, rfl, _, _, hnc, _⟩
      · cases ao <;> simp [Builtin.append_, run_underlying Try.underlying47, sizeOf, typeInfo, hi, Builtin.lenOf, Builtin.firstCells, loadCells, loadCellsFrom]
      · cases ao <;> simp [Builtin.append_, run_underlying Try.underlying47, sizeOf, typeInfo, hi, Builtin.lenOf, Builtin.firstCells, hnc, storeCells, loadCells, loadCellsFrom]
    exact ⟨v, w, hrun, by simpa [intCells] using hown, ⟨rfl, rfl, rfl, Nat.le_refl _, fun _ _ _ => rfl⟩⟩
  · obtain ⟨v', w', hr, h2, h3, _⟩ := run_append_own (P := Try.prog) w base 47 ty 3 i _ 1 8 Try.underlying47 hi hz hs hby rfl (by omega) v n xs hown ⟨b, off, none⟩ zs.length cap (intCells zs)
      (by rw [intCells_length, Nat.mul_one]) (fun j u hj => by
        have hjl : j < zs.length := by rw [← intCells_length]; exact (List.getElem?_eq_some_iff.1 hj).1
        rw [intCells_get hjl] at hj
        rw [Addr.add_mid, hcell j hjl]
        exact hj) (intCells_one zs) (by unfold maxLen; omega) (by omega) hbase
    exact ⟨v', w', hr, h2, h3⟩

theorem wp_append_ints {o : Oper} {a : Act} {w : World} {K : Act → World → Prop} {Q : Exit → Act → World → Prop} (s x : Operand)
    (ho : o.op = .call { callee := .builtin .append, args := #[s, x], argTypes := #[47, 47] })
    (base lo : Nat) (v : Value) (n : Nat) (xs : List Value) (hs : a.eval s = v) (hown : w.ownsRow base 3 1 v n xs) (src : Value) (zs : List Int) (hx : a.eval x = src) (hsrc : IntsAt lo w src zs)
    (hlen : n + zs.length ≤ 1073741824) (hbase : base ≤ w.heap.size)
    (h : ∀ v' w', w'.ownsRow base 3 1 v' (n + zs.length) (xs ++ intCells zs) → w.grownBy w' v.ownBlock → K (a.put o.dst v') w') : o.wp Try.prog a w K Q := by
  obtain ⟨v', w', hr, h2, h3⟩ := run_append_ints w o.type base lo v n xs hown src zs hsrc hlen hbase
  unfold Oper.wp execOp
  simp only [ho, resolve, invoke, builtin, Sem.run_bind, Sem.run_pure, Result.andThen_ok, List.map_toArray, List.map_cons, List.map_nil, hs, hx, hr]
  exact h v' w' h2 h3

theorem wpList_append_ints {ops : Array Oper} {rest : List Oper} {o : Oper} {a : Act} {w : World} {Q : Exit → Act → World → Prop} (hgd : o.guard = none) (s x : Operand)
    (ho : o.op = .call { callee := .builtin .append, args := #[s, x], argTypes := #[47, 47] })
    (base lo : Nat) (v : Value) (n : Nat) (xs : List Value) (hs : a.eval s = v) (hown : w.ownsRow base 3 1 v n xs) (src : Value) (zs : List Int) (hx : a.eval x = src) (hsrc : IntsAt lo w src zs)
    (hlen : n + zs.length ≤ 1073741824) (hbase : base ≤ w.heap.size)
    (h : ∀ v' w', w'.ownsRow base 3 1 v' (n + zs.length) (xs ++ intCells zs) → w.grownBy w' v.ownBlock → wpList Try.prog ops Q rest (a.put o.dst v') w') : wpList Try.prog ops Q (o :: rest) a w :=
  wpList_plain hgd fun _ hK => wp_append_ints s x ho base lo v n xs hs hown src zs hx hsrc hlen hbase fun v' w' h2 h3 => hK _ _ (h v' w' h2 h3)

/-- a call returns a slice that it owns -/
def RetOwn (w : World) (zs : List Int) (e : Ending) (w' : World) : Prop := ∃ v, e = .returned v ∧ w'.ownsRow w.heap.size 3 1 v zs.length (intCells zs) ∧ Below w.heap.size w w'

set_option maxRecDepth 100000 in
set_option maxHeartbeats 400000 in
theorem l1Own_any (v : Value) (zs : List Int) (w : World) (lo : Nat) (hv : IntsAt lo w v zs) (hn : zs.length ≤ 4194304) :
    Calls Try.prog 143 #[v] w (RetOwn w zs) := by
  have hv' := hv
  obtain ⟨ao, cap, rfl, _, _⟩ := hv'
  have HV := Lib.hid hv; clear hv
  go_enter Try.func143, Try.ntmps143
  have hown : (w.alloc (.cells #[] 3)).ownsRow w.heap.size 3 1 (.slice (some ⟨w.heap.size, 0, none⟩) 0 0) 0 [] :=
    ⟨rfl, Or.inr ⟨w.heap.size, 0, #[], rfl, Nat.le_refl _, heap_alloc_new w _, Nat.le_refl _, Nat.zero_le _, rfl, rfl⟩⟩
  have HO := Lib.hid hown; clear hown
  have hsrc := Lib.hid (HV.out.keep (Carries.alloc (Carries.refl lo w) (.cells #[] 3)))
  go_wp2_with (refine wpList_append_ints rfl (.tmp 3) (.tmp 4) rfl w.heap.size lo _ 0 [] rfl HO.out _ zs rfl hsrc.out (by omega) (by simp) ?_; intro v' w' hown' hgrow)
  go_ret
  refine ⟨_, rfl, ?_, ?_⟩
  · simpa using hown'
  · exact ((Below.refl _ _).alloc (Nat.le_refl _) _).grown hgrow (by simp) (fun k hk => by cases hk; exact Nat.le_refl _)

/-- both lists of a transition -/
def both (t : Tr) : List Int := t.1 ++ t.2

end Go.Proofs.Ytkkfglolameogaa
