/- WALKS: l5State, l5Excited, IsExcited of the model.
   WALKS: l5Way, ShortestPath of the model. -/
import Derived.Test.YtfipnlehaklepaaVSgu
import Derived.Test.YtfipnlehaklepaaVSgx
import Derived.Test.YtfipnlehaklepaaVSpm
import Derived.Test.YtfipnlehaklepaaVSfm
namespace Go.Proofs.Ytfipnlehaklepaa
open Go.RowKit

set_option maxRecDepth 100000 in
set_option maxHeartbeats 1000000 in
theorem l5State_any (v : Value) (r : SgD) (k : Int) (w : World) (lo : Nat) (hv : SgAt lo w v r) (hs : SmallSg r) :
    Calls Try.prog 62 #[v, .int .i64 k] w (RetB w (goodG r && decide (0 ≤ k ∧ k < (r.codes.length : Int)))) := by
  obtain ⟨q, hq⟩ : ∃ q, q = (goodG r && decide (0 ≤ k ∧ k < (r.codes.length : Int))) := ⟨_, rfl⟩
  rw [← hq]
  have HV := Lib.hid hv
  obtain ⟨a0, c0, a1, c1, a2, c2, rfl, h_0, h_1, h_2⟩ := hv.form
  clear hv h_0 h_1 h_2
  have KC := hs.2.1.1
  have HS := Lib.hid hs; clear hs
  obtain ⟨ng, hng⟩ : ∃ n, n = r.sigs.length := ⟨_, rfl⟩
  obtain ⟨nc, hnc⟩ : ∃ n, n = r.codes.length := ⟨_, rfl⟩
  obtain ⟨na, hna⟩ : ∃ n, n = r.arcs.length := ⟨_, rfl⟩
  rw [← hng, ← hnc, ← hna] at HV ⊢
  rw [← hnc] at KC hq
  have HQ := Lib.hid hq
  clear hng hnc hna hq
  have x0 : (w.alloc (.cells #[.slice a0 ng c0, .slice a1 nc c1, .slice a2 na c2] 32)).cell? ⟨w.heap.size, 0, none⟩ = some (.slice a0 ng c0) := by simp
  have x1 : (w.alloc (.cells #[.slice a0 ng c0, .slice a1 nc c1, .slice a2 na c2] 32)).cell? ⟨w.heap.size, 1, none⟩ = some (.slice a1 nc c1) := by simp
  have x2 : (w.alloc (.cells #[.slice a0 ng c0, .slice a1 nc c1, .slice a2 na c2] 32)).cell? ⟨w.heap.size, 2, none⟩ = some (.slice a2 na c2) := by simp
  have hal : Below w.heap.size w (w.alloc (.cells #[.slice a0 ng c0, .slice a1 nc c1, .slice a2 na c2] 32)) := (Below.refl _ _).alloc (Nat.le_refl _) _
  go_enter Try.func62, Try.ntmps62
  go_wp2_with fail
  generalize w.alloc (.cells #[.slice a0 ng c0, .slice a1 nc c1, .slice a2 na c2] 32) = W at x0 x1 x2 hal ⊢
  refine (l5Good_any _ r _ lo (HV.out.keep (Carries.of lo hal)) HS.out).mono ?_
  rintro e w1 ⟨rfl, hb⟩
  have hw1 : Below w.heap.size w w1 := hal.trans (hb.mono hal.size)
  have x0 := cell_carry x0 (Carries.of 0 hb)
  have x1 := cell_carry x1 (Carries.of 0 hb)
  have x2 := cell_carry x2 (Carries.of 0 hb)
  clear hb hal
  cases hg : goodG r with
  | false =>
    have e := HQ.out
    rw [hg, Bool.false_and] at e
    subst e
    clear hg
    go_wp2_with fail
    go_ret
    exact ⟨rfl, hw1⟩
  | true =>
  have e := HQ.out
  rw [hg, Bool.true_and] at e
  have HE := Lib.hid e; clear e hg
  go_wp2_with fail
  refine (l1In_any _ _ _ _).mono ?_
  rintro e w2 ⟨rfl, hb⟩
  have hw2 : Below w.heap.size w w2 := hw1.trans (hb.mono hw1.size)
  clear hb
  have e2 : decide ((0 : Int) ≤ k ∧ k ≤ (nc : Int) - 1) = q := by
    rw [HE.out]
    by_cases h : 0 ≤ k ∧ k < (nc : Int)
    · rw [decide_eq_true h, decide_eq_true (by omega)]
    · rw [decide_eq_false h, decide_eq_false (by omega)]
  rw [e2]
  clear e2
  cases q with
  | false =>
    go_wp2_with fail
    go_ret
    exact ⟨rfl, hw2⟩
  | true =>
    go_wp2_with fail
    go_ret
    exact ⟨rfl, hw2⟩

set_option maxRecDepth 100000 in
set_option maxHeartbeats 1000000 in
theorem l5Excited_any (v : Value) (r : SgD) (k s : Int) (w : World) (lo : Nat) (hv : SgAt lo w v r) (hs : SmallSg r) :
    Calls Try.prog 70 #[v, .int .i64 k, .int .i64 s] w (RetB w (excB r k s)) := by
  obtain ⟨q, hq⟩ : ∃ q, q = excB r k s := ⟨_, rfl⟩
  rw [← hq]
  obtain ⟨a0, c0, a1, c1, a2, c2, rfl, h_0, h_1, hl⟩ := hv.form
  clear hv h_0 h_1
  have K2 := hs.2.2
  clear hs
  obtain ⟨gs, ss, ls⟩ := r
  simp only at hl hq K2 ⊢
  have HQ := Lib.hid hq; clear hq
  obtain ⟨ao, cap, hvv, hc, hz⟩ := hl
  injection hvv with e1 e2 e3
  subst e1; subst e3; clear e2
  have HF := Lib.hid hz; clear hz
  go_enter Try.func70, Try.ntmps70
  go_wp2_with fail
  go_loopw [12] (fun iv wr => ∃ i : Nat, i ≤ ls.length ∧ iv = .int .i64 i ∧ Hid (∀ j, j < i → excAt ls k s j = false) ∧ Below w.heap.size w wr) (fun iv _ => ls.length - (intOf iv).toNat)
  case atStart => exact ⟨0, Nat.zero_le _, rfl, fun j hj => absurd hj (Nat.not_lt_zero _), by (repeat' (first | (with_reducible exact Below.refl _ _) | (with_reducible assumption) | (with_reducible refine Below.alloc ?_ ?_ _) | (with_reducible refine Below.drew ?_) | (with_reducible refine below_drewN ?_ _) | (with_reducible refine Below.setCell ?_ ?_ _) | go_size))⟩
  case round =>
    obtain ⟨i, hi, rfl, hall, hb1⟩ := hrel
    have zr : w.heap.size ≤ wr.heap.size := hb1.size
    by_cases hlt : i < ls.length
    · rcases HF.out with h0 | ⟨b, off, rfl, hlo, hcell⟩
      · omega
      obtain ⟨q0, q1, q2, q3⟩ := hcell i hlt
      have d0 := Carries.of lo hb1 _ _ hlo q0
      have d1 := Carries.of lo hb1 _ _ hlo q1
      have d2 := Carries.of lo hb1 _ _ hlo q2
      have d3 := Carries.of lo hb1 _ _ hlo q3
      clear hcell q0 q1 q2 q3
      try dsimp only at d0 d1 d2 d3
      have hex : excAt ls k s i = decide (arF ls i = k ∧ arS ls i = s) := rfl
      generalize arF ls i = xf at d0 hex
      generalize arS ls i = xs at d1 hex
      generalize arU ls i = xu at d2
      generalize arT ls i = xt at d3
      by_cases h : xf = k ∧ xs = s
      · rw [decide_eq_true h] at hex
        have e := HQ.out
        unfold excB at e
        rw [anyTo_true hlt hex] at e
        subst e
        have t0 : (xf == k) = true := by simpa using h.1
        have t1 : (xs == s) = true := by simpa using h.2
        clear h hex
        go_wp2_with fail
        go_ret
        exact ⟨rfl, by (repeat' (first | (with_reducible exact Below.refl _ _) | (with_reducible assumption) | (with_reducible refine Below.alloc ?_ ?_ _) | (with_reducible refine Below.drew ?_) | (with_reducible refine below_drewN ?_ _) | (with_reducible refine Below.setCell ?_ ?_ _) | go_size))⟩
      · rw [decide_eq_false h] at hex
        have H2 : Hid (∀ j, j < i + 1 → excAt ls k s j = false) := by
          intro j hj
          by_cases e : j = i
          · subst e; exact hex
          · exact hall.out j (by omega)
        clear hex
        by_cases h1 : xf = k
        · have t0 : (xf == k) = true := by simpa using h1
          have t1 : (xs == s) = false := by rw [beq_eq_false_iff_ne]; exact fun h2 => h ⟨h1, h2⟩
          clear h h1
          go_wp2_with fail
          go_roundw
          case rel => exact ⟨i + 1, by omega, by go_num, H2, by (repeat' (first | (with_reducible exact Below.refl _ _) | (with_reducible assumption) | (with_reducible refine Below.alloc ?_ ?_ _) | (with_reducible refine Below.drew ?_) | (with_reducible refine below_drewN ?_ _) | (with_reducible refine Below.setCell ?_ ?_ _) | go_size))⟩
          case measure => simp [intOf]; omega
        · have t0 : (xf == k) = false := by simpa using h1
          clear h h1
          go_wp2_with fail
          go_roundw
          case rel => exact ⟨i + 1, by omega, by go_num, H2, by (repeat' (first | (with_reducible exact Below.refl _ _) | (with_reducible assumption) | (with_reducible refine Below.alloc ?_ ?_ _) | (with_reducible refine Below.drew ?_) | (with_reducible refine below_drewN ?_ _) | (with_reducible refine Below.setCell ?_ ?_ _) | go_size))⟩
          case measure => simp [intOf]; omega
    · have hii : i = ls.length := by omega
      subst hii
      have e := HQ.out
      unfold excB at e
      rw [anyTo_false hall.out] at e
      subst e
      go_wp2_with fail
      go_ret
      exact ⟨rfl, hb1⟩

set_option maxRecDepth 100000 in
set_option maxHeartbeats 2000000 in
theorem IsExcitedSpec_any (v : Value) (r : SgD) (k s : Int) (w : World) (lo : Nat) (hv : SgAt lo w v r) (hs : SmallSg r) :
    Calls Try.prog 23 #[v, .int .i64 k, .int .i64 s] w (RetV w (.tuple #[.bool (exA r k s), .bool (exOk r k s)])) := by
  obtain ⟨qa, hqa⟩ : ∃ q, q = exA r k s := ⟨_, rfl⟩
  obtain ⟨qo, hqo⟩ : ∃ q, q = exOk r k s := ⟨_, rfl⟩
  rw [← hqa, ← hqo]
  have HV := Lib.hid hv
  obtain ⟨a0, c0, a1, c1, a2, c2, rfl, h_0, h_1, h_2⟩ := hv.form
  clear hv h_0 h_1 h_2
  have KG := hs.1.1
  have HS := Lib.hid hs; clear hs
  obtain ⟨ng, hng⟩ : ∃ n, n = r.sigs.length := ⟨_, rfl⟩
  obtain ⟨nc, hnc⟩ : ∃ n, n = r.codes.length := ⟨_, rfl⟩
  obtain ⟨na, hna⟩ : ∃ n, n = r.arcs.length := ⟨_, rfl⟩
  have E1 : Hid ((goodG r && decide (0 ≤ k ∧ k < (nc : Int))) = false → qo = false ∧ qa = false) := fun h => by
    rw [hqa, hqo]
    rw [Bool.and_eq_false_iff] at h
    rcases h with h | h
    · exact exOk_bad h
    · refine exOk_out (fun h2 => ?_)
      rw [← hnc] at h2
      exact of_decide_eq_false h h2.1
  have E2 : Hid (¬ (0 ≤ s ∧ s < (ng : Int)) → qo = false ∧ qa = false) := fun h => by rw [hqa, hqo]; rw [hng] at h; exact exOk_out (fun h2 => h h2.2)
  have E3 : Hid ((goodG r && decide (0 ≤ k ∧ k < (nc : Int))) = true → (0 ≤ s ∧ s < (ng : Int)) → qo = true ∧ qa = excB r k s) := fun h h2 => by
    rw [hqa, hqo]; rw [hng] at h2
    rw [Bool.and_eq_true, decide_eq_true_eq, hnc] at h
    exact exOk_in h.1 ⟨h.2, h2⟩
  have HNC := Lib.hid hnc
  rw [← hng, ← hnc, ← hna] at HV ⊢
  rw [← hng] at KG
  clear hng hnc hna hqa hqo
  have x0 : (w.alloc (.cells #[.slice a0 ng c0, .slice a1 nc c1, .slice a2 na c2] 32)).cell? ⟨w.heap.size, 0, none⟩ = some (.slice a0 ng c0) := by simp
  have x1 : (w.alloc (.cells #[.slice a0 ng c0, .slice a1 nc c1, .slice a2 na c2] 32)).cell? ⟨w.heap.size, 1, none⟩ = some (.slice a1 nc c1) := by simp
  have x2 : (w.alloc (.cells #[.slice a0 ng c0, .slice a1 nc c1, .slice a2 na c2] 32)).cell? ⟨w.heap.size, 2, none⟩ = some (.slice a2 na c2) := by simp
  have hal : Below w.heap.size w (w.alloc (.cells #[.slice a0 ng c0, .slice a1 nc c1, .slice a2 na c2] 32)) := (Below.refl _ _).alloc (Nat.le_refl _) _
  go_enter Try.func23, Try.ntmps23
  go_wp2_with fail
  generalize w.alloc (.cells #[.slice a0 ng c0, .slice a1 nc c1, .slice a2 na c2] 32) = W at x0 x1 x2 hal ⊢
  refine (l5State_any _ r k _ lo (HV.out.keep (Carries.of lo hal)) HS.out).mono ?_
  rintro e w1 ⟨rfl, hb⟩
  have hw1 : Below w.heap.size w w1 := hal.trans (hb.mono hal.size)
  have x0 := cell_carry x0 (Carries.of 0 hb)
  have x1 := cell_carry x1 (Carries.of 0 hb)
  have x2 := cell_carry x2 (Carries.of 0 hb)
  clear hb hal
  rw [← HNC.out]
  cases hg : (goodG r && decide (0 ≤ k ∧ k < (nc : Int))) with
  | false =>
    obtain ⟨rfl, rfl⟩ := E1.out hg
    clear hg
    go_wp2_with fail
    go_ret2
    exact ⟨rfl, hw1⟩
  | true =>
  have HGG := Lib.hid hg; clear hg
  go_wp2_with fail
  refine (l1In_any _ _ _ _).mono ?_
  rintro e w2 ⟨rfl, hb⟩
  have hw2 : Below w.heap.size w w2 := hw1.trans (hb.mono hw1.size)
  have x0 := cell_carry x0 (Carries.of 0 hb)
  have x1 := cell_carry x1 (Carries.of 0 hb)
  have x2 := cell_carry x2 (Carries.of 0 hb)
  clear hb
  by_cases h2 : 0 ≤ s ∧ s < (ng : Int)
  case neg =>
    obtain ⟨rfl, rfl⟩ := E2.out h2
    have hd : decide ((0 : Int) ≤ s ∧ s ≤ (ng : Int) - 1) = false := decide_eq_false (by omega)
    rw [hd]
    clear h2 hd
    go_wp2_with fail
    go_ret2
    exact ⟨rfl, hw2⟩
  have hd : decide ((0 : Int) ≤ s ∧ s ≤ (ng : Int) - 1) = true := decide_eq_true (by omega)
  rw [hd]
  obtain ⟨rfl, e2⟩ := E3.out HGG.out h2
  have HE := Lib.hid e2; clear e2 h2 hd
  go_wp2_with fail
  refine (l5Excited_any _ r k s _ lo (HV.out.keep (Carries.of lo hw2)) HS.out).mono ?_
  rintro e w4 ⟨rfl, hb⟩
  rw [← HE.out]
  have hw4 : Below w.heap.size w w4 := hw2.trans (hb.mono hw2.size)
  clear hb
  go_wp2_with fail
  go_ret2
  exact ⟨rfl, hw4⟩

end Go.Proofs.Ytfipnlehaklepaa

namespace Go.Proofs.Ytfipnlehaklepaa
open Go.RowKit

theorem arCells_one : ∀ (ms : List Ar), ∀ u ∈ arCells ms, u.oneCell' = true
  | [], u, hu => by cases hu
  | m :: ms, u, hu => by
    simp only [arCells, List.mem_cons] at hu
    rcases hu with rfl | rfl | rfl | rfl | hu
    · rfl
    · rfl
    · rfl
    · rfl
    · exact arCells_one ms u hu
theorem run_append_ars (w : World) (ty : TypeId) (base lo : Nat) (v : Value) (n : Nat) (xs : List Value) (hown : w.ownsRow base 101 4 v n xs) (src : Value) (zs : List Ar) (hsrc : ArcsAt lo w src zs)
    (hlen : n + zs.length ≤ 1073741824) (hbase : base ≤ w.heap.size) :
    ∃ v' w', (Builtin.append_ #[30, 30] ty #[v, src]).run Try.prog w = .ok v' w' ∧ w'.ownsRow base 101 4 v' (n + zs.length) (xs ++ arCells zs) ∧ w.grownBy w' v.ownBlock := by
  obtain ⟨i, hi, hzz⟩ := Option.map_eq_some_iff.1 Try.infoAr
  simp only [Prod.mk.injEq] at hzz
  obtain ⟨hz, hs, hby⟩ := hzz
  obtain ⟨ao, cap, rfl, hc, hcase⟩ := hsrc
  rcases hcase with h0 | ⟨b, off, rfl, _, hcell⟩
  · obtain rfl : zs = [] := List.eq_nil_of_length_eq_zero h0
    have hrun : (Builtin.append_ #[30, 30] ty #[v, .slice ao 0 cap]).run Try.prog w = .ok v w := by
      rcases hown.2 with ⟨rfl, rfl⟩ | ⟨g, cap', cur, rfl, _, _, hnc, _⟩
      · cases ao <;> simp [Builtin.append_, run_underlying Try.underlying30, sizeOf, typeInfo, hi, Builtin.lenOf, Builtin.firstCells, loadCells, loadCellsFrom]
      · cases ao <;> simp [Builtin.append_, run_underlying Try.underlying30, sizeOf, typeInfo, hi, Builtin.lenOf, Builtin.firstCells, hnc, storeCells, loadCells, loadCellsFrom]
    exact ⟨v, w, hrun, by simpa [arCells] using hown, ⟨rfl, rfl, rfl, Nat.le_refl _, fun _ _ _ => rfl⟩⟩
  · obtain ⟨v', w', hr, h2, h3, _⟩ := run_append_own (P := Try.prog) w base 30 ty 101 i _ 4 32 Try.underlying30 hi hz hs hby rfl (by omega) v n xs hown ⟨b, off, none⟩ zs.length cap (arCells zs)
      (by rw [arCells_length]) (fun j u hj => by
        have hjl : j < zs.length * 4 := by rw [← arCells_length]; exact (List.getElem?_eq_some_iff.1 hj).1
        have hq : j / 4 < zs.length := by omega
        obtain ⟨g0, g1, g2, g3⟩ := arCells_get zs (j / 4) hq
        obtain ⟨q0, q1, q2, q3⟩ := hcell (j / 4) hq
        have hcs : j = j / 4 * 4 ∨ j = j / 4 * 4 + 1 ∨ j = j / 4 * 4 + 2 ∨ j = j / 4 * 4 + 3 := by omega
        rcases hcs with e | e | e | e
        · rw [e] at hj ⊢
          rw [g0] at hj
          rw [← hj, Addr.add_mid]
          exact q0
        · rw [e] at hj ⊢
          rw [g1] at hj
          rw [← hj, Addr.add_mid]
          exact q1
        · rw [e] at hj ⊢
          rw [g2] at hj
          rw [← hj, Addr.add_mid]
          exact q2
        · rw [e] at hj ⊢
          rw [g3] at hj
          rw [← hj, Addr.add_mid]
          exact q3) (arCells_one zs) (by unfold maxLen; omega) (by omega) hbase
    exact ⟨v', w', hr, h2, h3⟩
theorem wp_append_ars {o : Oper} {a : Act} {w : World} {K : Act → World → Prop} {Q : Exit → Act → World → Prop} (s x : Operand)
    (ho : o.op = .call { callee := .builtin .append, args := #[s, x], argTypes := #[30, 30] })
    (base lo : Nat) (v : Value) (n : Nat) (xs : List Value) (hs : a.eval s = v) (hown : w.ownsRow base 101 4 v n xs) (src : Value) (zs : List Ar) (hx : a.eval x = src) (hsrc : ArcsAt lo w src zs)
    (hlen : n + zs.length ≤ 1073741824) (hbase : base ≤ w.heap.size)
    (h : ∀ v' w', w'.ownsRow base 101 4 v' (n + zs.length) (xs ++ arCells zs) → w.grownBy w' v.ownBlock → K (a.put o.dst v') w') : o.wp Try.prog a w K Q := by
  obtain ⟨v', w', hr, h2, h3⟩ := run_append_ars w o.type base lo v n xs hown src zs hsrc hlen hbase
  unfold Oper.wp execOp
  simp only [ho, resolve, invoke, builtin, Sem.run_bind, Sem.run_pure, Result.andThen_ok, List.map_toArray, List.map_cons, List.map_nil, hs, hx, hr]
  exact h v' w' h2 h3
theorem wpList_append_ars {ops : Array Oper} {rest : List Oper} {o : Oper} {a : Act} {w : World} {Q : Exit → Act → World → Prop} (hgd : o.guard = none) (s x : Operand)
    (ho : o.op = .call { callee := .builtin .append, args := #[s, x], argTypes := #[30, 30] })
    (base lo : Nat) (v : Value) (n : Nat) (xs : List Value) (hs : a.eval s = v) (hown : w.ownsRow base 101 4 v n xs) (src : Value) (zs : List Ar) (hx : a.eval x = src) (hsrc : ArcsAt lo w src zs)
    (hlen : n + zs.length ≤ 1073741824) (hbase : base ≤ w.heap.size)
    (h : ∀ v' w', w'.ownsRow base 101 4 v' (n + zs.length) (xs ++ arCells zs) → w.grownBy w' v.ownBlock → wpList Try.prog ops Q rest (a.put o.dst v') w') : wpList Try.prog ops Q (o :: rest) a w :=
  wpList_plain hgd fun _ hK => wp_append_ars s x ho base lo v n xs hs hown src zs hx hsrc hlen hbase fun v' w' h2 h3 => hK _ _ (h v' w' h2 h3)
theorem arOne_owns (w : World) (f s : Int) (u : Bool) (t : Int) : (w.alloc (.cells #[.int .i64 f, .int .i64 s, .bool u, .int .i64 t] 101)).ownsRow w.heap.size 101 4 (.slice (some ⟨w.heap.size, 0, none⟩) 1 1) 1 [.int .i64 f, .int .i64 s, .bool u, .int .i64 t] :=
  ⟨rfl, Or.inr ⟨w.heap.size, 1, _, rfl, Nat.le_refl _, heap_alloc_new w _, Nat.le_refl _, by unfold maxLen; omega, rfl, rfl⟩⟩
theorem rgOf_small {r : SgD} (h : SmallSg r) : SmallRg (rgOf r) := by
  refine ⟨⟨?_, fun i hi => ?_⟩, ?_⟩
  · show (List.replicate r.codes.length ByteArray.empty).length ≤ _
    rw [List.length_replicate]; exact h.2.1.1
  · have hi : i < (List.replicate r.codes.length ByteArray.empty).length := hi
    rw [List.length_replicate] at hi
    have : stN (rgOf r).marks i = ByteArray.empty := by
      show stN (List.replicate r.codes.length ByteArray.empty) i = _
      simp [stN, List.getD, hi]
    rw [this]; exact Nat.zero_le _
  · show (mvsOf r.arcs).length ≤ _
    rw [mvsOf_length]; exact h.2.2
theorem rgOf_len (r : SgD) : (rgOf r).marks.length = r.codes.length := by
  show (List.replicate r.codes.length ByteArray.empty).length = _
  rw [List.length_replicate]

end Go.Proofs.Ytfipnlehaklepaa
