/- WALK: ShortestFiringSequence of the model.
   WALKS: IsExcited of the program.
   WALKS: l5State, l5Excited, IsExcited of the model.
   WALKS: l5Way, ShortestPath of the model. -/
import Derived.Test.YtnmoocgocnjdjaaGreatVFar
import Derived.Test.YtnmoocgocnjdjaaGreatVL1in
import Derived.Test.YtnmoocgocnjdjaaGreatVOvk
import Derived.Test.YtnmoocgocnjdjaaGreatVSgv
import Derived.Test.YtnmoocgocnjdjaaGreatVExd
import Derived.Test.YtnmoocgocnjdjaaGreatVSgu
import Derived.Test.YtnmoocgocnjdjaaGreatVPvm
import Derived.Test.YtnmoocgocnjdjaaGreatVSpm
namespace Go.Proofs.YtnmoocgocnjdjaaGreat
open Go.RowKit

/-- the way from the place a on is laid -/
def WayR (ms : List Mv) (D : Nat → Int) (WW : List Nat) (e a : Nat) (suf : List Nat) : Prop := WW = wayTo ms D e a ++ suf
theorem WayR.next {ms : List Mv} {D : Nat → Int} {WW : List Nat} {e a : Nat} {suf : List Nat} (h : WayR ms D WW (e + 1) a suf) : WayR ms D WW e (mvF ms (stepAt ms D a e)).toNat (stepAt ms D a e :: suf) := by
  unfold WayR at h ⊢
  rw [h]
  conv => lhs; unfold wayTo
  rw [List.append_assoc]
  rfl
theorem dist_zero {n : Nat} {L : Nat → List Int} {s : Nat} {D : Nat → Int} (h : Dist n L s D) (hs : s < n) : D s = 0 := by
  have := (h s hs).2.2.2 0 rfl
  omega
theorem dist_self {n : Nat} {L : Nat → List Int} {s k : Nat} {D : Nat → Int} (h : Dist n L s D) (hk : k < n) (h0 : D k = 0) : k = s := by
  have := (h k hk).2.2.1 (by omega)
  rw [h0] at this
  exact this

end Go.Proofs.YtnmoocgocnjdjaaGreat

namespace Go.Proofs.YtnmoocgocnjdjaaGreat
open Go.RowKit

/-! two captures -/
set_option maxRecDepth 100000 in
set_option maxHeartbeats 1000000 in
theorem IndexFuncArc2_any (v : Value) (ss : List Ar) (F : Nat) (cv cv2 : Value) (g : Nat → Bool) (w : World) (lo : Nat) (hv : ArcsAt lo w v ss) (hl : ss.length ≤ 1048576)
    (hF : ∀ (args : Array Value) (w : World), (callFunc F args).run Tryz.prog w = .ok (.enter F args) w)
    (hclo : ∀ k, k < ss.length → ∀ w1, Below w.heap.size w w1 → Calls Tryz.prog F #[.agg #[.int .i64 (arF ss k), .int .i64 (arS ss k), .bool (arU ss k), .int .i64 (arT ss k)], cv, cv2] w1 (RetB w1 (g k))) :
    Calls Tryz.prog 216 #[v, .func (.func F) #[] #[cv, cv2]] w (RetIx w (anyTo ss.length g)) := by
  obtain ⟨q, hq⟩ : ∃ q, q = anyTo ss.length g := ⟨_, rfl⟩
  rw [← hq]
  have HG := Lib.hid hq; clear hq
  obtain ⟨ao, cap, rfl, hc, hz⟩ := hv
  have HF := Lib.hid hz; clear hz
  have HC := Lib.hid hclo; clear hclo
  go_enter Tryz.func216, Tryz.ntmps216
  go_wp2_with fail
  go_loopw [8] (fun i wr => ∃ k : Nat, k ≤ ss.length ∧ i = .int .i64 k ∧ Hid (∀ j, j < k → g j = false) ∧ Below w.heap.size w wr) (fun i _ => ss.length - (intOf i).toNat)
  case atStart => exact ⟨0, Nat.zero_le _, rfl, fun j hj => absurd hj (Nat.not_lt_zero _), Below.refl _ _⟩
  case round =>
    obtain ⟨k, hk, rfl, hall, hb1⟩ := hrel
    by_cases hlt : k < ss.length
    · rcases HF.out with h0 | ⟨b, off, rfl, hlo, hcell⟩
      · omega
      obtain ⟨q0, q1, q2, q3⟩ := hcell k hlt
      have d0 := Carries.of lo hb1 _ _ hlo q0
      have d1 := Carries.of lo hb1 _ _ hlo q1
      have d2 := Carries.of lo hb1 _ _ hlo q2
      have d3 := Carries.of lo hb1 _ _ hlo q3
      clear hcell q0 q1 q2 q3
      go_wp2_with fail
      refine (HC.out k hlt _ hb1).mono ?_
      rintro e w2 ⟨rfl, hb⟩
      have hw2 : Below w.heap.size w w2 := hb1.trans (hb.mono hb1.size)
      clear hb d0 d1 d2 d3
      cases hk2 : g k with
      | false =>
        have H2 : Hid (∀ j, j < k + 1 → g j = false) := by
          intro j hj
          by_cases ej : j = k
          · subst ej; exact hk2
          · exact hall.out j (by omega)
        clear hk2
        go_wp2_with fail
        go_roundw
        case rel => exact ⟨k + 1, by omega, by go_num, H2, hw2⟩
        case measure => simp [intOf]; omega
      | true =>
        have e := HG.out
        rw [anyTo_true hlt hk2] at e
        subst e
        clear hk2
        go_wp2_with fail
        go_ret
        refine ⟨(k : Int), rfl, by omega, by omega, ?_, hw2⟩
        rw [decide_eq_true (by omega)]
    · have hkk : k = ss.length := by omega
      subst hkk
      have e := HG.out
      rw [anyTo_false hall.out] at e
      subst e
      go_wp2_with fail
      go_ret
      exact ⟨-1, rfl, by omega, by omega, rfl, hb1⟩

set_option maxRecDepth 100000 in
set_option maxHeartbeats 400000 in
theorem ContainsFuncArc2_any (v : Value) (ss : List Ar) (F : Nat) (cv cv2 : Value) (g : Nat → Bool) (w : World) (lo : Nat) (hv : ArcsAt lo w v ss) (hl : ss.length ≤ 1048576)
    (hF : ∀ (args : Array Value) (w : World), (callFunc F args).run Tryz.prog w = .ok (.enter F args) w)
    (hclo : ∀ k, k < ss.length → ∀ w1, Below w.heap.size w w1 → Calls Tryz.prog F #[.agg #[.int .i64 (arF ss k), .int .i64 (arS ss k), .bool (arU ss k), .int .i64 (arT ss k)], cv, cv2] w1 (RetB w1 (g k))) :
    Calls Tryz.prog 184 #[v, .func (.func F) #[] #[cv, cv2]] w (RetB w (anyTo ss.length g)) := by
  obtain ⟨q, hq⟩ : ∃ q, q = anyTo ss.length g := ⟨_, rfl⟩
  rw [← hq]
  have HG := Lib.hid hq; clear hq
  have hv2 := hv
  obtain ⟨ao, cap, rfl, _, _⟩ := hv2
  have HV := Lib.hid hv; clear hv
  have HC := Lib.hid hclo; clear hclo
  go_enter Tryz.func184, Tryz.ntmps184
  go_wp2_with fail
  refine (IndexFuncArc2_any _ ss F _ _ g _ lo HV.out hl hF HC.out).mono ?_
  rintro e w1 ⟨r, rfl, h0, h1, hr, hb⟩
  rw [← HG.out] at hr
  by_cases h : 0 ≤ r
  · rw [decide_eq_true h] at hr
    subst hr
    have t1 : decide (0 ≤ r) = true := decide_eq_true (by omega)
    go_wp2_with fail
    go_ret
    exact ⟨rfl, hb⟩
  · rw [decide_eq_false h] at hr
    subst hr
    have t1 : decide (0 ≤ r) = false := decide_eq_false (by omega)
    go_wp2_with fail
    go_ret
    exact ⟨rfl, hb⟩

end Go.Proofs.YtnmoocgocnjdjaaGreat

namespace Go.Proofs.YtnmoocgocnjdjaaGreat
open Go.RowKit

end Go.Proofs.YtnmoocgocnjdjaaGreat

namespace Go.Proofs.YtnmoocgocnjdjaaGreat
open Go.RowKit

theorem arCells_one : ∀ (ms : List Ar), ∀ u ∈ arCells ms, u.oneCell' = true
  | [], u, hu => by cases hu
  | m :: ms, u, hu => by
    simp only [arCells, List.mem_cons] at hu
    rcases hu with rfl | rfl | rfl | rfl | hu
    · rfl
    · rfl
    · rfl
    · rfl
    · exact arCells_one ms u hu
theorem run_append_ars (w : World) (ty : TypeId) (base lo : Nat) (v : Value) (n : Nat) (xs : List Value) (hown : w.ownsRow base 138 4 v n xs) (src : Value) (zs : List Ar) (hsrc : ArcsAt lo w src zs)
    (hlen : n + zs.length ≤ 1073741824) (hbase : base ≤ w.heap.size) :
    ∃ v' w', (Builtin.append_ #[78, 78] ty #[v, src]).run Tryz.prog w = .ok v' w' ∧ w'.ownsRow base 138 4 v' (n + zs.length) (xs ++ arCells zs) ∧ w.grownBy w' v.ownBlock := by
  obtain ⟨i, hi, hzz⟩ := Option.map_eq_some_iff.1 Tryz.infoAr
  simp only [Prod.mk.injEq] at hzz
  obtain ⟨hz, hs, hby⟩ := hzz
  obtain ⟨ao, cap, rfl, hc, hcase⟩ := hsrc
  rcases hcase with h0 | ⟨b, off, rfl, _, hcell⟩
  · obtain rfl : zs = [] := List.eq_nil_of_length_eq_zero h0
    have hrun : (Builtin.append_ #[78, 78] ty #[v, .slice ao 0 cap]).run Tryz.prog w = .ok v w := by
      rcases hown.2 with ⟨rfl, rfl⟩ | ⟨g, cap', cur, rfl, _, _, hnc, _⟩
      · cases ao <;> simp [Builtin.append_, run_underlying Tryz.underlying78, sizeOf, typeInfo, hi, Builtin.lenOf, Builtin.firstCells, loadCells, loadCellsFrom]
      · cases ao <;> simp [Builtin.append_, run_underlying Tryz.underlying78, sizeOf, typeInfo, hi, Builtin.lenOf, Builtin.firstCells, hnc, storeCells, loadCells, loadCellsFrom]
    exact ⟨v, w, hrun, by simpa [arCells] using hown, ⟨rfl, rfl, rfl, Nat.le_refl _, fun _ _ _ => rfl⟩⟩
  · obtain ⟨v', w', hr, h2, h3, _⟩ := run_append_own (P := Tryz.prog) w base 78 ty 138 i _ 4 32 Tryz.underlying78 hi hz hs hby rfl (by omega) v n xs hown ⟨b, off, none⟩ zs.length cap (arCells zs)
      (by rw [arCells_length]) (fun j u hj => by
        have hjl : j < zs.length * 4 := by rw [← arCells_length]; exact (List.getElem?_eq_some_iff.1 hj).1
        have hq : j / 4 < zs.length := by omega
        obtain ⟨g0, g1, g2, g3⟩ := arCells_get zs (j / 4) hq
        obtain ⟨q0, q1, q2, q3⟩ := hcell (j / 4) hq
        have hcs : j = j / 4 * 4 ∨ j = j / 4 * 4 + 1 ∨ j = j / 4 * 4 + 2 ∨ j = j / 4 * 4 + 3 := by omega
        rcases hcs with e | e | e | e
        · rw [e] at hj ⊢
          rw [g0] at hj
          rw [← hj, Addr.add_mid]
          exact q0
        · rw [e] at hj ⊢
          rw [g1] at hj
          rw [← hj, Addr.add_mid]
          exact q1
        · rw [e] at hj ⊢
          rw [g2] at hj
          rw [← hj, Addr.add_mid]
          exact q2
        · rw [e] at hj ⊢
          rw [g3] at hj
          rw [← hj, Addr.add_mid]
          exact q3) (arCells_one zs) (by unfold maxLen; omega) (by omega) hbase
    exact ⟨v', w', hr, h2, h3⟩
theorem wp_append_ars {o : Oper} {a : Act} {w : World} {K : Act → World → Prop} {Q : Exit → Act → World → Prop} (s x : Operand)
    (ho : o.op = .call { callee := .builtin .append, args := #[s, x], argTypes := #[78, 78] })
    (base lo : Nat) (v : Value) (n : Nat) (xs : List Value) (hs : a.eval s = v) (hown : w.ownsRow base 138 4 v n xs) (src : Value) (zs : List Ar) (hx : a.eval x = src) (hsrc : ArcsAt lo w src zs)
    (hlen : n + zs.length ≤ 1073741824) (hbase : base ≤ w.heap.size)
    (h : ∀ v' w', w'.ownsRow base 138 4 v' (n + zs.length) (xs ++ arCells zs) → w.grownBy w' v.ownBlock → K (a.put o.dst v') w') : o.wp Tryz.prog a w K Q := by
  obtain ⟨v', w', hr, h2, h3⟩ := run_append_ars w o.type base lo v n xs hown src zs hsrc hlen hbase
  unfold Oper.wp execOp
  simp only [ho, resolve, invoke, builtin, Sem.run_bind, Sem.run_pure, Result.andThen_ok, List.map_toArray, List.map_cons, List.map_nil, hs, hx, hr]
  exact h v' w' h2 h3
theorem wpList_append_ars {ops : Array Oper} {rest : List Oper} {o : Oper} {a : Act} {w : World} {Q : Exit → Act → World → Prop} (hgd : o.guard = none) (s x : Operand)
    (ho : o.op = .call { callee := .builtin .append, args := #[s, x], argTypes := #[78, 78] })
    (base lo : Nat) (v : Value) (n : Nat) (xs : List Value) (hs : a.eval s = v) (hown : w.ownsRow base 138 4 v n xs) (src : Value) (zs : List Ar) (hx : a.eval x = src) (hsrc : ArcsAt lo w src zs)
    (hlen : n + zs.length ≤ 1073741824) (hbase : base ≤ w.heap.size)
    (h : ∀ v' w', w'.ownsRow base 138 4 v' (n + zs.length) (xs ++ arCells zs) → w.grownBy w' v.ownBlock → wpList Tryz.prog ops Q rest (a.put o.dst v') w') : wpList Tryz.prog ops Q (o :: rest) a w :=
  wpList_plain hgd fun _ hK => wp_append_ars s x ho base lo v n xs hs hown src zs hx hsrc hlen hbase fun v' w' h2 h3 => hK _ _ (h v' w' h2 h3)
theorem arOne_owns (w : World) (f s : Int) (u : Bool) (t : Int) : (w.alloc (.cells #[.int .i64 f, .int .i64 s, .bool u, .int .i64 t] 138)).ownsRow w.heap.size 138 4 (.slice (some ⟨w.heap.size, 0, none⟩) 1 1) 1 [.int .i64 f, .int .i64 s, .bool u, .int .i64 t] :=
  ⟨rfl, Or.inr ⟨w.heap.size, 1, _, rfl, Nat.le_refl _, heap_alloc_new w _, Nat.le_refl _, by unfold maxLen; omega, rfl, rfl⟩⟩
theorem rgOf_small {r : SgD} (h : SmallSg r) : SmallRg (rgOf r) := by
  refine ⟨⟨?_, fun i hi => ?_⟩, ?_⟩
  · show (List.replicate r.codes.length ByteArray.empty).length ≤ _
    rw [List.length_replicate]; exact h.2.1.1
  · have hi : i < (List.replicate r.codes.length ByteArray.empty).length := hi
    rw [List.length_replicate] at hi
    have : stN (rgOf r).marks i = ByteArray.empty := by
      show stN (List.replicate r.codes.length ByteArray.empty) i = _
      simp [stN, List.getD, hi]
    rw [this]; exact Nat.zero_le _
  · show (mvsOf r.arcs).length ≤ _
    rw [mvsOf_length]; exact h.2.2
theorem rgOf_len (r : SgD) : (rgOf r).marks.length = r.codes.length := by
  show (List.replicate r.codes.length ByteArray.empty).length = _
  rw [List.length_replicate]

end Go.Proofs.YtnmoocgocnjdjaaGreat
