/- WALK: shortestPath of the program. -/
import Derived.Test.YtnmoocgocnjdjaaGreatVShc
import Derived.Test.YtnmoocgocnjdjaaGreatVTgt
import Derived.Test.YtnmoocgocnjdjaaGreatVNetb
import Derived.Deep.RegionHeld3
import Derived.BigRegion
namespace Go.Proofs.YtnmoocgocnjdjaaGreat
open Go.RowKit

/-- the triples of the row b from the place k on are there -/
def TripDn (b : Nat) (t : TypeId) (w : World) (n k : Nat) (x y z : Nat → Value) : Prop := ∃ f, w.rowIs b t (n * 3) f ∧ ∀ i, k ≤ i → i < n → f (i * 3) = x i ∧ f (i * 3 + 1) = y i ∧ f (i * 3 + 2) = z i
theorem TripDn.keep {b : Nat} {t : TypeId} {w w' : World} {n k : Nat} {x y z : Nat → Value} (h : TripDn b t w n k x y z) (hb : w'.heap[b]? = w.heap[b]?) : TripDn b t w' n k x y z := by
  obtain ⟨f, hr, ht⟩ := h
  exact ⟨f, hr.of_block hb, ht⟩
theorem TripDn.setOther {b : Nat} {t : TypeId} {w : World} {n k : Nat} {x y z : Nat → Value} (h : TripDn b t w n k x y z) {a : Addr} (ha : b ≠ a.block) (v : Value) : TripDn b t (w.setCell a v) n k x y z := by
  obtain ⟨f, hr, ht⟩ := h
  exact ⟨f, hr.setOther ha v, ht⟩
theorem TripDn.alloc {b : Nat} {t : TypeId} {w : World} {n k : Nat} {x y z : Nat → Value} (h : TripDn b t w n k x y z) (o : Obj) : TripDn b t (w.alloc o) n k x y z := by
  obtain ⟨f, hr, ht⟩ := h
  exact ⟨f, hr.alloc o, ht⟩
theorem TripDn.lt {b : Nat} {t : TypeId} {w : World} {n k : Nat} {x y z : Nat → Value} (h : TripDn b t w n k x y z) : b < w.heap.size := by
  obtain ⟨f, hr, ht⟩ := h
  exact hr.lt
theorem TripDn.cells {b : Nat} {t : TypeId} {w : World} {n k : Nat} {x y z : Nat → Value} (h : TripDn b t w n k x y z) {i : Nat} (hi : i < n) : ∃ v0 v1 v2, w.cell? ⟨b, i * 3, none⟩ = some v0 ∧ w.cell? ⟨b, i * 3 + 1, none⟩ = some v1 ∧ w.cell? ⟨b, i * 3 + 2, none⟩ = some v2 ∧ w.frozen? ⟨b, i * 3, none⟩ = false ∧ w.frozen? ⟨b, i * 3 + 1, none⟩ = false ∧ w.frozen? ⟨b, i * 3 + 2, none⟩ = false := by
  obtain ⟨f, hr, ht⟩ := h
  exact ⟨_, _, _, hr.cell (by omega), hr.cell (by omega), hr.cell (by omega), hr.frozen _, hr.frozen _, hr.frozen _⟩
theorem TripDn.put {b : Nat} {t : TypeId} {w : World} {n k : Nat} {x y z : Nat → Value} (h : TripDn b t w n (k + 1) x y z) {v0 v1 v2 : Value} (h0 : v0 = x k) (h1 : v1 = y k) (h2 : v2 = z k) :
    TripDn b t (((w.setCell ⟨b, k * 3, none⟩ v0).setCell ⟨b, k * 3 + 1, none⟩ v1).setCell ⟨b, k * 3 + 2, none⟩ v2) n k x y z := by
  obtain ⟨f, hr, hx⟩ := h
  refine ⟨_, ((hr.set (k * 3) v0).set (k * 3 + 1) v1).set (k * 3 + 2) v2, fun i hi hin => ?_⟩
  by_cases e : i = k
  · subst e
    simp [show ¬ i * 3 = i * 3 + 1 by omega, show ¬ i * 3 = i * 3 + 2 by omega, h0, h1, h2]
  · have a1 : ¬ i * 3 = k * 3 + 2 := by omega
    have a2 : ¬ i * 3 = k * 3 + 1 := by omega
    have a3 : ¬ i * 3 = k * 3 := by omega
    have a4 : ¬ i * 3 + 1 = k * 3 + 2 := by omega
    have a5 : ¬ i * 3 + 1 = k * 3 + 1 := by omega
    have a6 : ¬ i * 3 + 1 = k * 3 := by omega
    have a7 : ¬ i * 3 + 2 = k * 3 + 2 := by omega
    have a8 : ¬ i * 3 + 2 = k * 3 + 1 := by omega
    have a9 : ¬ i * 3 + 2 = k * 3 := by omega
    simp only [if_neg a1, if_neg a2, if_neg a3, if_neg a4, if_neg a5, if_neg a6, if_neg a7, if_neg a8, if_neg a9]
    exact hx i (by omega) hin
theorem TripDn.read {b : Nat} {t : TypeId} {w : World} {n : Nat} {x y z : Nat → Value} (h : TripDn b t w n 0 x y z) : TripsAt b w (.slice (some ⟨b, 0, none⟩) n n) n x y z := by
  obtain ⟨f, hr, ht⟩ := h
  refine ⟨_, _, rfl, Nat.le_refl _, Or.inr ⟨b, 0, rfl, Nat.le_refl _, fun i hi => ⟨?_, ?_, ?_⟩⟩⟩
  · rw [Nat.zero_add, hr.cell (by omega), (ht i (Nat.zero_le _) hi).1]
  · rw [Nat.zero_add, hr.cell (by omega), (ht i (Nat.zero_le _) hi).2.1]
  · rw [Nat.zero_add, hr.cell (by omega), (ht i (Nat.zero_le _) hi).2.2]

/-- these moves, in this order -/
def toMv (ms : List Mv) (W : List Nat) : List Mv := W.map (fun i => (mvF ms i, mvB ms i, mvT ms i))
theorem toMv_length (ms : List Mv) (W : List Nat) : (toMv ms W).length = W.length := by simp [toMv]
theorem toMv_get {ms : List Mv} {W : List Nat} {e k : Nat} (h : W[e]? = some k) : mvF (toMv ms W) e = mvF ms k ∧ mvB (toMv ms W) e = mvB ms k ∧ mvT (toMv ms W) e = mvT ms k := by
  have : (toMv ms W).getD e (0, 0, 0) = (mvF ms k, mvB ms k, mvT ms k) := by
    unfold toMv
    simp [List.getD, h]
  refine ⟨?_, ?_, ?_⟩
  · show ((toMv ms W).getD e (0, 0, 0)).1 = _; rw [this]
  · show ((toMv ms W).getD e (0, 0, 0)).2.1 = _; rw [this]
  · show ((toMv ms W).getD e (0, 0, 0)).2.2 = _; rw [this]
/-- the way is laid from the end: what is still to lay, and where it ends -/
def WayOf (ms : List Mv) (D : Nat → Int) (W : List Nat) (e a : Nat) : Prop := ∃ suf, W = wayTo ms D e a ++ suf
theorem WayOf.next {ms : List Mv} {D : Nat → Int} {W : List Nat} {e a : Nat} (h : WayOf ms D W (e + 1) a) : W[e]? = some (stepAt ms D a e) ∧ WayOf ms D W e (mvF ms (stepAt ms D a e)).toNat := by
  obtain ⟨suf, rfl⟩ := h
  refine ⟨?_, ⟨[stepAt ms D a e] ++ suf, ?_⟩⟩
  · unfold wayTo
    rw [List.append_assoc, List.getElem?_append_right (by rw [wayTo_length]; omega), wayTo_length]
    simp
  · conv => lhs; unfold wayTo
    rw [List.append_assoc]

theorem stepAt_bef {ms : List Mv} {D : Nat → Int} {a d j : Nat} (h : j < stepAt ms D a d) : stepOk ms D a d j = false := by
  unfold stepAt at h
  have h2 := List.not_of_lt_findIdx h
  simpa using h2
def ptrOf : Value → Addr
  | .pointer (some a) => a
  | _ => ⟨0, 0, none⟩
def atPtr (w : World) (v : Value) : Value := (w.cell? (ptrOf v)).getD (.bool false)
theorem atPtr_eq {w : World} {a : Addr} {x : Value} (h : w.cell? a = some x) : atPtr w (.pointer (some a)) = x := by
  unfold atPtr ptrOf
  rw [h]
  rfl

theorem cell_new1 (w : World) (x : Value) (t : TypeId) : (w.alloc (.cells #[x] t)).cell? ⟨w.heap.size, 0, none⟩ = some x := by simp
theorem froz_new1 (w : World) (x : Value) (t : TypeId) : (w.alloc (.cells #[x] t)).frozen? ⟨w.heap.size, 0, none⟩ = false := by simp

theorem far3 {w : World} {b o0 o1 o2 : Nat} {v0 v1 v2 : Value} {a : Addr} (h : b ≠ a.block) : ((((w.setCell ⟨b, o0, none⟩ v0).setCell ⟨b, o1, none⟩ v1).setCell ⟨b, o2, none⟩ v2).drew).cell? a = w.cell? a := by
  have hne : ∀ o, (⟨b, o, none⟩ : Addr) ≠ a := fun o e => h (by rw [← e])
  show (((w.setCell ⟨b, o0, none⟩ v0).setCell ⟨b, o1, none⟩ v1).setCell ⟨b, o2, none⟩ v2).cell? a = w.cell? a
  rw [World.cell?_setCell_other _ _ _ _ (hne _), World.cell?_setCell_other _ _ _ _ (hne _), World.cell?_setCell_other _ _ _ _ (hne _)]
theorem froz3 {w : World} {b o0 o1 o2 : Nat} {v0 v1 v2 : Value} {a : Addr} (h : b ≠ a.block) : ((((w.setCell ⟨b, o0, none⟩ v0).setCell ⟨b, o1, none⟩ v1).setCell ⟨b, o2, none⟩ v2).drew).frozen? a = w.frozen? a := by
  simp

def RetWay (w : World) (n : Nat) (ms : List Mv) (t : Nat) (e : Ending) (w' : World) : Prop :=
  ∃ D, Dist n (tgL ms) 0 D ∧ (D t < 0 → e = .returned (.tuple #[.slice none 0 0, .bool false])) ∧
    (0 ≤ D t → ∃ v, e = .returned (.tuple #[v, .bool true]) ∧ MovesAt w.heap.size w' v (toMv ms (wayTo ms D (D t).toNat t))) ∧ Below w.heap.size w w'

set_option maxRecDepth 100000 in
set_option maxHeartbeats 4000000 in
theorem shortestPath_any (n : Nat) (v : Value) (ms : List Mv) (t : Nat) (w : World) (lo : Nat) (hv : MovesAt lo w v ms) (hn : n ≤ 1048576) (hl : ms.length ≤ 1048576) (hin : MvIn ms n) (ht : t < n) :
    Calls Tryz.prog 156 #[.int .i64 (n : Int), v, .int .i64 (t : Int)] w (RetWay w n ms t) := by
  have HV := Lib.hid hv
  obtain ⟨a0, c0, rfl⟩ := hv.form
  clear hv
  have HIN := Lib.hid hin; clear hin
  obtain ⟨nm, hnm⟩ : ∃ x, x = ms.length := ⟨_, rfl⟩
  have HNM := Lib.hid hnm
  rw [← hnm] at HV hl ⊢
  clear hnm
  have hal : Below w.heap.size w (w.alloc (.cells #[.int .i64 (t : Int)] 3)) := (Below.refl _ _).alloc (Nat.le_refl _) _
  have x5 : (w.alloc (.cells #[.int .i64 (t : Int)] 3)).cell? ⟨w.heap.size, 0, none⟩ = some (.int .i64 (t : Int)) := by simp
  have f5 : (w.alloc (.cells #[.int .i64 (t : Int)] 3)).frozen? ⟨w.heap.size, 0, none⟩ = false := by simp
  go_enter Tryz.func156, Tryz.ntmps156
  go_wp2_with fail
  generalize w.alloc (.cells #[.int .i64 (t : Int)] 3) = W0 at x5 f5 hal ⊢
  refine (targets_any n _ ms W0 lo (HV.out.keep (Carries.of lo hal)) hn (by rw [← HNM.out]; exact hl) (fun i hi => (HIN.out i hi).1)).mono ?_
  rintro e w1 ⟨vt, rfl, hvt, hb⟩
  have hw1 : Below w.heap.size w w1 := hal.trans (hb.mono hal.size)
  have f5 := frozen_carry f5 x5 hb
  have x5 := cell_carry x5 (Carries.of 0 hb)
  have z5 : w.heap.size < w1.heap.size := cell_old x5
  have HT := Lib.hid hvt
  obtain ⟨bt, ot, ct, rfl, _, _, _⟩ := id hvt
  clear hb hvt hal
  go_wp2_with fail
  refine (distancesFrom_any _ n (tgL ms) 0 w1 _ HT.out (by omega) hn HIN.out.inB (fun k _ => Nat.le_trans (tgTo_length ms ms.length k) (by rw [← HNM.out]; exact hl))).mono ?_
  rintro e w2 ⟨db, D, rfl, hd0, hd1, hrow, hD, hb⟩
  have hw2 : Below w.heap.size w w2 := hw1.trans (hb.mono hw1.size)
  have f5 := frozen_carry f5 x5 hb
  have x5 := cell_carry x5 (Carries.of 0 hb)
  have HD := Lib.hid hD
  have zdb := hrow.lt
  have hdw : w.heap.size < db := by omega
  have h8 : Below w2.heap.size w2 (w2.alloc (.cells #[.slice (some ⟨db, 0, none⟩) n n] 29)) := (Below.refl _ _).alloc (Nat.le_refl _) _
  have z52 := cell_old x5
  have f5' := frozen_carry f5 x5 h8
  have x5' := cell_carry x5 (Carries.of 0 h8)
  have x8' : (w2.alloc (.cells #[.slice (some ⟨db, 0, none⟩) n n] 29)).cell? ⟨w2.heap.size, 0, none⟩ = some (.slice (some ⟨db, 0, none⟩) n n) := by simp
  have hrow' := hrow.alloc (.cells #[.slice (some ⟨db, 0, none⟩) n n] 29)
  have cdt := hrow'.cell ht
  unfold dV at cdt
  have HR := Lib.hid hrow'
  have ht1 : (t : Int) < (n : Int) := by omega
  clear hb hrow hrow' hD f5 x5 HT
  by_cases hneg : D t < 0
  · obtain ⟨dt, hdt⟩ : ∃ x, x = D t := ⟨_, rfl⟩
    rw [← hdt] at cdt hneg
    have HDT := Lib.hid hdt; clear hdt
    go_wp2_with fail
    go_ret2
    refine ⟨D, HD.out, fun _ => rfl, fun h => absurd h (by rw [← HDT.out]; omega), hw2.trans (h8.mono hw2.size)⟩
  obtain ⟨d, hd⟩ : ∃ d : Nat, D t = (d : Int) := ⟨(D t).toNat, by omega⟩
  rw [hd] at cdt
  have hdn := (HD.out t ht).2.1
  rw [hd] at hdn
  have HDT := Lib.hid hd; clear hd hneg
  have hmk := run_make_moves d (by omega)
  have hw8 : Below w.heap.size w (w2.alloc (.cells #[.slice (some ⟨db, 0, none⟩) n n] 29)) := hw2.trans (h8.mono hw2.size)
  have z8 : (w2.alloc (.cells #[.slice (some ⟨db, 0, none⟩) n n] 29)).heap.size = w2.heap.size + 1 := by simp
  go_wp2_with fail
  have x5 := cell_carry x5' (Carries.of 0 (Below.trans (b := (w2.alloc (.cells #[.slice (some ⟨db, 0, none⟩) n n] 29)).alloc (.cells (madeCells #[.int .i64 0, .int .i64 0, .int .i64 0] (d * 3)) 189)) ((Below.refl _ _).alloc (Nat.le_refl _) _) ((Below.refl _ _).alloc (by simp) (.cells #[.int .i64 ((d : Int) - 1)] 3))))
  have f5 : ((((w2.alloc (.cells #[.slice (some ⟨db, 0, none⟩) n n] 29)).alloc (.cells (madeCells #[.int .i64 0, .int .i64 0, .int .i64 0] (d * 3)) 189)).alloc (.cells #[.int .i64 ((d : Int) - 1)] 3))).frozen? ⟨w.heap.size, 0, none⟩ = false :=
    frozen_carry f5' x5' (Below.trans (b := (w2.alloc (.cells #[.slice (some ⟨db, 0, none⟩) n n] 29)).alloc (.cells (madeCells #[.int .i64 0, .int .i64 0, .int .i64 0] (d * 3)) 189)) ((Below.refl _ _).alloc (Nat.le_refl _) _) ((Below.refl _ _).alloc (by simp) (.cells #[.int .i64 ((d : Int) - 1)] 3)))
  have x8 : ((((w2.alloc (.cells #[.slice (some ⟨db, 0, none⟩) n n] 29)).alloc (.cells (madeCells #[.int .i64 0, .int .i64 0, .int .i64 0] (d * 3)) 189)).alloc (.cells #[.int .i64 ((d : Int) - 1)] 3))).cell? ⟨w2.heap.size, 0, none⟩ = some (.slice (some ⟨db, 0, none⟩) n n) := cell_carry x8' (Carries.of 0 (Below.trans (b := (w2.alloc (.cells #[.slice (some ⟨db, 0, none⟩) n n] 29)).alloc (.cells (madeCells #[.int .i64 0, .int .i64 0, .int .i64 0] (d * 3)) 189)) ((Below.refl _ _).alloc (Nat.le_refl _) _) ((Below.refl _ _).alloc (by simp) (.cells #[.int .i64 ((d : Int) - 1)] 3))))
  have x10 : ((((w2.alloc (.cells #[.slice (some ⟨db, 0, none⟩) n n] 29)).alloc (.cells (madeCells #[.int .i64 0, .int .i64 0, .int .i64 0] (d * 3)) 189)).alloc (.cells #[.int .i64 ((d : Int) - 1)] 3))).cell? ⟨w2.heap.size + 1 + 1, 0, none⟩ = some (.int .i64 ((d : Int) - 1)) := by have h := cell_new1 ((w2.alloc (.cells #[.slice (some ⟨db, 0, none⟩) n n] 29)).alloc (.cells (madeCells #[.int .i64 0, .int .i64 0, .int .i64 0] (d * 3)) 189)) (.int .i64 ((d : Int) - 1)) 3; simpa only [World.size_alloc] using h
  have f10 : ((((w2.alloc (.cells #[.slice (some ⟨db, 0, none⟩) n n] 29)).alloc (.cells (madeCells #[.int .i64 0, .int .i64 0, .int .i64 0] (d * 3)) 189)).alloc (.cells #[.int .i64 ((d : Int) - 1)] 3))).frozen? ⟨w2.heap.size + 1 + 1, 0, none⟩ = false := by have h := froz_new1 ((w2.alloc (.cells #[.slice (some ⟨db, 0, none⟩) n n] 29)).alloc (.cells (madeCells #[.int .i64 0, .int .i64 0, .int .i64 0] (d * 3)) 189)) (.int .i64 ((d : Int) - 1)) 3; simpa only [World.size_alloc] using h
  have hw9 : Below w.heap.size w ((((w2.alloc (.cells #[.slice (some ⟨db, 0, none⟩) n n] 29)).alloc (.cells (madeCells #[.int .i64 0, .int .i64 0, .int .i64 0] (d * 3)) 189)).alloc (.cells #[.int .i64 ((d : Int) - 1)] 3))) := (hw8.alloc (by simp; omega) _).alloc (by simp; omega) _
  have HR9 := Lib.hid ((HR.out.alloc (.cells (madeCells #[.int .i64 0, .int .i64 0, .int .i64 0] (d * 3)) 189)).alloc (.cells #[.int .i64 ((d : Int) - 1)] 3))
  obtain ⟨WW, hWW⟩ : ∃ W, W = wayTo ms D d t := ⟨_, rfl⟩
  have HTD : Hid (TripDn (w2.heap.size + 1) 189 ((((w2.alloc (.cells #[.slice (some ⟨db, 0, none⟩) n n] 29)).alloc (.cells (madeCells #[.int .i64 0, .int .i64 0, .int .i64 0] (d * 3)) 189)).alloc (.cells #[.int .i64 ((d : Int) - 1)] 3))) d d (fun i => .int .i64 (mvF (toMv ms WW) i)) (fun i => .int .i64 (mvB (toMv ms WW) i)) (fun i => .int .i64 (mvT (toMv ms WW) i))) := by
    obtain ⟨f, hf⟩ := rowIs_size (w := w2.alloc (.cells #[.slice (some ⟨db, 0, none⟩) n n] 29)) (t := 189) (size_madeCells #[.int .i64 0, .int .i64 0, .int .i64 0] (d * 3))
    refine ⟨f, ?_, fun i hi hi2 => absurd hi2 (by omega)⟩
    have h := hf.alloc (.cells #[.int .i64 ((d : Int) - 1)] 3)
    simpa using h
  have HWW := Lib.hid hWW
  have hwy : WayOf ms D WW d t := ⟨[], by rw [hWW, List.append_nil]⟩
  have HWY := Lib.hid hwy; clear hWW hwy
  clear x5' f5' x8' cdt HR h8 hw8 hmk hw2 hw1
  generalize (((w2.alloc (.cells #[.slice (some ⟨db, 0, none⟩) n n] 29)).alloc (.cells (madeCells #[.int .i64 0, .int .i64 0, .int .i64 0] (d * 3)) 189)).alloc (.cells #[.int .i64 ((d : Int) - 1)] 3)) = W9 at x5 f5 x8 x10 f10 hw9 HR9 HTD ⊢
  go_loopw [10] (fun pv wr => ∃ (e a b10 : Nat), e ≤ d ∧ a < n ∧ pv = .pointer (some ⟨b10, 0, none⟩) ∧ w2.heap.size + 1 < b10 ∧ wr.cell? ⟨b10, 0, none⟩ = some (.int .i64 ((e : Int) - 1)) ∧ wr.frozen? ⟨b10, 0, none⟩ = false ∧ wr.cell? ⟨w.heap.size, 0, none⟩ = some (.int .i64 (a : Int)) ∧ wr.frozen? ⟨w.heap.size, 0, none⟩ = false ∧
      wr.cell? ⟨w2.heap.size, 0, none⟩ = some (.slice (some ⟨db, 0, none⟩) n n) ∧ Hid (wr.rowIs db 3 n (dV D)) ∧ Hid (TripDn (w2.heap.size + 1) 189 wr d e (fun i => .int .i64 (mvF (toMv ms WW) i)) (fun i => .int .i64 (mvB (toMv ms WW) i)) (fun i => .int .i64 (mvT (toMv ms WW) i))) ∧ Hid (D a = (e : Int)) ∧ Hid (WayOf ms D WW e a) ∧ Below w.heap.size w wr)
    (fun pv wr => (intOf (atPtr wr pv) + 1).toNat)
  case atStart => exact ⟨d, t, _, Nat.le_refl _, ht, rfl, by omega, x10, f10, x5, f5, x8, HR9.out, HTD.out, HDT.out, HWY.out, hw9⟩
  case round =>
    clear x5 f5 x8 x10 f10 hw9 HR9 HTD HWY
    obtain ⟨e, a, b10, he, ha, rfl, hb10, x10, f10, x5, f5, x8, hrow, htd, hDa, hway, hbr⟩ := hrel
    by_cases he0 : e = 0
    · subst he0
      have e1 : ((0 : Nat) : Int) - 1 = -1 := by omega
      rw [e1] at x10
      go_wp2_with fail
      go_ret2
      refine ⟨D, HD.out, fun h => absurd h (by rw [HDT.out]; omega), fun _ => ⟨_, rfl, ?_⟩, hbr⟩
      have h := htd.out.read
      rw [HDT.out, Int.toNat_natCast, ← HWW.out]
      unfold MovesAt
      rw [toMv_length, HWW.out, wayTo_length, ← HWW.out]
      exact TripsAt.low h (by omega)
    obtain ⟨e', rfl⟩ : ∃ e', e = e' + 1 := ⟨e - 1, by omega⟩
    have e1 : ((e' + 1 : Nat) : Int) - 1 = (e' : Int) := by omega
    rw [e1] at x10
    have HM0 := Lib.hid (atPtr_eq x10)
    clear e1 he0
    have hD1 : D a = (e' : Int) + 1 := by rw [hDa.out]; omega
    have hst := stepAt_some HD.out HIN.out (by omega) ha hD1
    have hnx := hway.out.next
    have hbf : ∀ j, j < stepAt ms D a e' → stepOk ms D a e' j = false := fun j hj => stepAt_bef hj
    obtain ⟨k0, hk0⟩ : ∃ k, k = stepAt ms D a e' := ⟨_, rfl⟩
    rw [← hk0] at hst hnx hbf
    clear hk0 hDa hD1 hway
    have hso := stepOk_iff.1 hst.2
    have hmg := toMv_get (ms := ms) hnx.1
    have hfb := HIN.out k0 hst.1
    have HBF := Lib.hid hbf; clear hbf
    have HSO := Lib.hid hst.2
    have hk0l := hst.1
    have HNX := Lib.hid hnx.2
    clear hnx hst
    obtain ⟨ao, cap, hvv, hc, hz⟩ := HV.out
    injection hvv with e1 e2 e3
    subst e1; subst e3
    clear e2 hc
    rcases hz with h0 | ⟨b, off, rfl, hlo, hcell⟩
    · omega
    obtain ⟨q0, q1, q2⟩ := hcell k0 hk0l
    have d0 := Carries.of lo hbr _ _ hlo q0
    have d1 := Carries.of lo hbr _ _ hlo q1
    have d2 := Carries.of lo hbr _ _ hlo q2
    have zb : b < w.heap.size := cell_old q0
    clear hcell q0 q1 q2
    go_wp2_with fail
    refine (IndexFuncMv3_any _ ms _ _ _ _ (stepOk ms D a e') k0 wr lo (HV.out.keep (Carries.of lo hbr)) (by rw [← HNM.out]; exact hl) hk0l HBF.out HSO.out (fun _ _ => rfl)
      (fun k hk w1 hb => pathClo_any _ _ _ (a : Int) (e' : Int) n db _ _ _ D w1 hn (HIN.out k hk).1 (cell_carry x5 (Carries.of 0 hb)) (cell_carry x8 (Carries.of 0 hb)) (cell_carry x10 (Carries.of 0 hb)) (hrow.out.of_block (hb.block _ hrow.out.lt)))).mono ?_
    rintro e w3 ⟨rfl, hb⟩
    have hb3 : Below w.heap.size w w3 := hbr.trans (hb.mono hbr.size)
    have f5 := frozen_carry f5 x5 hb
    have f10 := frozen_carry f10 x10 hb
    have x5 := cell_carry x5 (Carries.of 0 hb)
    have x8 := cell_carry x8 (Carries.of 0 hb)
    have x10 := cell_carry x10 (Carries.of 0 hb)
    have d0 := cell_carry d0 (Carries.of 0 hb)
    have d1 := cell_carry d1 (Carries.of 0 hb)
    have d2 := cell_carry d2 (Carries.of 0 hb)
    have HR3 := Lib.hid (hrow.out.of_block (hb.block _ hrow.out.lt))
    have htd3 := htd.out.keep (hb.block _ htd.out.lt)
    clear hb hbr hrow htd
    obtain ⟨y0, y1, y2, u0, u1, u2, g0, g1, g2⟩ := htd3.cells (i := e') (by omega)
    have HTD := Lib.hid htd3; clear htd3
    try dsimp only at d0 d1 d2
    have hk0n : k0 < nm := by rw [HNM.out]; exact hk0l
    go_wp2_with fail
    go_region
    have x5 := (far3 (w := w3) (b := w2.heap.size + 1) (a := ⟨w.heap.size, 0, none⟩) (o0 := e' * 3) (o1 := e' * 3 + 1) (o2 := e' * 3 + 2) (v0 := .int .i64 (mvF ms k0)) (v1 := .int .i64 (mvB ms k0)) (v2 := .int .i64 (a : Int)) (by show w2.heap.size + 1 ≠ w.heap.size; omega)).trans x5
    have x8 := (far3 (w := w3) (b := w2.heap.size + 1) (a := ⟨w2.heap.size, 0, none⟩) (o0 := e' * 3) (o1 := e' * 3 + 1) (o2 := e' * 3 + 2) (v0 := .int .i64 (mvF ms k0)) (v1 := .int .i64 (mvB ms k0)) (v2 := .int .i64 (a : Int)) (by show w2.heap.size + 1 ≠ w2.heap.size; omega)).trans x8
    have x10 := (far3 (w := w3) (b := w2.heap.size + 1) (a := ⟨b10, 0, none⟩) (o0 := e' * 3) (o1 := e' * 3 + 1) (o2 := e' * 3 + 2) (v0 := .int .i64 (mvF ms k0)) (v1 := .int .i64 (mvB ms k0)) (v2 := .int .i64 (a : Int)) (by show w2.heap.size + 1 ≠ b10; omega)).trans x10
    have d0 := (far3 (w := w3) (b := w2.heap.size + 1) (a := ⟨b, off + k0 * 3, none⟩) (o0 := e' * 3) (o1 := e' * 3 + 1) (o2 := e' * 3 + 2) (v0 := .int .i64 (mvF ms k0)) (v1 := .int .i64 (mvB ms k0)) (v2 := .int .i64 (a : Int)) (by show w2.heap.size + 1 ≠ b; omega)).trans d0
    have f5 := (froz3 (w := w3) (b := w2.heap.size + 1) (a := ⟨w.heap.size, 0, none⟩) (o0 := e' * 3) (o1 := e' * 3 + 1) (o2 := e' * 3 + 2) (v0 := .int .i64 (mvF ms k0)) (v1 := .int .i64 (mvB ms k0)) (v2 := .int .i64 (a : Int)) (by show w2.heap.size + 1 ≠ w.heap.size; omega)).trans f5
    have HR4 : Hid (((((w3.setCell ⟨w2.heap.size + 1, e' * 3, none⟩ (.int .i64 (mvF ms k0))).setCell ⟨w2.heap.size + 1, e' * 3 + 1, none⟩ (.int .i64 (mvB ms k0))).setCell ⟨w2.heap.size + 1, e' * 3 + 2, none⟩ (.int .i64 (a : Int))).drew).rowIs db 3 n (dV D)) := (((HR3.out.setOther (a := ⟨w2.heap.size + 1, e' * 3, none⟩) (by show db ≠ w2.heap.size + 1; omega) _).setOther (a := ⟨w2.heap.size + 1, e' * 3 + 1, none⟩) (by show db ≠ w2.heap.size + 1; omega) _).setOther (a := ⟨w2.heap.size + 1, e' * 3 + 2, none⟩) (by show db ≠ w2.heap.size + 1; omega) _).drew
    have HP : Hid (TripDn (w2.heap.size + 1) 189 ((((w3.setCell ⟨w2.heap.size + 1, e' * 3, none⟩ (.int .i64 (mvF ms k0))).setCell ⟨w2.heap.size + 1, e' * 3 + 1, none⟩ (.int .i64 (mvB ms k0))).setCell ⟨w2.heap.size + 1, e' * 3 + 2, none⟩ (.int .i64 (a : Int))).drew) d e' (fun i => .int .i64 (mvF (toMv ms WW) i)) (fun i => .int .i64 (mvB (toMv ms WW) i)) (fun i => .int .i64 (mvT (toMv ms WW) i))) :=
      (HTD.out.put (by rw [hmg.1]) (by rw [hmg.2.1]) (by rw [hmg.2.2, hso.1])).keep rfl
    have hb4 : Below w.heap.size w ((((w3.setCell ⟨w2.heap.size + 1, e' * 3, none⟩ (.int .i64 (mvF ms k0))).setCell ⟨w2.heap.size + 1, e' * 3 + 1, none⟩ (.int .i64 (mvB ms k0))).setCell ⟨w2.heap.size + 1, e' * 3 + 2, none⟩ (.int .i64 (a : Int))).drew) := (((hb3.setCell (p := ⟨w2.heap.size + 1, e' * 3, none⟩) (by show w.heap.size ≤ w2.heap.size + 1; omega) _).setCell (p := ⟨w2.heap.size + 1, e' * 3 + 1, none⟩) (by show w.heap.size ≤ w2.heap.size + 1; omega) _).setCell (p := ⟨w2.heap.size + 1, e' * 3 + 2, none⟩) (by show w.heap.size ≤ w2.heap.size + 1; omega) _).drew
    clear HR3 HTD hb3 u0 u1 u2 g0 g1 g2 d1 d2 f10 hmg
    generalize ((((w3.setCell ⟨w2.heap.size + 1, e' * 3, none⟩ (.int .i64 (mvF ms k0))).setCell ⟨w2.heap.size + 1, e' * 3 + 1, none⟩ (.int .i64 (mvB ms k0))).setCell ⟨w2.heap.size + 1, e' * 3 + 2, none⟩ (.int .i64 (a : Int))).drew) = S at x5 x8 x10 d0 f5 HR4 HP hb4 ⊢
    obtain ⟨fn, hfn⟩ := Int.eq_ofNat_of_zero_le hfb.1.1
    have hDf := hso.2
    have hnx := HNX.out
    have hfl := hfb.1.2
    rw [hfn] at d0 hfl
    rw [hfn, Int.toNat_natCast] at hDf hnx
    have HDF := Lib.hid hDf
    have HNX2 := Lib.hid hnx
    clear hfb hso hfn hDf hnx HNX HSO
    have hfn1 : fn < n := by omega
    have x10b := (World.cell?_setCell_other S ⟨w.heap.size, 0, none⟩ ⟨b10, 0, none⟩ (.int .i64 (fn : Int)) (fun h => by injection h; omega)).trans x10
    have x8b := (World.cell?_setCell_other S ⟨w.heap.size, 0, none⟩ ⟨w2.heap.size, 0, none⟩ (.int .i64 (fn : Int)) (fun h => by injection h; omega)).trans x8
    have hb5 : Below w.heap.size w (S.setCell ⟨w.heap.size, 0, none⟩ (.int .i64 (fn : Int))) := hb4.setCell (p := ⟨w.heap.size, 0, none⟩) (Nat.le_refl _) _
    have HR5 := Lib.hid (HR4.out.setOther (a := ⟨w.heap.size, 0, none⟩) (by show db ≠ w.heap.size; omega) (.int .i64 (fn : Int)))
    have HP5 := Lib.hid (HP.out.setOther (a := ⟨w.heap.size, 0, none⟩) (by show w2.heap.size + 1 ≠ w.heap.size; omega) (.int .i64 (fn : Int)))
    clear HR4 HP
    go_wp2_with fail
    have zS : b10 < S.heap.size := cell_old x10
    have hbA : Below (S.setCell ⟨w.heap.size, 0, none⟩ (.int .i64 (fn : Int))).heap.size (S.setCell ⟨w.heap.size, 0, none⟩ (.int .i64 (fn : Int))) ((S.setCell ⟨w.heap.size, 0, none⟩ (.int .i64 (fn : Int))).alloc (.cells #[.int .i64 ((e' : Int) - 1)] 3)) := (Below.refl _ _).alloc (Nat.le_refl _) _
    have n10 : ((S.setCell ⟨w.heap.size, 0, none⟩ (.int .i64 (fn : Int))).alloc (.cells #[.int .i64 ((e' : Int) - 1)] 3)).cell? ⟨S.heap.size, 0, none⟩ = some (.int .i64 ((e' : Int) - 1)) := by
      have h := cell_new1 (S.setCell ⟨w.heap.size, 0, none⟩ (.int .i64 (fn : Int))) (.int .i64 ((e' : Int) - 1)) 3
      simpa only [World.size_setCell] using h
    have g10 : ((S.setCell ⟨w.heap.size, 0, none⟩ (.int .i64 (fn : Int))).alloc (.cells #[.int .i64 ((e' : Int) - 1)] 3)).frozen? ⟨S.heap.size, 0, none⟩ = false := by
      have h := froz_new1 (S.setCell ⟨w.heap.size, 0, none⟩ (.int .i64 (fn : Int))) (.int .i64 ((e' : Int) - 1)) 3
      simpa only [World.size_setCell] using h
    have n5' : (S.setCell ⟨w.heap.size, 0, none⟩ (.int .i64 (fn : Int))).cell? ⟨w.heap.size, 0, none⟩ = some (.int .i64 (fn : Int)) := World.cell?_setCell_same _ _ _ x5
    have g5' : (S.setCell ⟨w.heap.size, 0, none⟩ (.int .i64 (fn : Int))).frozen? ⟨w.heap.size, 0, none⟩ = false := by simpa using f5
    have n5 := cell_carry n5' (Carries.of 0 hbA)
    have g5 := frozen_carry g5' n5' hbA
    have n8 := cell_carry x8b (Carries.of 0 hbA)
    have HR6 := Lib.hid (HR5.out.alloc (.cells #[.int .i64 ((e' : Int) - 1)] 3))
    have HP6 := Lib.hid (HP5.out.alloc (.cells #[.int .i64 ((e' : Int) - 1)] 3))
    have hb6 := hb5.alloc (by simp; omega) (.cells #[.int .i64 ((e' : Int) - 1)] 3)
    have HB6 := Lib.hid hb6
    have HMN := Lib.hid (atPtr_eq n10)
    clear hb6 hb5 hbA n5' g5' x8b
    go_roundw
    case rel => exact ⟨e', fn, S.heap.size, by omega, hfn1, rfl, by omega, n10, g10, n5, g5, n8, HR6.out, HP6.out, HDF.out, HNX2.out, HB6.out⟩
    case measure =>
      have h1 := HM0.out
      have h2 := HMN.out
      try dsimp only [Array.getD]
      first
        | (rw [show atPtr _ _ = _ from h2, show atPtr _ _ = _ from h1]; show ((e' : Int) - 1 + 1).toNat < ((e' : Int) + 1).toNat; omega)
        | (simp [h1, h2, intOf]; omega)

end Go.Proofs.YtnmoocgocnjdjaaGreat
