/- WALK: Fire of the model.
   WALKS: readMarking, writeMarking. -/
import Derived.Test.YtkkfglolameogaaVSfire
namespace Go.Proofs.Ytkkfglolameogaa
open Go.RowKit

/-- the transition of that number -/
def trOf (n : NetD) (t : Int) : Tr := n.ts.getD t.toNat ([], [])
def canB (n : NetD) (s : ByteArray) (t : Int) : Bool := goodN n && (markB n s && (inT n t && readyB (bytes s) (trOf n t).1))
def fireOk (n : NetD) (s : ByteArray) (t : Int) : Bool := canB n s t && postB (restB s (trOf n t)) (trOf n t).2
def fireS (n : NetD) (s : ByteArray) (t : Int) : List UInt8 := if canB n s t = true then fired s (trOf n t) else []

theorem good_tr {n : NetD} (hg : goodN n = true) {t : Nat} (ht : t < n.ts.length) : InS n.places (n.ts.getD t ([], [])).1 ∧ InS n.places (n.ts.getD t ([], [])).2 ∧ (n.ts.getD t ([], [])).1.Pairwise (· < ·) ∧ (n.ts.getD t ([], [])).2.Pairwise (· < ·) := by
  obtain ⟨_, _, _, h4⟩ := goodN_parts hg
  exact ⟨riseB_inS (h4 t ht).2.1, riseB_inS (h4 t ht).2.2, riseB_sorted (h4 t ht).2.1, riseB_sorted (h4 t ht).2.2⟩
theorem mark_size {n : NetD} {s : ByteArray} (h : markB n s = true) : (s.size : Int) = n.places := by
  unfold markB at h
  simp only [Bool.and_eq_true, decide_eq_true_eq] at h
  exact h.2

theorem fire_no {n : NetD} {s : ByteArray} {t : Int} (h : canB n s t = false) : fireS n s t = [] ∧ fireOk n s t = false := by
  unfold fireS fireOk; rw [h]; exact ⟨rfl, rfl⟩
theorem fire_yes {n : NetD} {s : ByteArray} {t : Int} (h : canB n s t = true) : fireS n s t = fired s (trOf n t) ∧ fireOk n s t = postB (restB s (trOf n t)) (trOf n t).2 := by
  unfold fireS fireOk; rw [h]; exact ⟨rfl, rfl⟩

set_option maxRecDepth 100000 in
set_option maxHeartbeats 2000000 in
theorem specFire_any (v : Value) (n : NetD) (s : ByteArray) (t : Int) (w : World) (lo : Nat) (hv : NetAt lo w v n) (hs : SmallTrs n.ts) (hsz : s.size ≤ 1048576) :
    Calls Try.prog 34 #[v, .string s, .int .i64 t] w (RetV w (.tuple #[.string (bstr (fireS n s t)), .bool (fireOk n s t)])) := by
  generalize hFS : fireS n s t = F
  generalize hFO : fireOk n s t = O
  have HFS := Lib.hid hFS; clear hFS
  have HFO := Lib.hid hFO; clear hFO
  have hv' := hv
  obtain ⟨hp0, hp1, q, rfl, ht⟩ := hv'
  obtain ⟨ao, cap, rfl, hc, hz⟩ := ht
  obtain ⟨p, hp⟩ : ∃ p, p = n.places := ⟨_, rfl⟩
  obtain ⟨m, hm⟩ : ∃ m, m = n.ts.length := ⟨_, rfl⟩
  rw [← hp, ← hm] at hv ⊢
  have hmm : m ≤ 1048576 := by rw [hm]; exact hs.1
  have Hm := Lib.hid hm
  clear hz hc hp0 hp1 hp hm
  have HV := Lib.hid hv; clear hv
  have HS := Lib.hid hs; clear hs
  go_enter Try.func34, Try.ntmps34
  go_wp2_with fail
  refine (l1Good_any _ n _ lo (HV.out.keep ?_) HS.out).mono ?_
  · (repeat' (first | (with_reducible exact Carries.refl _ _) | (with_reducible assumption) | (with_reducible refine Carries.alloc ?_ _) | (with_reducible refine Carries.drew ?_) | (with_reducible refine Carries.drewN ?_ _) | (with_reducible refine Carries.set ?_ ?_ _) | go_size))
  rintro e w1 ⟨rfl, hb⟩
  have hw1 : Below w.heap.size w w1 := by
    refine Below.trans ?_ (hb.mono ?_)
    · (repeat' (first | (with_reducible exact Below.refl _ _) | (with_reducible assumption) | (with_reducible refine Below.alloc ?_ ?_ _) | (with_reducible refine Below.drew ?_) | (with_reducible refine below_drewN ?_ _) | (with_reducible refine Below.setCell ?_ ?_ _) | go_size))
    · simp
  have a0 : w1.cell? ⟨w.heap.size, 0, none⟩ = some (.int .i64 p) := cell_carry (by simp) (Carries.of 0 hb)
  have a1 : w1.cell? ⟨w.heap.size, 1, none⟩ = some (.slice ao m cap) := cell_carry (by simp) (Carries.of 0 hb)
  clear hb
  cases hg : goodN n with
  | false =>
    have hcf : canB n s t = false := by unfold canB; rw [hg]; rfl
    obtain ⟨k1, k2⟩ := fire_no hcf
    rw [HFS.out] at k1; rw [HFO.out] at k2
    subst k1; subst k2
    clear hcf
    clear hg
    go_wp2_with fail
    go_ret2
    exact ⟨rfl, hw1⟩
  | true =>
  have HG := Lib.hid hg; clear hg
  go_wp2_with fail
  refine (l1Mark_any _ n s _ lo (HV.out.keep (Carries.of lo hw1)) hsz).mono ?_
  rintro e w2 ⟨rfl, hb⟩
  have hw2 : Below w.heap.size w w2 := hw1.trans (hb.mono hw1.size)
  have a2 := cell_carry a0 (Carries.of 0 hb)
  have a3 := cell_carry a1 (Carries.of 0 hb)
  clear hb a0 a1
  cases hg : markB n s with
  | false =>
    have hcf : canB n s t = false := by unfold canB; rw [HG.out, hg]; rfl
    obtain ⟨k1, k2⟩ := fire_no hcf
    rw [HFS.out] at k1; rw [HFO.out] at k2
    subst k1; subst k2
    clear hcf
    clear hg
    go_wp2_with fail
    go_ret2
    exact ⟨rfl, hw2⟩
  | true =>
  have HM := Lib.hid hg; clear hg
  go_wp2_with fail
  refine (l1In_any _ _ _ _).mono ?_
  rintro e w3 ⟨rfl, hb⟩
  have hw3 : Below w.heap.size w w3 := hw2.trans (hb.mono hw2.size)
  have a4 := cell_carry a2 (Carries.of 0 hb)
  have a5 := cell_carry a3 (Carries.of 0 hb)
  clear hb a2 a3
  have hin : decide (0 ≤ t ∧ t ≤ (m : Int) - 1) = inT n t := by rw [Hm.out]; exact inT_le n t
  rw [hin]
  clear hin
  cases hg : inT n t with
  | false =>
    have hcf : canB n s t = false := by unfold canB; rw [HG.out, HM.out, hg]; rfl
    obtain ⟨k1, k2⟩ := fire_no hcf
    rw [HFS.out] at k1; rw [HFO.out] at k2
    subst k1; subst k2
    clear hcf
    clear hg
    go_wp2_with fail
    go_ret2
    exact ⟨rfl, hw3⟩
  | true =>
  have ht3 : 0 ≤ t ∧ t < n.ts.length := of_decide_eq_true hg
  have HT := Lib.hid hg; clear hg
  obtain ⟨ht0, ht1⟩ := ht3
  obtain ⟨tn, rfl⟩ := Int.eq_ofNat_of_zero_le ht0
  have ht2 : tn < n.ts.length := by omega
  have hgt := good_tr HG.out ht2
  rw [← mark_size HM.out] at hgt
  have HGT := Lib.hid hgt; clear hgt
  have HT2 := Lib.hid ht2; clear ht0 ht1 ht2
  go_wp2_with fail
  refine (l1Ready_any _ n s tn _ lo (HV.out.keep (Carries.of lo hw3)) HS.out HT2.out HGT.out.1 hsz).mono ?_
  rintro e w4 ⟨rfl, hb⟩
  have hw4 : Below w.heap.size w w4 := hw3.trans (hb.mono hw3.size)
  have a6 := cell_carry a4 (Carries.of 0 hb)
  have a7 := cell_carry a5 (Carries.of 0 hb)
  clear hb a4 a5
  have htr : trOf n (tn : Int) = n.ts.getD tn ([], []) := by unfold trOf; rw [Int.toNat_natCast]
  have HTR := Lib.hid htr; clear htr
  cases hg : readyB (bytes s) (n.ts.getD tn ([], [])).1 with
  | false =>
    have hcf : canB n s (tn : Int) = false := by unfold canB; rw [HG.out, HM.out, HT.out, HTR.out, hg]; rfl
    obtain ⟨k1, k2⟩ := fire_no hcf
    rw [HFS.out] at k1; rw [HFO.out] at k2
    subst k1; subst k2
    clear hcf
    clear hg
    go_wp2_with fail
    go_ret2
    exact ⟨rfl, hw4⟩
  | true =>
  have hcf : canB n s (tn : Int) = true := by unfold canB; rw [HG.out, HM.out, HT.out, HTR.out, hg]; rfl
  obtain ⟨k1, k2⟩ := fire_yes hcf
  rw [HFS.out, HTR.out] at k1
  rw [HFO.out, HTR.out] at k2
  have K1 := Lib.hid k1; clear k1
  have K2 := Lib.hid k2; clear k2
  clear hg hcf
  go_wp2_with fail
  refine (l1Fire_any _ n s tn _ lo (HV.out.keep (Carries.of lo hw4)) HS.out HT2.out HGT.out.1 HGT.out.2.1 HGT.out.2.2.2 hsz).mono ?_
  rintro e w5 ⟨rfl, hb⟩
  have hw5 : Below w.heap.size w w5 := hw4.trans (hb.mono hw4.size)
  clear hb a6 a7
  rw [← K1.out, ← K2.out]
  go_wp2_with fail
  go_ret2
  exact ⟨rfl, hw5⟩

end Go.Proofs.Ytkkfglolameogaa

namespace Go.Proofs.Ytkkfglolameogaa
open Go.RowKit

def pad (bs : List UInt8) : List UInt8 := bs ++ List.replicate (30 - bs.length) 0
theorem pad_length {bs : List UInt8} (h : bs.length ≤ 30) : (pad bs).length = 30 := by simp [pad]; omega

theorem run_copy_row_string (w : World) (ty : TypeId) (g : Nat) (s : ByteArray) (hs : s.size ≤ 30) (h : ArrAt w g zeros) :
    (Builtin.copy_ #[54, 9] ty #[.slice (some ⟨g, 0, none⟩) 30 30, .string s]).run Try.prog w = .ok (goInt s.size) (w.setRow g (arr (pad (bytes s))).toArray) := by
  have hl : (arr (bytes s)).length = s.size := by rw [arr_length, bytes_length]
  have hst := run_storeCells_at (P := Try.prog) g 0 118 (arr (bytes s)) 0 _ w h.1 (by rw [hl, List.size_toArray, arr_length, zeros_length]; omega) (arr_one _)
  have hmin : Nat.min s.size 30 = s.size := Nat.min_eq_left hs
  have hz : ∀ w, (Go.sizeOf 5).run Try.prog w = .ok 1 w := fun _ => by kernel_rfl
  simp only [Nat.zero_add, Nat.add_zero] at hst
  have hrow : ((arr zeros).toArray.toList.take 0 ++ arr (bytes s) ++ (arr zeros).toArray.toList.drop (arr (bytes s)).length).toArray = (arr (pad (bytes s))).toArray := by
    rw [hl]
    simp only [List.take_zero, List.nil_append]
    have e1 : (arr zeros).drop s.size = arr (List.replicate (30 - s.size) 0) := by
      unfold arr zeros
      rw [← List.map_drop, List.drop_replicate]
    have e2 : arr (pad (bytes s)) = arr (bytes s) ++ arr (List.replicate (30 - s.size) 0) := by
      unfold arr pad
      rw [List.map_append, bytes_length]
    show (arr (bytes s) ++ (arr zeros).drop s.size).toArray = _
    rw [e1, e2]
  rw [hrow] at hst
  have e : List.take s.size (List.map (fun b => Value.int IntKind.u8 (b.toNat : Int)) s.data.toList) = arr (bytes s) := by
    rw [List.take_of_length_le (by simp)]; rfl
  simp [Builtin.copy_, run_underlying Try.underlying54, Builtin.lenOf, Builtin.firstCells, hz, hmin]
  rw [e, hst]
  rfl

theorem wpList_copy_mark {ops : Array Oper} {rest : List Oper} {o : Oper} {a : Act} {w : World} {Q : Exit → Act → World → Prop} (hgd : o.guard = none) (d x : Operand)
    (ho : o.op = .call { callee := .builtin .copy, args := #[d, x], argTypes := #[54, 9] }) (g : Nat) (s : ByteArray) (hd : a.eval d = .slice (some ⟨g, 0, none⟩) 30 30) (hx : a.eval x = .string s) (hs : s.size ≤ 30) (h : ArrAt w g zeros)
    (hK : wpList Try.prog ops Q rest (a.put o.dst (goInt s.size)) (w.setRow g (arr (pad (bytes s))).toArray)) : wpList Try.prog ops Q (o :: rest) a w :=
  wpList_plain hgd fun K hK' => by
    have hr := run_copy_row_string w o.type g s hs h
    unfold Oper.wp execOp
    simp only [ho, resolve, invoke, builtin, Sem.run_bind, Sem.run_pure, Result.andThen_ok, List.map_toArray, List.map_cons, List.map_nil, hd, hx, hr]
    exact hK' _ _ hK

set_option maxRecDepth 100000 in
set_option maxHeartbeats 1000000 in
theorem readMarking_any (s : ByteArray) (w : World) (hs : s.size ≤ 30) :
    Calls Try.prog 92 #[.string s] w (RetA w (pad (bytes s))) := by
  have hl : (pad (bytes s)).length = 30 := pad_length (by rw [bytes_length]; exact hs)
  have HA := ArrAt.new w zeros_length
  have HB := ArrAt.new (w.alloc (.cells (arr zeros).toArray 118)) zeros_length
  have HA2 := HA.after (w' := (w.alloc (.cells (arr zeros).toArray 118)).alloc (.cells (arr zeros).toArray 118)) ((Below.refl _ _).alloc (Nat.le_refl _) _)
  rw [World.size_alloc] at HB
  have HA' := Lib.hid HA2
  have HB' := Lib.hid HB
  have hbw : Below w.heap.size w ((w.alloc (.cells (arr zeros).toArray 118)).alloc (.cells (arr zeros).toArray 118)) := by (repeat' (first | (with_reducible exact Below.refl _ _) | (with_reducible assumption) | (with_reducible refine Below.alloc ?_ ?_ _) | (with_reducible refine Below.drew ?_) | (with_reducible refine below_drewN ?_ _) | (with_reducible refine Below.setCell ?_ ?_ _) | go_size))
  have HW := Lib.hid hbw
  clear HA HB HA2 hbw
  go_enter Try.func92, Try.ntmps92
  go_wp2_with (first
    | (refine wpList_copy_mark rfl (.tmp 4) (.tmp 5) rfl (w.heap.size + 1) s rfl rfl hs HB'.out ?_)
    | (refine wpList_load_row rfl 118 _ rfl (w.heap.size + 1) rfl _ _ _ _ (setRow_heap _ _ _ _ _ _ HB'.out.1) Try.underlying118 rfl (infoArr hl) ?_)
    | (refine wpList_store_row rfl 118 _ _ rfl w.heap.size _ rfl rfl _ _ ((setRow_other _ _ _ _ (by simp)).trans HA'.out.1) (infoArr hl) (by simp [arr_length, hl, zeros_length]) (arr_all _) ?_))
  refine bodyPost_ret (v := .agg (arr (pad (bytes s))).toArray) (results_cell_row rfl _ _ w.heap.size _ _ _ _ rfl (setRow_heap _ _ _ _ _ _ ((setRow_other _ _ _ _ (by simp)).trans HA'.out.1)) Try.underlying118 rfl (infoArr hl)) rfl ⟨rfl, ?_⟩
  exact below_setRow (below_setRow HW.out (by simp) _) (by simp) _

theorem load_arr {w : World} {g : Nat} {xs : List UInt8} (h : ArrAt w g xs) : (loadCells ⟨g, 0, none⟩ 30).run Try.prog w = .ok (arr xs).toArray w := by
  have := run_loadCells_list (P := Try.prog) w ⟨g, 0, none⟩ (arr xs) (fun j v hv => by rw [Addr.add_mid]; exact h.range j v hv)
  rw [arr_length, h.2] at this
  exact this

theorem ArrAt.string {w : World} {g : Nat} {xs : List UInt8} (h : ArrAt w g xs) (n cap : Nat) (hn : n ≤ 30) : (convert 54 9 (.slice (some ⟨g, 0, none⟩) n cap)).run Try.prog w = .ok (.string (bstr (xs.take n))) w := by
  rw [run_convert_bytes_string w 54 9 5 _ _ _ Try.underlying54 Try.underlying5 Try.underlying9]
  have hlen : ((xs.take n).map (fun b => (b.toNat : Int))).length = n := by simp; have := h.2; omega
  have hl := run_loadCells_list (P := Try.prog) w ⟨g, 0, none⟩ (((xs.take n).map (fun b => (b.toNat : Int))).map (Value.int .u8)) (fun j v hv => by
    have hj : j < n := by have := (List.getElem?_eq_some_iff.1 hv).1; rw [List.length_map, hlen] at this; exact this
    rw [Addr.add_mid, Nat.zero_add, h.cell (by omega)]
    rw [← hv]
    have hj2 : j < xs.length := by rw [h.2]; omega
    simp [hj, hj2, List.getD])
  rw [List.length_map, hlen] at hl
  rw [run_bytesToString w ⟨g, 0, none⟩ n cap _ hl, foldl_push]
  congr 2
  simp [bstr, ByteArray.empty, ByteArray.emptyWithCapacity]
  rfl

theorem slice_arr (g p : Nat) (hp : p ≤ 30) (W : World) : (Instr.sliceAt 118 (.pointer (some ⟨g, 0, none⟩)) none (some (.int .i64 (p : Int))) none).run Try.prog W = .ok (.slice (some ⟨g, 0, none⟩) p 30) W := by
  have hb : (Instr.sliceBound (.int .i64 (p : Int)) 30 .sliceAlen).run Try.prog W = .ok p W := by
    have h1 : (0 : Int) ≤ (p : Int) ∧ (p : Int) ≤ ((30 : Nat) : Int) := ⟨by omega, by omega⟩
    simp [Instr.sliceBound, asIntOf, h1.1, h1.2]
    omega
  have hz : ∀ w, (Go.sizeOf 5).run Try.prog w = .ok 1 w := fun _ => by kernel_rfl
  simp [Instr.sliceAt, Instr.sureAddr, slicedAt, run_underlying Try.underlying118, Instr.sliceBounds, hb, sliced, hz]
  rfl

set_option maxRecDepth 100000 in
set_option maxHeartbeats 1000000 in
theorem writeMarking_any (p : Nat) (u : Value) (xs : List UInt8) (hx : xs.length = 30) (w : World) (hp : p ≤ 30) (ao : Option Addr) (m cap : Nat) (hu : u = .slice ao m cap) :
    Calls Try.prog 93 #[.agg #[.int .i64 p, u], .agg (arr xs).toArray] w (RetV w (.string (bstr (xs.take p)))) := by
  subst hu
  have hA := ArrAt.new (w.alloc (.cells #[.int .i64 p, .slice ao m cap] 32)) hx
  rw [World.size_alloc] at hA
  have kc := hA.string p 30 hp
  have HA := Lib.hid hA; clear hA
  have ks : ∀ W : World, (Instr.sliceAt 118 (.pointer (some ⟨w.heap.size + 1, 0, none⟩)) none (some (.int .i64 (p : Int))) none).run Try.prog W = .ok (.slice (some ⟨w.heap.size + 1, 0, none⟩) p 30) W := fun W => slice_arr _ p hp W
  go_enter Try.func93, Try.ntmps93
  go_wp2_with fail
  go_ret
  exact ⟨rfl, by (repeat' (first | (with_reducible exact Below.refl _ _) | (with_reducible assumption) | (with_reducible refine Below.alloc ?_ ?_ _) | (with_reducible refine Below.drew ?_) | (with_reducible refine below_drewN ?_ _) | (with_reducible refine Below.setCell ?_ ?_ _) | go_size))⟩

end Go.Proofs.Ytkkfglolameogaa
