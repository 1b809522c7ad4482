/- WALK: l1Fire of the model.
   WALK: Fire of the model. -/
import Derived.Test.YtigkgfdnnfmmmaaVByte
import Derived.Lib.ConvBytes
import Derived.Laws.BytesString
namespace Go.Proofs.Ytigkgfdnnfmmmaa
open Go.RowKit

/-- block g holds the bytes bs (a conversion's row) -/
def BAt (w : World) (g : Nat) (bs : List UInt8) : Prop := ∃ C : Array Value, w.heap[g]? = some (.cells C 5 (C.size, C.size + 1)) ∧ bs.length ≤ C.size ∧ ∀ i, i < bs.length → C[i]? = some (.int .u8 ((bs.getD i 0).toNat : Int))

theorem BAt.lt {w : World} {g : Nat} {bs : List UInt8} (h : BAt w g bs) : g < w.heap.size := by
  obtain ⟨C, h1, _⟩ := h; exact (Array.getElem?_eq_some_iff.1 h1).1
theorem BAt.cell {w : World} {g : Nat} {bs : List UInt8} (h : BAt w g bs) {q : Nat} (hq : q < bs.length) : w.cell? ⟨g, q, none⟩ = some (.int .u8 ((bs.getD q 0).toNat : Int)) := by
  obtain ⟨C, h1, _, h3⟩ := h
  rw [cell_of_row w g q C _ _ h1]; exact h3 q hq
theorem BAt.frozen {w : World} {g : Nat} {bs : List UInt8} (h : BAt w g bs) {q : Nat} (hq : q < bs.length) : w.frozen? ⟨g, q, none⟩ = false := by
  obtain ⟨C, h1, h2, _⟩ := h
  simp only [World.frozen?, h1]
  rw [Bool.and_eq_false_iff]; left
  rw [decide_eq_false_iff_not]; omega
theorem BAt.put {w : World} {g : Nat} {bs : List UInt8} (h : BAt w g bs) (q : Nat) (v : UInt8) : BAt (w.setCell ⟨g, q, none⟩ (.int .u8 (v.toNat : Int))) g (bs.set q v) := by
  obtain ⟨C, h1, h2, h3⟩ := h
  refine ⟨C.setIfInBounds q (.int .u8 (v.toNat : Int)), ?_, by simpa using h2, fun i hi => ?_⟩
  · rw [setCell_eq_setRow w g q C _ _ _ h1, setRow_heap w g C _ _ _ h1]; simp
  · rw [List.length_set] at hi
    rw [Array.getElem?_setIfInBounds, set_getD _ _ _ _ hi]
    by_cases e : q = i
    · subst e; simp; omega
    · rw [if_neg e, if_neg e]; exact h3 i hi
theorem BAt.new (w : World) (s : ByteArray) : BAt (Lib.bytesWorld w 5 s) w.heap.size (bytes s) := by
  refine ⟨_, Lib.bytesWorld_at_new w _ s, ?_, fun i hi => ?_⟩
  · rw [bytes_length]; simp [Lib.bytesCells]
  · rw [bytes_length] at hi
    have h := Lib.bytesWorld_cell w 5 s i hi
    rw [cell_of_row _ _ _ _ _ _ (Lib.bytesWorld_at_new w _ s)] at h
    exact h
theorem below_bytesWorld {B : Nat} {a w : World} (h : Below B a w) (hB : B ≤ w.heap.size) (s : ByteArray) : Below B a (Lib.bytesWorld w 5 s) :=
  h.trans ⟨rfl, rfl, rfl, by rw [Lib.bytesWorld_size]; omega, fun k hk => Lib.bytesWorld_at_old w _ s k (by omega)⟩

theorem BAt.string {w : World} {g : Nat} {bs : List UInt8} (h : BAt w g bs) (n cap : Nat) (hn : n = bs.length) : (convert 154 9 (.slice (some ⟨g, 0, none⟩) n cap)).run Try.prog w = .ok (.string (bstr bs)) w := by
  subst hn
  rw [run_convert_bytes_string w 154 9 5 _ _ _ Try.underlying154 Try.underlying5 Try.underlying9]
  have hl := run_loadCells_list (P := Try.prog) w ⟨g, 0, none⟩ ((bs.map (fun b => (b.toNat : Int))).map (Value.int .u8)) (fun j v hv => by
    have hj : j < bs.length := by have := (List.getElem?_eq_some_iff.1 hv).1; simpa using this
    rw [Addr.add_mid, Nat.zero_add, h.cell hj]
    rw [← hv]
    simp [hj, List.getD])
  rw [List.length_map, List.length_map] at hl
  rw [run_bytesToString w ⟨g, 0, none⟩ bs.length cap _ hl, foldl_push]
  congr 2
  simp [bstr, ByteArray.empty, ByteArray.emptyWithCapacity]
  rfl

/-- no place of the list is marked -/
def postB (bs : List UInt8) (ps : List Int) : Bool := ps.all fun p => !(bs.getD p.toNat 0 == 49)
theorem postB_false {bs : List UInt8} {ps : List Int} {k : Nat} (hk : k < ps.length) (h : (bs.getD (ps.getD k 0).toNat 0 == 49) = true) : postB bs ps = false := by
  unfold postB
  rw [List.all_eq_false]
  exact ⟨ps[k], List.getElem_mem hk, by rw [← getD_eq hk, h]; simp⟩
theorem postB_true {bs : List UInt8} {ps : List Int} (h : ∀ i, i < ps.length → (bs.getD (ps.getD i 0).toNat 0 == 49) = false) : postB bs ps = true := by
  unfold postB
  rw [List.all_eq_true]
  intro p hp
  obtain ⟨i, hi, rfl⟩ := List.mem_iff_getElem.1 hp
  rw [← getD_eq hi, h i hi]; rfl

/-- the bytes behind a firing, and whether it goes through -/
def restB (s : ByteArray) (X : Tr) : List UInt8 := putAll 48 (bytes s) X.1
def fired (s : ByteArray) (X : Tr) : List UInt8 := if postB (restB s X) X.2 = true then putAll 49 (restB s X) X.2 else []

theorem taken_fresh {ps : List Int} (hs : ps.Pairwise (· < ·)) {k : Nat} (hk : k < ps.length) : ps.getD k 0 ∉ ps.take k := by
  intro hm
  obtain ⟨i, hi, he⟩ := List.mem_iff_getElem.1 hm
  have hi' : i < k := by simp at hi; omega
  rw [List.getElem_take] at he
  have := List.pairwise_iff_getElem.1 hs i k (by omega) hk hi'
  rw [he, getD_eq hk] at this
  omega

set_option maxRecDepth 100000 in
set_option maxHeartbeats 2000000 in
theorem l1Fire_any (v : Value) (n : NetD) (s : ByteArray) (t : Nat) (w : World) (lo : Nat) (hv : NetAt lo w v n) (hs : SmallTrs n.ts) (ht : t < n.ts.length) (hin : InS s.size (n.ts.getD t ([], [])).1) (hin2 : InS s.size (n.ts.getD t ([], [])).2)
    (hsort : (n.ts.getD t ([], [])).2.Pairwise (· < ·)) (hsz : s.size ≤ 1048576) :
    Calls Try.prog 75 #[v, .string s, .int .i64 t] w (RetV w (.tuple #[.string (bstr (fired s (n.ts.getD t ([], [])))), .bool (postB (restB s (n.ts.getD t ([], []))) (n.ts.getD t ([], [])).2)])) := by
  obtain ⟨hp0, hp1, q, rfl, hts⟩ := hv
  obtain ⟨ao, cap, rfl, hc, hz⟩ := hts
  have hmm := hs.1
  rcases hz with hz | ⟨b, off, rfl, hlo, hcell⟩
  · rw [hz] at ht; simp at ht
  obtain ⟨x0, x1, c0, c1, hx⟩ := hcell t ht
  have sx := hs.2 t ht
  obtain ⟨X, hX⟩ : ∃ X, X = n.ts.getD t ([], []) := ⟨_, rfl⟩
  rw [← hX] at hin hin2 hsort hx sx ⊢
  clear hX hcell hs
  generalize hF : fired s X = fs
  generalize hP : postB (restB s X) X.2 = r
  unfold fired at hF
  rw [hP] at hF
  obtain ⟨RB, hRB⟩ : ∃ RB, RB = restB s X := ⟨_, rfl⟩
  rw [← hRB] at hF hP
  have hRl : RB.length = s.size := by rw [hRB]; unfold restB; rw [putAll_length, bytes_length]
  have HRB := Lib.hid hRB; clear hRB
  have HRl := Lib.hid hRl; clear hRl
  have HFi := Lib.hid hF; clear hF
  have HP := Lib.hid hP; clear hP
  have HI := Lib.hid hin; clear hin
  have HI2 := Lib.hid hin2; clear hin2
  have HSo := Lib.hid hsort; clear hsort
  obtain ⟨m, hm⟩ : ∃ m, m = n.ts.length := ⟨_, rfl⟩
  rw [← hm] at ht hc hmm ⊢
  clear hm
  obtain ⟨p, hp⟩ : ∃ p, p = n.places := ⟨_, rfl⟩
  rw [← hp] at hp0 hp1 ⊢
  clear hp
  obtain ⟨⟨xa0, xk0, rfl, hxc, hxz⟩, ⟨xa1, xk1, rfl, hyc, hyz⟩⟩ := hx
  obtain ⟨sx1, sx2⟩ := sx
  have HF := Lib.hid hxz; clear hxz
  have HF2 := Lib.hid hyz; clear hyz
  have kc := fun w => Lib.run_convert_string_bytes (P := Try.prog) w 9 154 5 s Try.underlying9 Try.underlying154 Try.underlying5
  have hbw : Below w.heap.size w (Lib.bytesWorld (w.alloc (.cells #[.int .i64 p, .slice (some ⟨b, off, none⟩) m cap] 38)) 5 s) := below_bytesWorld ((Below.refl _ _).alloc (Nat.le_refl _) _) (by simp) s
  have hB0 := BAt.new (w.alloc (.cells #[.int .i64 p, .slice (some ⟨b, off, none⟩) m cap] 38)) s
  have hbox : (Lib.bytesWorld (w.alloc (.cells #[.int .i64 p, .slice (some ⟨b, off, none⟩) m cap] 38)) 5 s).cell? ⟨w.heap.size, 1, none⟩ = some (.slice (some ⟨b, off, none⟩) m cap) := by
    rw [Lib.bytesWorld_old _ _ _ _ (by simp)]; simp
  rw [World.size_alloc] at hB0
  have d0 := Carries.of lo hbw _ _ hlo c0
  have d1 := Carries.of lo hbw _ _ hlo c1
  go_enter Try.func75, Try.ntmps75
  go_wp2_with fail
  have HB0 := Lib.hid hB0; clear hB0
  generalize grownCap (w.alloc (.cells #[.int .i64 p, .slice (some ⟨b, off, none⟩) m cap] 38)) s.size 0 5 = gc
  generalize Lib.bytesWorld (w.alloc (.cells #[.int .i64 p, .slice (some ⟨b, off, none⟩) m cap] 38)) 5 s = W at hbw HB0 hbox d0 d1 ⊢
  clear kc
  go_loopw [22] (fun i wr => ∃ k : Nat, k ≤ X.1.length ∧ i = .int .i64 k ∧ BAt wr (w.heap.size + 1) (putAll 48 (bytes s) (X.1.take k)) ∧ Below w.heap.size w wr ∧ wr.cell? ⟨w.heap.size, 1, none⟩ = some (.slice (some ⟨b, off, none⟩) m cap)) (fun i _ => X.1.length - (intOf i).toNat)
  case atStart => exact ⟨0, Nat.zero_le _, rfl, HB0.out, hbw, hbox⟩
  case round =>
    obtain ⟨k, hk, rfl, hB, hb1, hbx⟩ := hrel
    have HB := Lib.hid hB; clear hB
    clear hbw hbox d0 d1 HB0
    have d0 := Carries.of lo hb1 _ _ hlo c0
    have d1 := Carries.of lo hb1 _ _ hlo c1
    by_cases hlt : k < X.1.length
    · rcases HF.out with hz | ⟨xb, xoff, rfl, hxlo, hxcell⟩
      · rw [hz] at hlt; simp at hlt
      have e1 := Carries.of lo hb1 _ _ hxlo (hxcell k hlt)
      obtain ⟨i0, i1⟩ := HI.out k hlt
      obtain ⟨y, hy⟩ : ∃ y, y = X.1.getD k 0 := ⟨_, rfl⟩
      rw [← hy] at e1 i0 i1
      obtain ⟨q, rfl⟩ := Int.eq_ofNat_of_zero_le i0
      have HY := Lib.hid hy; clear hy hxcell
      have i2 : q < s.size := by omega
      have i3 : q < (putAll 48 (bytes s) (X.1.take k)).length := by rw [putAll_length, bytes_length]; exact i2
      have e2 := HB.out.cell i3
      have e3 := HB.out.frozen i3
      have HN : Hid (BAt (wr.setCell ⟨w.heap.size + 1, q, none⟩ (.int .u8 48)) (w.heap.size + 1) (putAll 48 (bytes s) (X.1.take (k + 1)))) := by
        have h := HB.out.put q 48
        rw [putAll_take _ _ _ _ hlt, ← HY.out]
        exact h
      have hbn := hb1.setCell (p := ⟨w.heap.size + 1, q, none⟩) (by simp) (.int .u8 48)
      have hbx2 : (wr.setCell ⟨w.heap.size + 1, q, none⟩ (.int .u8 48)).cell? ⟨w.heap.size, 1, none⟩ = some (.slice (some ⟨b, off, none⟩) m cap) := by
        rw [World.cell?_setCell_other _ _ _ _ (by simp)]; exact hbx
      clear i3
      go_wp2_with fail
      go_roundw
      case rel => exact ⟨k + 1, by omega, by go_num, HN.out, hbn, hbx2⟩
      case measure => simp [intOf]; omega
    · have hkk : k = X.1.length := by omega
      subst hkk
      rw [List.take_length] at HB
      have HB2 : Hid (BAt wr (w.heap.size + 1) RB) := by rw [HRB.out]; exact HB.out
      clear HB
      go_wp2_with fail
      go_loopw [37] (fun i wr => ∃ k : Nat, k ≤ X.2.length ∧ i = .int .i64 k ∧ BAt wr (w.heap.size + 1) (putAll 49 RB (X.2.take k)) ∧ Below w.heap.size w wr ∧ Hid (∀ i, i < k → (RB.getD (X.2.getD i 0).toNat 0 == 49) = false)) (fun i _ => X.2.length - (intOf i).toNat)
      case atStart => exact ⟨0, Nat.zero_le _, rfl, HB2.out, hb1, fun i hi => absurd hi (Nat.not_lt_zero _)⟩
      case round =>
        obtain ⟨k, hk, rfl, hB, hb2, hall⟩ := hrel
        have HB := Lib.hid hB; clear hB
        clear hb1 hbx d0 d1 HB2
        by_cases hlt : k < X.2.length
        · rcases HF2.out with hz | ⟨yb, yoff, rfl, hylo, hycell⟩
          · rw [hz] at hlt; simp at hlt
          have e1 := Carries.of lo hb2 _ _ hylo (hycell k hlt)
          obtain ⟨i0, i1⟩ := HI2.out k hlt
          have fresh := taken_fresh HSo.out hlt
          obtain ⟨y, hy⟩ : ∃ y, y = X.2.getD k 0 := ⟨_, rfl⟩
          rw [← hy] at e1 i0 i1 fresh
          obtain ⟨q, rfl⟩ := Int.eq_ofNat_of_zero_le i0
          have HY := Lib.hid hy; clear hy hycell
          have i2 : q < s.size := by omega
          have i3 : q < (putAll 49 RB (X.2.take k)).length := by rw [putAll_length, HRl.out]; exact i2
          have hnn : ∀ p ∈ X.2.take k, 0 ≤ p := fun p hp => by
            obtain ⟨i, hi, rfl⟩ := List.mem_iff_getElem.1 (List.mem_of_mem_take hp)
            have := (HI2.out i hi).1; rwa [getD_eq hi] at this
          have hv := putAll_getD 49 (X.2.take k) RB q hnn (by rw [HRl.out]; exact i2)
          rw [if_neg fresh] at hv
          have e2 := HB.out.cell i3
          rw [hv] at e2
          have e3 := HB.out.frozen i3
          have hbyte := byte_49 (RB.getD q 0)
          clear fresh hnn hv
          obtain ⟨y, hyy⟩ : ∃ y : Int, y = ((RB.getD q 0).toNat : Int) := ⟨_, rfl⟩
          rw [← hyy] at e2 hbyte
          have HYY := Lib.hid hyy; clear hyy
          by_cases h9 : y = 49
          · have t9 : (y == 49) = true := by simpa using h9
            have hfin := postB_false (bs := RB) hlt (by rw [← HY.out, Int.toNat_natCast, hbyte]; exact t9)
            rw [HP.out] at hfin
            subst hfin
            have hf2 := HFi.out
            rw [if_neg (by simp)] at hf2
            subst hf2
            clear h9 hbyte i3
            go_wp2_with fail
            go_ret2
            exact ⟨rfl, hb2⟩
          · have t9 : (y == 49) = false := by simpa using h9
            have H2 : Hid (∀ i, i < k + 1 → (RB.getD (X.2.getD i 0).toNat 0 == 49) = false) := by
              intro i hi
              by_cases e : i = k
              · subst e; rw [← HY.out, Int.toNat_natCast, hbyte]; exact t9
              · exact hall.out i (by omega)
            have HN : Hid (BAt (wr.setCell ⟨w.heap.size + 1, q, none⟩ (.int .u8 49)) (w.heap.size + 1) (putAll 49 RB (X.2.take (k + 1)))) := by
              have h := HB.out.put q 49
              rw [putAll_take _ _ _ _ hlt, ← HY.out]
              exact h
            have hbn := hb2.setCell (p := ⟨w.heap.size + 1, q, none⟩) (by simp) (.int .u8 49)
            clear h9 hbyte i3
            go_wp2_with fail
            go_roundw
            case rel => exact ⟨k + 1, by omega, by go_num, HN.out, hbn, H2⟩
            case measure => simp [intOf]; omega
        · have hkk : k = X.2.length := by omega
          subst hkk
          rw [List.take_length] at HB
          have hfin := postB_true hall.out
          rw [HP.out] at hfin
          subst hfin
          have hf2 := HFi.out
          rw [if_pos rfl] at hf2
          rw [hf2] at HB
          have hl : s.size = fs.length := by rw [← hf2, putAll_length]; exact HRl.out.symm
          have kc := HB.out.string s.size gc hl
          clear hl hf2
          go_wp2_with fail
          go_ret2
          exact ⟨rfl, hb2⟩

end Go.Proofs.Ytigkgfdnnfmmmaa

namespace Go.Proofs.Ytigkgfdnnfmmmaa
open Go.RowKit

/-- the transition of that number -/
def trOf (n : NetD) (t : Int) : Tr := n.ts.getD t.toNat ([], [])
def canB (n : NetD) (s : ByteArray) (t : Int) : Bool := goodN n && (markB n s && (inT n t && readyB (bytes s) (trOf n t).1))
def fireOk (n : NetD) (s : ByteArray) (t : Int) : Bool := canB n s t && postB (restB s (trOf n t)) (trOf n t).2
def fireS (n : NetD) (s : ByteArray) (t : Int) : List UInt8 := if canB n s t = true then fired s (trOf n t) else []

theorem good_tr {n : NetD} (hg : goodN n = true) {t : Nat} (ht : t < n.ts.length) : InS n.places (n.ts.getD t ([], [])).1 ∧ InS n.places (n.ts.getD t ([], [])).2 ∧ (n.ts.getD t ([], [])).1.Pairwise (· < ·) ∧ (n.ts.getD t ([], [])).2.Pairwise (· < ·) := by
  obtain ⟨_, _, _, h4⟩ := goodN_parts hg
  exact ⟨riseB_inS (h4 t ht).2.1, riseB_inS (h4 t ht).2.2, riseB_sorted (h4 t ht).2.1, riseB_sorted (h4 t ht).2.2⟩
theorem mark_size {n : NetD} {s : ByteArray} (h : markB n s = true) : (s.size : Int) = n.places := by
  unfold markB at h
  simp only [Bool.and_eq_true, decide_eq_true_eq] at h
  exact h.2

theorem fire_no {n : NetD} {s : ByteArray} {t : Int} (h : canB n s t = false) : fireS n s t = [] ∧ fireOk n s t = false := by
  unfold fireS fireOk; rw [h]; exact ⟨rfl, rfl⟩
theorem fire_yes {n : NetD} {s : ByteArray} {t : Int} (h : canB n s t = true) : fireS n s t = fired s (trOf n t) ∧ fireOk n s t = postB (restB s (trOf n t)) (trOf n t).2 := by
  unfold fireS fireOk; rw [h]; exact ⟨rfl, rfl⟩

set_option maxRecDepth 100000 in
set_option maxHeartbeats 2000000 in
theorem specFire_any (v : Value) (n : NetD) (s : ByteArray) (t : Int) (w : World) (lo : Nat) (hv : NetAt lo w v n) (hs : SmallTrs n.ts) (hsz : s.size ≤ 1048576) :
    Calls Try.prog 37 #[v, .string s, .int .i64 t] w (RetV w (.tuple #[.string (bstr (fireS n s t)), .bool (fireOk n s t)])) := by
  generalize hFS : fireS n s t = F
  generalize hFO : fireOk n s t = O
  have HFS := Lib.hid hFS; clear hFS
  have HFO := Lib.hid hFO; clear hFO
  have hv' := hv
  obtain ⟨hp0, hp1, q, rfl, ht⟩ := hv'
  obtain ⟨ao, cap, rfl, hc, hz⟩ := ht
  obtain ⟨p, hp⟩ : ∃ p, p = n.places := ⟨_, rfl⟩
  obtain ⟨m, hm⟩ : ∃ m, m = n.ts.length := ⟨_, rfl⟩
  rw [← hp, ← hm] at hv ⊢
  have hmm : m ≤ 1048576 := by rw [hm]; exact hs.1
  have Hm := Lib.hid hm
  clear hz hc hp0 hp1 hp hm
  have HV := Lib.hid hv; clear hv
  have HS := Lib.hid hs; clear hs
  go_enter Try.func37, Try.ntmps37
  go_wp2_with fail
  refine (l1Good_any _ n _ lo (HV.out.keep ?_) HS.out).mono ?_
  · (repeat' (first | (with_reducible exact Carries.refl _ _) | (with_reducible assumption) | (with_reducible refine Carries.alloc ?_ _) | (with_reducible refine Carries.drew ?_) | (with_reducible refine Carries.drewN ?_ _) | (with_reducible refine Carries.set ?_ ?_ _) | go_size))
  rintro e w1 ⟨rfl, hb⟩
  have hw1 : Below w.heap.size w w1 := by
    refine Below.trans ?_ (hb.mono ?_)
    · (repeat' (first | (with_reducible exact Below.refl _ _) | (with_reducible assumption) | (with_reducible refine Below.alloc ?_ ?_ _) | (with_reducible refine Below.drew ?_) | (with_reducible refine below_drewN ?_ _) | (with_reducible refine Below.setCell ?_ ?_ _) | go_size))
    · simp
  have a0 : w1.cell? ⟨w.heap.size, 0, none⟩ = some (.int .i64 p) := cell_carry (by simp) (Carries.of 0 hb)
  have a1 : w1.cell? ⟨w.heap.size, 1, none⟩ = some (.slice ao m cap) := cell_carry (by simp) (Carries.of 0 hb)
  clear hb
  cases hg : goodN n with
  | false =>
    have hcf : canB n s t = false := by unfold canB; rw [hg]; rfl
    obtain ⟨k1, k2⟩ := fire_no hcf
    rw [HFS.out] at k1; rw [HFO.out] at k2
    subst k1; subst k2
    clear hcf
    clear hg
    go_wp2_with fail
    go_ret2
    exact ⟨rfl, hw1⟩
  | true =>
  have HG := Lib.hid hg; clear hg
  go_wp2_with fail
  refine (l1Mark_any _ n s _ lo (HV.out.keep (Carries.of lo hw1)) hsz).mono ?_
  rintro e w2 ⟨rfl, hb⟩
  have hw2 : Below w.heap.size w w2 := hw1.trans (hb.mono hw1.size)
  have a2 := cell_carry a0 (Carries.of 0 hb)
  have a3 := cell_carry a1 (Carries.of 0 hb)
  clear hb a0 a1
  cases hg : markB n s with
  | false =>
    have hcf : canB n s t = false := by unfold canB; rw [HG.out, hg]; rfl
    obtain ⟨k1, k2⟩ := fire_no hcf
    rw [HFS.out] at k1; rw [HFO.out] at k2
    subst k1; subst k2
    clear hcf
    clear hg
    go_wp2_with fail
    go_ret2
    exact ⟨rfl, hw2⟩
  | true =>
  have HM := Lib.hid hg; clear hg
  go_wp2_with fail
  refine (l1In_any _ _ _ _).mono ?_
  rintro e w3 ⟨rfl, hb⟩
  have hw3 : Below w.heap.size w w3 := hw2.trans (hb.mono hw2.size)
  have a4 := cell_carry a2 (Carries.of 0 hb)
  have a5 := cell_carry a3 (Carries.of 0 hb)
  clear hb a2 a3
  have hin : decide (0 ≤ t ∧ t ≤ (m : Int) - 1) = inT n t := by rw [Hm.out]; exact inT_le n t
  rw [hin]
  clear hin
  cases hg : inT n t with
  | false =>
    have hcf : canB n s t = false := by unfold canB; rw [HG.out, HM.out, hg]; rfl
    obtain ⟨k1, k2⟩ := fire_no hcf
    rw [HFS.out] at k1; rw [HFO.out] at k2
    subst k1; subst k2
    clear hcf
    clear hg
    go_wp2_with fail
    go_ret2
    exact ⟨rfl, hw3⟩
  | true =>
  have ht3 : 0 ≤ t ∧ t < n.ts.length := of_decide_eq_true hg
  have HT := Lib.hid hg; clear hg
  obtain ⟨ht0, ht1⟩ := ht3
  obtain ⟨tn, rfl⟩ := Int.eq_ofNat_of_zero_le ht0
  have ht2 : tn < n.ts.length := by omega
  have hgt := good_tr HG.out ht2
  rw [← mark_size HM.out] at hgt
  have HGT := Lib.hid hgt; clear hgt
  have HT2 := Lib.hid ht2; clear ht0 ht1 ht2
  go_wp2_with fail
  refine (l1Ready_any _ n s tn _ lo (HV.out.keep (Carries.of lo hw3)) HS.out HT2.out HGT.out.1 hsz).mono ?_
  rintro e w4 ⟨rfl, hb⟩
  have hw4 : Below w.heap.size w w4 := hw3.trans (hb.mono hw3.size)
  have a6 := cell_carry a4 (Carries.of 0 hb)
  have a7 := cell_carry a5 (Carries.of 0 hb)
  clear hb a4 a5
  have htr : trOf n (tn : Int) = n.ts.getD tn ([], []) := by unfold trOf; rw [Int.toNat_natCast]
  have HTR := Lib.hid htr; clear htr
  cases hg : readyB (bytes s) (n.ts.getD tn ([], [])).1 with
  | false =>
    have hcf : canB n s (tn : Int) = false := by unfold canB; rw [HG.out, HM.out, HT.out, HTR.out, hg]; rfl
    obtain ⟨k1, k2⟩ := fire_no hcf
    rw [HFS.out] at k1; rw [HFO.out] at k2
    subst k1; subst k2
    clear hcf
    clear hg
    go_wp2_with fail
    go_ret2
    exact ⟨rfl, hw4⟩
  | true =>
  have hcf : canB n s (tn : Int) = true := by unfold canB; rw [HG.out, HM.out, HT.out, HTR.out, hg]; rfl
  obtain ⟨k1, k2⟩ := fire_yes hcf
  rw [HFS.out, HTR.out] at k1
  rw [HFO.out, HTR.out] at k2
  have K1 := Lib.hid k1; clear k1
  have K2 := Lib.hid k2; clear k2
  clear hg hcf
  go_wp2_with fail
  refine (l1Fire_any _ n s tn _ lo (HV.out.keep (Carries.of lo hw4)) HS.out HT2.out HGT.out.1 HGT.out.2.1 HGT.out.2.2.2 hsz).mono ?_
  rintro e w5 ⟨rfl, hb⟩
  have hw5 : Below w.heap.size w w5 := hw4.trans (hb.mono hw4.size)
  clear hb a6 a7
  rw [← K1.out, ← K2.out]
  go_wp2_with fail
  go_ret2
  exact ⟨rfl, hw5⟩

end Go.Proofs.Ytigkgfdnnfmmmaa
