/- PURE: the number of a transition; independence.
   WALK: hasTransition of the program.
   WALK: AreIndependent of the program.
   A marking as bytes (out of Byte).
   PLAIN PART: a marking as bytes; strings of bytes.  WALK: l1Ready. -/
import Derived.Test.YtigkgfdnnfmmmaaVNeta
import Derived.Test.YtigkgfdnnfmmmaaVPur
import Derived.Test.YtigkgfdnnfmmmaaVL1in
import Derived.Test.YtigkgfdnnfmmmaaVInts
namespace Go.Proofs.Ytigkgfdnnfmmmaa
open Go.RowKit

/-- the number of a transition -/
def inT (n : NetD) (t : Int) : Bool := decide (0 ≤ t ∧ t < n.ts.length)
theorem inT_le (n : NetD) (t : Int) : decide (0 ≤ t ∧ t ≤ (n.ts.length : Int) - 1) = inT n t := by
  unfold inT
  exact decide_eq_decide.2 ⟨fun h => ⟨h.1, by omega⟩, fun h => ⟨h.1, by omega⟩⟩
def pairB (n : NetD) (t u : Int) : Bool := goodN n && (inT n t && inT n u)
def indB (n : NetD) (t u : Int) : Bool := !meetB (both (n.ts.getD t.toNat ([], []))) (both (n.ts.getD u.toNat ([], [])))

end Go.Proofs.Ytigkgfdnnfmmmaa

namespace Go.Proofs.Ytigkgfdnnfmmmaa
open Go.RowKit

set_option maxHeartbeats 400000 in
theorem isTransition_any (v : Value) (n : NetD) (t : Int) (w : World) (lo : Nat) (hv : NetAt lo w v n) (hsm : SmallTrs n.ts) :
    Calls Try.prog 76 #[v, .int .i64 t] w (RetB w (decide (0 ≤ t ∧ t < n.ts.length))) := by
  obtain ⟨hp0, hp1, u, rfl, ht⟩ := hv
  obtain ⟨ao, cap, rfl, hc, hz⟩ := ht
  have hl := hsm.1
  clear hz hsm
  by_cases h1 : 0 ≤ t
  · by_cases h2 : t < n.ts.length
    · rw [decide_eq_true (⟨h1, h2⟩ : 0 ≤ t ∧ t < n.ts.length)]
      go_enter Try.func76, Try.ntmps76
      go_wp2_with fail
      go_ret
      exact ⟨rfl, by (repeat' (first | (with_reducible exact Below.refl _ _) | (with_reducible assumption) | (with_reducible refine Below.alloc ?_ ?_ _) | (with_reducible refine Below.drew ?_) | (with_reducible refine below_drewN ?_ _) | (with_reducible refine Below.setCell ?_ ?_ _) | go_size))⟩
    · rw [decide_eq_false (fun h => h2 h.2 : ¬ (0 ≤ t ∧ t < n.ts.length))]
      go_enter Try.func76, Try.ntmps76
      go_wp2_with fail
      go_ret
      exact ⟨rfl, by (repeat' (first | (with_reducible exact Below.refl _ _) | (with_reducible assumption) | (with_reducible refine Below.alloc ?_ ?_ _) | (with_reducible refine Below.drew ?_) | (with_reducible refine below_drewN ?_ _) | (with_reducible refine Below.setCell ?_ ?_ _) | go_size))⟩
  · rw [decide_eq_false (fun h => h1 h.1 : ¬ (0 ≤ t ∧ t < n.ts.length))]
    go_enter Try.func76, Try.ntmps76
    go_wp2_with fail
    go_ret
    exact ⟨rfl, by (repeat' (first | (with_reducible exact Below.refl _ _) | (with_reducible assumption) | (with_reducible refine Below.alloc ?_ ?_ _) | (with_reducible refine Below.drew ?_) | (with_reducible refine below_drewN ?_ _) | (with_reducible refine Below.setCell ?_ ?_ _) | go_size))⟩

end Go.Proofs.Ytigkgfdnnfmmmaa

namespace Go.Proofs.Ytigkgfdnnfmmmaa
open Go.RowKit

theorem putAll_append (v : UInt8) (xs : List UInt8) (a b : List Int) : putAll v (putAll v xs a) b = putAll v xs (a ++ b) := by
  unfold putAll; rw [List.foldl_append]
theorem isTransition_in (v : Value) (n : NetD) (t : Int) (w : World) (lo : Nat) (hv : NetAt lo w v n) (hsm : SmallTrs n.ts) :
    Calls Try.prog 76 #[v, .int .i64 t] w (RetB w (inT n t)) := isTransition_any v n t w lo hv hsm
/-- the program's test of independence -/
def indI (X Y : Tr) : Bool := putAll 48 (putAll 48 (putAll 49 (putAll 49 blank X.1) X.2) Y.1) Y.2 == putAll 49 (putAll 49 blank X.1) X.2
theorem InArr.both {t : Tr} (h1 : InArr t.1) (h2 : InArr t.2) : InArr (both t) := by
  intro i hi
  have hm : (Go.Proofs.Ytigkgfdnnfmmmaa.both t).getD i 0 ∈ Go.Proofs.Ytigkgfdnnfmmmaa.both t := by rw [getD_eq hi]; exact List.getElem_mem hi
  rcases List.mem_append.1 hm with h | h
  · exact ⟨h1.nonneg _ h, h1.lt _ h⟩
  · exact ⟨h2.nonneg _ h, h2.lt _ h⟩
theorem indI_eq {X Y : Tr} (h1 : InArr X.1) (h2 : InArr X.2) (h3 : InArr Y.1) (h4 : InArr Y.2) : indI X Y = !meetB (both X) (both Y) := by
  unfold indI
  rw [putAll_append, putAll_append]
  exact disjoint_eq (InArr.both h1 h2) (InArr.both h3 h4)

/-- behind a region: two blocks hold two transitions' lists -/
def TwoTr (w : World) (x0 x1 y0 y1 : Value) (mk : Value → Value → Act) (e : Exit) (a' : Act) (w' : World) : Prop :=
  e = .normal ∧ ∃ b c : Nat, a' = mk (.pointer (some ⟨b, 0, none⟩)) (.pointer (some ⟨c, 0, none⟩)) ∧ w'.cell? ⟨b, 0, none⟩ = some x0 ∧ w'.cell? ⟨b, 1, none⟩ = some x1 ∧ w'.cell? ⟨c, 0, none⟩ = some y0 ∧ w'.cell? ⟨c, 1, none⟩ = some y1 ∧ Below w.heap.size w w'
/-- behind a region: a block holds a marking; a transition's lists are as they were -/
def OneArr (w : World) (B : Nat) (y0 y1 : Value) (xs : List UInt8) (mk : Value → Act) (e : Exit) (a' : Act) (w' : World) : Prop :=
  e = .normal ∧ ∃ b : Nat, a' = mk (.pointer (some ⟨b, 0, none⟩)) ∧ ArrAt w' b xs ∧ Below w.heap.size w w' ∧ w'.cell? ⟨B, 0, none⟩ = some y0 ∧ w'.cell? ⟨B, 1, none⟩ = some y1

end Go.Proofs.Ytigkgfdnnfmmmaa

namespace Go.Proofs.Ytigkgfdnnfmmmaa
open Go.RowKit

def bstr (bs : List UInt8) : ByteArray := ⟨bs.toArray⟩
theorem bstr_size (bs : List UInt8) : (bstr bs).size = bs.length := by simp [bstr, ByteArray.size]
def bytes (s : ByteArray) : List UInt8 := s.data.toList
theorem bytes_length (s : ByteArray) : (bytes s).length = s.size := by simp [bytes]
theorem bytes_bstr (bs : List UInt8) : bytes (bstr bs) = bs := by simp [bytes, bstr]
theorem bstr_bytes (s : ByteArray) : bstr (bytes s) = s := by
  obtain ⟨d⟩ := s
  simp [bytes, bstr]
theorem byte_at {s : ByteArray} {q : Nat} (h : q < s.size) : (bytes s).getD q 0 = s[q] := by
  have h' : q < s.data.toList.length := by simpa using h
  rw [bytes, List.getD, List.getElem?_eq_getElem h']
  rfl

theorem foldl_push (ns : List UInt8) : ∀ s : ByteArray, (ns.map (fun b => (b.toNat : Int))).foldl (fun r n => r.push (UInt8.ofNat n.toNat)) s = ⟨s.data ++ ns.toArray⟩ := by
  induction ns with
  | nil => intro s; simp
  | cons b ns ih =>
    intro s
    simp only [List.map_cons, List.foldl_cons]
    rw [ih]
    obtain ⟨d⟩ := s
    simp [ByteArray.push]

end Go.Proofs.Ytigkgfdnnfmmmaa

namespace Go.Proofs.Ytigkgfdnnfmmmaa
open Go.RowKit

/-- numbers below N -/
def InS (N : Int) (ps : List Int) : Prop := ∀ i, i < ps.length → 0 ≤ ps.getD i 0 ∧ ps.getD i 0 < N
theorem riseB_inS {p : Int} {l : List Int} (h : riseB 0 (p - 1) l = true) : InS p l := fun i hi => by
  have h1 := of_decide_eq_true h i hi
  omega

/-- every place of the list is marked -/
def readyB (bs : List UInt8) (ps : List Int) : Bool := ps.all fun p => bs.getD p.toNat 0 == 49
theorem readyB_false {bs : List UInt8} {ps : List Int} {k : Nat} (hk : k < ps.length) (h : (bs.getD (ps.getD k 0).toNat 0 == 49) = false) : readyB bs ps = false := by
  unfold readyB
  rw [List.all_eq_false]
  exact ⟨ps[k], List.getElem_mem hk, by rw [← getD_eq hk, h]; simp⟩
theorem readyB_true {bs : List UInt8} {ps : List Int} (h : ∀ i, i < ps.length → (bs.getD (ps.getD i 0).toNat 0 == 49) = true) : readyB bs ps = true := by
  unfold readyB
  rw [List.all_eq_true]
  intro p hp
  obtain ⟨i, hi, rfl⟩ := List.mem_iff_getElem.1 hp
  rw [← getD_eq hi]; exact h i hi
theorem byte_49 (b : UInt8) : (b == 49) = ((b.toNat : Int) == 49) := by
  rw [Bool.eq_iff_iff]
  simp only [beq_iff_eq, ← UInt8.toNat_inj]
  have : (49 : UInt8).toNat = 49 := rfl
  omega
theorem byte_48 (b : UInt8) : (b == 48) = ((b.toNat : Int) == 48) := by
  rw [Bool.eq_iff_iff]
  simp only [beq_iff_eq, ← UInt8.toNat_inj]
  have : (48 : UInt8).toNat = 48 := rfl
  omega

set_option maxRecDepth 100000 in
set_option maxHeartbeats 1000000 in
theorem l1Ready_any (v : Value) (n : NetD) (s : ByteArray) (t : Nat) (w : World) (lo : Nat) (hv : NetAt lo w v n) (hs : SmallTrs n.ts) (ht : t < n.ts.length) (hin : InS s.size (n.ts.getD t ([], [])).1) (hsz : s.size ≤ 1048576) :
    Calls Try.prog 74 #[v, .string s, .int .i64 t] w (RetB w (readyB (bytes s) (n.ts.getD t ([], [])).1)) := by
  generalize hR : readyB (bytes s) (n.ts.getD t ([], [])).1 = r
  obtain ⟨hp0, hp1, q, rfl, hts⟩ := hv
  obtain ⟨ao, cap, rfl, hc, hz⟩ := hts
  have hmm := hs.1
  rcases hz with hz | ⟨b, off, rfl, hlo, hcell⟩
  · rw [hz] at ht; simp at ht
  obtain ⟨x0, x1, c0, c1, hx⟩ := hcell t ht
  have sx := hs.2 t ht
  obtain ⟨X, hX⟩ : ∃ X, X = n.ts.getD t ([], []) := ⟨_, rfl⟩
  rw [← hX] at hR hin hx sx
  clear hX hcell hs
  have HR := Lib.hid hR; clear hR
  have HI := Lib.hid hin; clear hin
  obtain ⟨m, hm⟩ : ∃ m, m = n.ts.length := ⟨_, rfl⟩
  rw [← hm] at ht hc hmm ⊢
  clear hm
  obtain ⟨⟨xa0, xk0, rfl, hxc, hxz⟩, _⟩ := hx
  have sx1 := sx.1
  clear sx c1
  have HF := Lib.hid hxz; clear hxz
  have d0 : (w.alloc (.cells #[.int .i64 n.places, .slice (some ⟨b, off, none⟩) m cap] 38)).cell? ⟨b, off + t * 2, none⟩ = some (.slice xa0 X.1.length xk0) := cell_carry c0 (by (repeat' (first | (with_reducible exact Carries.refl _ _) | (with_reducible assumption) | (with_reducible refine Carries.alloc ?_ _) | (with_reducible refine Carries.drew ?_) | (with_reducible refine Carries.drewN ?_ _) | (with_reducible refine Carries.set ?_ ?_ _) | go_size)))
  go_enter Try.func74, Try.ntmps74
  go_wp2_with fail
  go_loop [16] (fun i => ∃ k : Nat, k ≤ X.1.length ∧ i = .int .i64 k ∧ Hid (∀ i, i < k → ((bytes s).getD (X.1.getD i 0).toNat 0 == 49) = true)) (fun i => X.1.length - (intOf i).toNat)
  case atStart => exact ⟨0, Nat.zero_le _, rfl, fun i hi => absurd hi (Nat.not_lt_zero _)⟩
  case round =>
    obtain ⟨k, hk, rfl, hall⟩ := hrel
    by_cases hlt : k < X.1.length
    · rcases HF.out with hz | ⟨xb, xoff, rfl, hxlo, hxcell⟩
      · rw [hz] at hlt; simp at hlt
      have e1 := hxcell k hlt
      obtain ⟨i0, i1⟩ := HI.out k hlt
      obtain ⟨y, hy⟩ : ∃ y, y = X.1.getD k 0 := ⟨_, rfl⟩
      rw [← hy] at e1 i0 i1
      obtain ⟨q, rfl⟩ := Int.eq_ofNat_of_zero_le i0
      have HY := Lib.hid hy; clear hy hxcell
      have i2 : q < s.size := by omega
      have e2 : (w.alloc (.cells #[.int .i64 n.places, .slice (some ⟨b, off, none⟩) m cap] 38)).cell? ⟨xb, xoff + k, none⟩ = some (.int .i64 q) := cell_carry e1 (by (repeat' (first | (with_reducible exact Carries.refl _ _) | (with_reducible assumption) | (with_reducible refine Carries.alloc ?_ _) | (with_reducible refine Carries.drew ?_) | (with_reducible refine Carries.drewN ?_ _) | (with_reducible refine Carries.set ?_ ?_ _) | go_size)))
      by_cases h9 : s[q].toNat = 49
      · have H2 : Hid (∀ i, i < k + 1 → ((bytes s).getD (X.1.getD i 0).toNat 0 == 49) = true) := by
          intro i hi
          by_cases e : i = k
          · subst e; rw [← HY.out, Int.toNat_natCast, byte_at i2, byte_49, h9]; rfl
          · exact hall.out i (by omega)
        have t9 : ((s[q].toNat : Int) != 49) = false := by rw [h9]; rfl
        clear h9
        go_wp2_with fail
        go_round
        case rel => exact ⟨k + 1, by omega, by go_num, H2⟩
        case measure => simp [intOf]; omega
      · have t9 : ((s[q].toNat : Int) != 49) = true := by rw [bne_iff_ne]; omega
        have hfin := readyB_false (bs := bytes s) hlt (by rw [← HY.out, Int.toNat_natCast, byte_at i2, byte_49]; rw [beq_eq_false_iff_ne]; omega)
        rw [HR.out] at hfin
        subst hfin
        clear h9
        go_wp2_with fail
        go_ret
        exact ⟨rfl, by (repeat' (first | (with_reducible exact Below.refl _ _) | (with_reducible assumption) | (with_reducible refine Below.alloc ?_ ?_ _) | (with_reducible refine Below.drew ?_) | (with_reducible refine below_drewN ?_ _) | (with_reducible refine Below.setCell ?_ ?_ _) | go_size))⟩
    · have hkk : k = X.1.length := by omega
      subst hkk
      have hfin := readyB_true hall.out
      rw [HR.out] at hfin
      subst hfin
      go_wp2_with fail
      go_ret
      exact ⟨rfl, by (repeat' (first | (with_reducible exact Below.refl _ _) | (with_reducible assumption) | (with_reducible refine Below.alloc ?_ ?_ _) | (with_reducible refine Below.drew ?_) | (with_reducible refine below_drewN ?_ _) | (with_reducible refine Below.setCell ?_ ?_ _) | go_size))⟩

end Go.Proofs.Ytigkgfdnnfmmmaa
