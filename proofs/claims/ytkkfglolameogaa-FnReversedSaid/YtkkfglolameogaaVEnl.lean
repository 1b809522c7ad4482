/- PLAIN PART: a marking as bytes; strings of bytes.  WALK: l1Ready.
   WALK: l1Enabled of the model. -/
import Derived.Test.YtkkfglolameogaaVIndc
import Derived.Test.YtkkfglolameogaaVMk
import Derived.Lib.SmallJoins
namespace Go.Proofs.Ytkkfglolameogaa
open Go.RowKit

def bstr (bs : List UInt8) : ByteArray := ⟨bs.toArray⟩
theorem bstr_size (bs : List UInt8) : (bstr bs).size = bs.length := by simp [bstr, ByteArray.size]
def bytes (s : ByteArray) : List UInt8 := s.data.toList
theorem bytes_length (s : ByteArray) : (bytes s).length = s.size := by simp [bytes]
theorem bytes_bstr (bs : List UInt8) : bytes (bstr bs) = bs := by simp [bytes, bstr]
theorem bstr_bytes (s : ByteArray) : bstr (bytes s) = s := by
  obtain ⟨d⟩ := s
  simp [bytes, bstr]
theorem byte_at {s : ByteArray} {q : Nat} (h : q < s.size) : (bytes s).getD q 0 = s[q] := by
  have h' : q < s.data.toList.length := by simpa using h
  rw [bytes, List.getD, List.getElem?_eq_getElem h']
  rfl

/-- numbers below N -/
def InS (N : Int) (ps : List Int) : Prop := ∀ i, i < ps.length → 0 ≤ ps.getD i 0 ∧ ps.getD i 0 < N
theorem riseB_inS {p : Int} {l : List Int} (h : riseB 0 (p - 1) l = true) : InS p l := fun i hi => by
  have h1 := of_decide_eq_true h i hi
  omega

/-- every place of the list is marked -/
def readyB (bs : List UInt8) (ps : List Int) : Bool := ps.all fun p => bs.getD p.toNat 0 == 49
theorem readyB_false {bs : List UInt8} {ps : List Int} {k : Nat} (hk : k < ps.length) (h : (bs.getD (ps.getD k 0).toNat 0 == 49) = false) : readyB bs ps = false := by
  unfold readyB
  rw [List.all_eq_false]
  exact ⟨ps[k], List.getElem_mem hk, by rw [← getD_eq hk, h]; simp⟩
theorem readyB_true {bs : List UInt8} {ps : List Int} (h : ∀ i, i < ps.length → (bs.getD (ps.getD i 0).toNat 0 == 49) = true) : readyB bs ps = true := by
  unfold readyB
  rw [List.all_eq_true]
  intro p hp
  obtain ⟨i, hi, rfl⟩ := List.mem_iff_getElem.1 hp
  rw [← getD_eq hi]; exact h i hi
theorem byte_49 (b : UInt8) : (b == 49) = ((b.toNat : Int) == 49) := by
  rw [Bool.eq_iff_iff]
  simp only [beq_iff_eq, ← UInt8.toNat_inj]
  have : (49 : UInt8).toNat = 49 := rfl
  omega
theorem byte_48 (b : UInt8) : (b == 48) = ((b.toNat : Int) == 48) := by
  rw [Bool.eq_iff_iff]
  simp only [beq_iff_eq, ← UInt8.toNat_inj]
  have : (48 : UInt8).toNat = 48 := rfl
  omega

set_option maxRecDepth 100000 in
set_option maxHeartbeats 1000000 in
theorem l1Ready_any (v : Value) (n : NetD) (s : ByteArray) (t : Nat) (w : World) (lo : Nat) (hv : NetAt lo w v n) (hs : SmallTrs n.ts) (ht : t < n.ts.length) (hin : InS s.size (n.ts.getD t ([], [])).1) (hsz : s.size ≤ 1048576) :
    Calls Try.prog 96 #[v, .string s, .int .i64 t] w (RetB w (readyB (bytes s) (n.ts.getD t ([], [])).1)) := by
  generalize hR : readyB (bytes s) (n.ts.getD t ([], [])).1 = r
  obtain ⟨hp0, hp1, q, rfl, hts⟩ := hv
  obtain ⟨ao, cap, rfl, hc, hz⟩ := hts
  have hmm := hs.1
  rcases hz with hz | ⟨b, off, rfl, hlo, hcell⟩
  · rw [hz] at ht; simp at ht
  obtain ⟨x0, x1, c0, c1, hx⟩ := hcell t ht
  have sx := hs.2 t ht
  obtain ⟨X, hX⟩ : ∃ X, X = n.ts.getD t ([], []) := ⟨_, rfl⟩
  rw [← hX] at hR hin hx sx
  clear hX hcell hs
  have HR := Lib.hid hR; clear hR
  have HI := Lib.hid hin; clear hin
  obtain ⟨m, hm⟩ : ∃ m, m = n.ts.length := ⟨_, rfl⟩
  rw [← hm] at ht hc hmm ⊢
  clear hm
  obtain ⟨⟨xa0, xk0, rfl, hxc, hxz⟩, _⟩ := hx
  have sx1 := sx.1
  clear sx c1
  have HF := Lib.hid hxz; clear hxz
  have d0 : (w.alloc (.cells #[.int .i64 n.places, .slice (some ⟨b, off, none⟩) m cap] 32)).cell? ⟨b, off + t * 2, none⟩ = some (.slice xa0 X.1.length xk0) := cell_carry c0 (by (repeat' (first | (with_reducible exact Carries.refl _ _) | (with_reducible assumption) | (with_reducible refine Carries.alloc ?_ _) | (with_reducible refine Carries.drew ?_) | (with_reducible refine Carries.drewN ?_ _) | (with_reducible refine Carries.set ?_ ?_ _) | go_size)))
  go_enter Try.func96, Try.ntmps96
  go_wp2_with fail
  go_loop [16] (fun i => ∃ k : Nat, k ≤ X.1.length ∧ i = .int .i64 k ∧ Hid (∀ i, i < k → ((bytes s).getD (X.1.getD i 0).toNat 0 == 49) = true)) (fun i => X.1.length - (intOf i).toNat)
  case atStart => exact ⟨0, Nat.zero_le _, rfl, fun i hi => absurd hi (Nat.not_lt_zero _)⟩
  case round =>
    obtain ⟨k, hk, rfl, hall⟩ := hrel
    by_cases hlt : k < X.1.length
    · rcases HF.out with hz | ⟨xb, xoff, rfl, hxlo, hxcell⟩
      · rw [hz] at hlt; simp at hlt
      have e1 := hxcell k hlt
      obtain ⟨i0, i1⟩ := HI.out k hlt
      obtain ⟨y, hy⟩ : ∃ y, y = X.1.getD k 0 := ⟨_, rfl⟩
      rw [← hy] at e1 i0 i1
      obtain ⟨q, rfl⟩ := Int.eq_ofNat_of_zero_le i0
      have HY := Lib.hid hy; clear hy hxcell
      have i2 : q < s.size := by omega
      have e2 : (w.alloc (.cells #[.int .i64 n.places, .slice (some ⟨b, off, none⟩) m cap] 32)).cell? ⟨xb, xoff + k, none⟩ = some (.int .i64 q) := cell_carry e1 (by (repeat' (first | (with_reducible exact Carries.refl _ _) | (with_reducible assumption) | (with_reducible refine Carries.alloc ?_ _) | (with_reducible refine Carries.drew ?_) | (with_reducible refine Carries.drewN ?_ _) | (with_reducible refine Carries.set ?_ ?_ _) | go_size)))
      by_cases h9 : s[q].toNat = 49
      · have H2 : Hid (∀ i, i < k + 1 → ((bytes s).getD (X.1.getD i 0).toNat 0 == 49) = true) := by
          intro i hi
          by_cases e : i = k
          · subst e; rw [← HY.out, Int.toNat_natCast, byte_at i2, byte_49, h9]; rfl
          · exact hall.out i (by omega)
        have t9 : ((s[q].toNat : Int) != 49) = false := by rw [h9]; rfl
        clear h9
        go_wp2_with fail
        go_round
        case rel => exact ⟨k + 1, by omega, by go_num, H2⟩
        case measure => simp [intOf]; omega
      · have t9 : ((s[q].toNat : Int) != 49) = true := by rw [bne_iff_ne]; omega
        have hfin := readyB_false (bs := bytes s) hlt (by rw [← HY.out, Int.toNat_natCast, byte_at i2, byte_49]; rw [beq_eq_false_iff_ne]; omega)
        rw [HR.out] at hfin
        subst hfin
        clear h9
        go_wp2_with fail
        go_ret
        exact ⟨rfl, by (repeat' (first | (with_reducible exact Below.refl _ _) | (with_reducible assumption) | (with_reducible refine Below.alloc ?_ ?_ _) | (with_reducible refine Below.drew ?_) | (with_reducible refine below_drewN ?_ _) | (with_reducible refine Below.setCell ?_ ?_ _) | go_size))⟩
    · have hkk : k = X.1.length := by omega
      subst hkk
      have hfin := readyB_true hall.out
      rw [HR.out] at hfin
      subst hfin
      go_wp2_with fail
      go_ret
      exact ⟨rfl, by (repeat' (first | (with_reducible exact Below.refl _ _) | (with_reducible assumption) | (with_reducible refine Below.alloc ?_ ?_ _) | (with_reducible refine Below.drew ?_) | (with_reducible refine below_drewN ?_ _) | (with_reducible refine Below.setCell ?_ ?_ _) | go_size))⟩

end Go.Proofs.Ytkkfglolameogaa

namespace Go.Proofs.Ytkkfglolameogaa
open Go.RowKit

def readyOf (n : NetD) (s : ByteArray) (t : Nat) : Bool := readyB (bytes s) (n.ts.getD t ([], [])).1
def enB (n : NetD) (s : ByteArray) : Bool := goodN n && markB n s
def enL (n : NetD) (s : ByteArray) : List Int := if enB n s = true then enTo (readyOf n s) n.ts.length else []

set_option maxRecDepth 100000 in
set_option maxHeartbeats 1000000 in
theorem l1Enabled_any (v : Value) (n : NetD) (s : ByteArray) (w : World) (lo : Nat) (hv : NetAt lo w v n) (hs : SmallTrs n.ts) (hin : ∀ t, t < n.ts.length → InS s.size (n.ts.getD t ([], [])).1) (hsz : s.size ≤ 1048576) :
    Calls Try.prog 102 #[v, .string s] w (RetOwn w (enTo (readyOf n s) n.ts.length)) := by
  obtain ⟨f, hf⟩ : ∃ f, f = readyOf n s := ⟨_, rfl⟩
  rw [← hf]
  have HFN := Lib.hid hf; clear hf
  have hv' := hv
  obtain ⟨hp0, hp1, q, rfl, ht⟩ := hv'
  obtain ⟨ao, cap, rfl, hc, hz⟩ := ht
  obtain ⟨p, hp⟩ : ∃ p, p = n.places := ⟨_, rfl⟩
  obtain ⟨m, hm⟩ : ∃ m, m = n.ts.length := ⟨_, rfl⟩
  have hms : m ≤ 1048576 := by rw [hm]; exact hs.1
  rw [← hp, ← hm] at hv ⊢
  have HMM := Lib.hid hm
  clear hz hc hp0 hp1 hp hm
  have HV := Lib.hid hv; clear hv
  have HS := Lib.hid hs; clear hs
  have HI := Lib.hid hin; clear hin
  go_enter Try.func102, Try.ntmps102
  go_wp2_with fail
  have a0 : (w.alloc (.cells #[.int .i64 p, .slice ao m cap] 32)).cell? ⟨w.heap.size, 0, none⟩ = some (.int .i64 p) := by simp
  have a1 : (w.alloc (.cells #[.int .i64 p, .slice ao m cap] 32)).cell? ⟨w.heap.size, 1, none⟩ = some (.slice ao m cap) := by simp
  have hA : Below w.heap.size w (w.alloc (.cells #[.int .i64 p, .slice ao m cap] 32)) := by (repeat' (first | (with_reducible exact Below.refl _ _) | (with_reducible assumption) | (with_reducible refine Below.alloc ?_ ?_ _) | (with_reducible refine Below.drew ?_) | (with_reducible refine below_drewN ?_ _) | (with_reducible refine Below.setCell ?_ ?_ _) | go_size))
  have zA : (w.alloc (.cells #[.int .i64 p, .slice ao m cap] 32)).heap.size = w.heap.size + 1 := by simp
  generalize w.alloc (.cells #[.int .i64 p, .slice ao m cap] 32) = wA at a0 a1 hA zA ⊢
  go_loopw [5, 10] (fun sv i wr => ∃ (k : Nat), k ≤ m ∧ i = .int .i64 k ∧ wr.ownsRow wA.heap.size 3 1 sv (enTo f k).length (intCells (enTo f k)) ∧ Below wA.heap.size wA wr) (fun _ i _ => m - (intOf i).toNat)
  case atStart => exact ⟨0, Nat.zero_le _, rfl, World.ownsRow_nil _ _ _ _, Below.refl _ _⟩
  case round =>
    obtain ⟨k, hk, rfl, hown, hb1⟩ := hrel
    have b0 := cell_carry a0 (Carries.of 0 hb1)
    have b1 := cell_carry a1 (Carries.of 0 hb1)
    have HO := Lib.hid hown; clear hown
    by_cases hlt : k < m
    · go_wp2_with fail
      refine (l1Ready_any _ n s k _ lo (HV.out.keep (Carries.of lo (hA.trans (hb1.mono (by omega))))) HS.out (by rw [← HMM.out]; exact hlt) (HI.out k (by rw [← HMM.out]; exact hlt)) hsz).mono ?_
      rintro e w3 ⟨rfl, hb⟩
      have hw3 : Below wA.heap.size wA w3 := hb1.trans (hb.mono hb1.size)
      have HO3 := Lib.hid (owns_after HO.out hb)
      have z3 := hw3.size
      clear hb b0 b1
      have hfk : readyB (bytes s) (n.ts.getD k ([], [])).1 = f k := by rw [HFN.out]; rfl
      rw [hfk]
      have hle := enTo_length f k
      cases hd : f k with
      | false =>
        have he := enTo_false hd
        have HO4 := Lib.hid (show w3.ownsRow wA.heap.size 3 1 _ (enTo f (k + 1)).length (intCells (enTo f (k + 1))) by rw [he]; exact HO3.out)
        clear he hd
        go_wp2_with fail
        go_roundw
        case rel => exact ⟨k + 1, by omega, by go_num, HO4.out, hw3⟩
        case measure => simp [intOf]; omega
      | true =>
        have he := Lib.hid (enTo_true hd)
        clear hd
        go_wp2_with (refine wpList_append_ints rfl (.tmp 17) (.tmp 19) rfl wA.heap.size 0 _ _ _ rfl (World.ownsRow.alloc HO3.out _) _ [(k : Int)] rfl (ints_one _ _ _) (by simp; omega) (by simp; omega) ?_; intro v' w' hown' hgrow)
        have hw4 : Below wA.heap.size wA w' := (hw3.alloc z3 _).grown hgrow (by simp; omega) (fun g hg => (HO3.out.lt g hg).1)
        have HO4 := Lib.hid (show w'.ownsRow wA.heap.size 3 1 v' (enTo f (k + 1)).length (intCells (enTo f (k + 1))) by rw [he.out, List.length_append, intCells_append]; exact hown')
        go_wp2_with fail
        go_roundw
        case rel => exact ⟨k + 1, by omega, by go_num, HO4.out, hw4⟩
        case measure => simp [intOf]; omega
    · have hkk : k = m := by omega
      subst hkk
      go_wp2_with fail
      go_ret
      exact ⟨_, rfl, Go.Joins.ownsRow_le HO.out (by omega), hA.trans (hb1.mono (by omega))⟩

end Go.Proofs.Ytkkfglolameogaa
