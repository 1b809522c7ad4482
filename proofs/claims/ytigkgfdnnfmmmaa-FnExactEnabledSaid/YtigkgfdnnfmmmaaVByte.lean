/- PLAIN PART: a marking as bytes; strings of bytes.  WALK: l1Ready. -/
import Derived.Test.YtigkgfdnnfmmmaaVIndc
import Derived.Test.YtigkgfdnnfmmmaaVBst
namespace Go.Proofs.Ytigkgfdnnfmmmaa
open Go.RowKit

/-- numbers below N -/
def InS (N : Int) (ps : List Int) : Prop := ∀ i, i < ps.length → 0 ≤ ps.getD i 0 ∧ ps.getD i 0 < N
theorem riseB_inS {p : Int} {l : List Int} (h : riseB 0 (p - 1) l = true) : InS p l := fun i hi => by
  have h1 := of_decide_eq_true h i hi
  omega

/-- every place of the list is marked -/
def readyB (bs : List UInt8) (ps : List Int) : Bool := ps.all fun p => bs.getD p.toNat 0 == 49
theorem readyB_false {bs : List UInt8} {ps : List Int} {k : Nat} (hk : k < ps.length) (h : (bs.getD (ps.getD k 0).toNat 0 == 49) = false) : readyB bs ps = false := by
  unfold readyB
  rw [List.all_eq_false]
  exact ⟨ps[k], List.getElem_mem hk, by rw [← getD_eq hk, h]; simp⟩
theorem readyB_true {bs : List UInt8} {ps : List Int} (h : ∀ i, i < ps.length → (bs.getD (ps.getD i 0).toNat 0 == 49) = true) : readyB bs ps = true := by
  unfold readyB
  rw [List.all_eq_true]
  intro p hp
  obtain ⟨i, hi, rfl⟩ := List.mem_iff_getElem.1 hp
  rw [← getD_eq hi]; exact h i hi
theorem byte_49 (b : UInt8) : (b == 49) = ((b.toNat : Int) == 49) := by
  rw [Bool.eq_iff_iff]
  simp only [beq_iff_eq, ← UInt8.toNat_inj]
  have : (49 : UInt8).toNat = 49 := rfl
  omega
theorem byte_48 (b : UInt8) : (b == 48) = ((b.toNat : Int) == 48) := by
  rw [Bool.eq_iff_iff]
  simp only [beq_iff_eq, ← UInt8.toNat_inj]
  have : (48 : UInt8).toNat = 48 := rfl
  omega

set_option maxRecDepth 100000 in
set_option maxHeartbeats 1000000 in
theorem l1Ready_any (v : Value) (n : NetD) (s : ByteArray) (t : Nat) (w : World) (lo : Nat) (hv : NetAt lo w v n) (hs : SmallTrs n.ts) (ht : t < n.ts.length) (hin : InS s.size (n.ts.getD t ([], [])).1) (hsz : s.size ≤ 1048576) :
    Calls Try.prog 74 #[v, .string s, .int .i64 t] w (RetB w (readyB (bytes s) (n.ts.getD t ([], [])).1)) := by
  generalize hR : readyB (bytes s) (n.ts.getD t ([], [])).1 = r
  obtain ⟨hp0, hp1, q, rfl, hts⟩ := hv
  obtain ⟨ao, cap, rfl, hc, hz⟩ := hts
  have hmm := hs.1
  rcases hz with hz | ⟨b, off, rfl, hlo, hcell⟩
  · rw [hz] at ht; simp at ht
  obtain ⟨x0, x1, c0, c1, hx⟩ := hcell t ht
  have sx := hs.2 t ht
  obtain ⟨X, hX⟩ : ∃ X, X = n.ts.getD t ([], []) := ⟨_, rfl⟩
  rw [← hX] at hR hin hx sx
  clear hX hcell hs
  have HR := Lib.hid hR; clear hR
  have HI := Lib.hid hin; clear hin
  obtain ⟨m, hm⟩ : ∃ m, m = n.ts.length := ⟨_, rfl⟩
  rw [← hm] at ht hc hmm ⊢
  clear hm
  obtain ⟨⟨xa0, xk0, rfl, hxc, hxz⟩, _⟩ := hx
  have sx1 := sx.1
  clear sx c1
  have HF := Lib.hid hxz; clear hxz
  have d0 : (w.alloc (.cells #[.int .i64 n.places, .slice (some ⟨b, off, none⟩) m cap] 38)).cell? ⟨b, off + t * 2, none⟩ = some (.slice xa0 X.1.length xk0) := cell_carry c0 (by (repeat' (first | (with_reducible exact Carries.refl _ _) | (with_reducible assumption) | (with_reducible refine Carries.alloc ?_ _) | (with_reducible refine Carries.drew ?_) | (with_reducible refine Carries.drewN ?_ _) | (with_reducible refine Carries.set ?_ ?_ _) | go_size)))
  go_enter Try.func74, Try.ntmps74
  go_wp2_with fail
  go_loop [16] (fun i => ∃ k : Nat, k ≤ X.1.length ∧ i = .int .i64 k ∧ Hid (∀ i, i < k → ((bytes s).getD (X.1.getD i 0).toNat 0 == 49) = true)) (fun i => X.1.length - (intOf i).toNat)
  case atStart => exact ⟨0, Nat.zero_le _, rfl, fun i hi => absurd hi (Nat.not_lt_zero _)⟩
  case round =>
    obtain ⟨k, hk, rfl, hall⟩ := hrel
    by_cases hlt : k < X.1.length
    · rcases HF.out with hz | ⟨xb, xoff, rfl, hxlo, hxcell⟩
      · rw [hz] at hlt; simp at hlt
      have e1 := hxcell k hlt
      obtain ⟨i0, i1⟩ := HI.out k hlt
      obtain ⟨y, hy⟩ : ∃ y, y = X.1.getD k 0 := ⟨_, rfl⟩
      rw [← hy] at e1 i0 i1
      obtain ⟨q, rfl⟩ := Int.eq_ofNat_of_zero_le i0
      have HY := Lib.hid hy; clear hy hxcell
      have i2 : q < s.size := by omega
      have e2 : (w.alloc (.cells #[.int .i64 n.places, .slice (some ⟨b, off, none⟩) m cap] 38)).cell? ⟨xb, xoff + k, none⟩ = some (.int .i64 q) := cell_carry e1 (by (repeat' (first | (with_reducible exact Carries.refl _ _) | (with_reducible assumption) | (with_reducible refine Carries.alloc ?_ _) | (with_reducible refine Carries.drew ?_) | (with_reducible refine Carries.drewN ?_ _) | (with_reducible refine Carries.set ?_ ?_ _) | go_size)))
      by_cases h9 : s[q].toNat = 49
      · have H2 : Hid (∀ i, i < k + 1 → ((bytes s).getD (X.1.getD i 0).toNat 0 == 49) = true) := by
          intro i hi
          by_cases e : i = k
          · subst e; rw [← HY.out, Int.toNat_natCast, byte_at i2, byte_49, h9]; rfl
          · exact hall.out i (by omega)
        have t9 : ((s[q].toNat : Int) != 49) = false := by rw [h9]; rfl
        clear h9
        go_wp2_with fail
        go_round
        case rel => exact ⟨k + 1, by omega, by go_num, H2⟩
        case measure => simp [intOf]; omega
      · have t9 : ((s[q].toNat : Int) != 49) = true := by rw [bne_iff_ne]; omega
        have hfin := readyB_false (bs := bytes s) hlt (by rw [← HY.out, Int.toNat_natCast, byte_at i2, byte_49]; rw [beq_eq_false_iff_ne]; omega)
        rw [HR.out] at hfin
        subst hfin
        clear h9
        go_wp2_with fail
        go_ret
        exact ⟨rfl, by (repeat' (first | (with_reducible exact Below.refl _ _) | (with_reducible assumption) | (with_reducible refine Below.alloc ?_ ?_ _) | (with_reducible refine Below.drew ?_) | (with_reducible refine below_drewN ?_ _) | (with_reducible refine Below.setCell ?_ ?_ _) | go_size))⟩
    · have hkk : k = X.1.length := by omega
      subst hkk
      have hfin := readyB_true hall.out
      rw [HR.out] at hfin
      subst hfin
      go_wp2_with fail
      go_ret
      exact ⟨rfl, by (repeat' (first | (with_reducible exact Below.refl _ _) | (with_reducible assumption) | (with_reducible refine Below.alloc ?_ ?_ _) | (with_reducible refine Below.drew ?_) | (with_reducible refine below_drewN ?_ _) | (with_reducible refine Below.setCell ?_ ?_ _) | go_size))⟩

end Go.Proofs.Ytigkgfdnnfmmmaa
