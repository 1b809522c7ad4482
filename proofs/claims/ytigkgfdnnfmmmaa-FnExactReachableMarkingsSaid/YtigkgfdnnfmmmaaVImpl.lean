/- WALKS: isIndexList and IsValidNet of the program. -/
import Derived.Test.YtigkgfdnnfmmmaaVGood
namespace Go.Proofs.Ytigkgfdnnfmmmaa
open Go.RowKit

/-- the last number so far, -1 ahead of the first -/
def lastOf (l : List Int) (k : Nat) : Int := if k = 0 then -1 else l.getD (k - 1) 0
theorem lastOf_succ (l : List Int) (k : Nat) : lastOf l (k + 1) = l.getD k 0 := by unfold lastOf; simp
theorem rise_step {p : Int} {l : List Int} {k : Nat} (hk : RiseTo 0 (p - 1) l k) (h1 : lastOf l k < l.getD k 0) (h2 : l.getD k 0 < p) : RiseTo 0 (p - 1) l (k + 1) := by
  unfold lastOf at h1
  by_cases h : k = 0
  · subst h
    simp only [if_true] at h1
    exact hk.succ (by omega) (by omega) (fun h => absurd h (Nat.lt_irrefl _))
  · rw [if_neg h] at h1
    have h3 := hk (k - 1) (by omega)
    exact hk.succ (by omega) (by omega) (fun _ => h1)
theorem rise_stop {p : Int} {l : List Int} {k : Nat} (hk : k < l.length) (h : ¬ (lastOf l k < l.getD k 0 ∧ l.getD k 0 < p)) : riseB 0 (p - 1) l = false := by
  refine riseB_false hk fun hh => h ⟨?_, by omega⟩
  unfold lastOf
  by_cases h0 : k = 0
  · rw [if_pos h0]; omega
  · rw [if_neg h0]; exact hh.2.2 (by omega)

set_option maxRecDepth 100000 in
set_option maxHeartbeats 400000 in
theorem isIndexList_any (p : Int) (zs : List Int) (v : Value) (w : World) (B : Nat) (hv : IntsAt B w v zs) (hn : zs.length ≤ 1048576) :
    Calls Try.prog 108 #[v, .int .i64 p] w (RetB w (riseB 0 (p - 1) zs)) := by
  generalize hR : riseB 0 (p - 1) zs = r
  have HR := Lib.hid hR; clear hR
  obtain ⟨ao, cap, rfl, hc, hz⟩ := hv
  have HF := Lib.hid hz; clear hz
  go_enter Try.func108, Try.ntmps108
  go_wp2_with fail
  go_loop [5, 10] (fun l i => ∃ k : Nat, k ≤ zs.length ∧ i = .int .i64 k ∧ l = .int .i64 (lastOf zs k) ∧ Hid (RiseTo 0 (p - 1) zs k)) (fun _ i => zs.length - (intOf i).toNat)
  case atStart => exact ⟨0, Nat.zero_le _, rfl, rfl, RiseTo.zero _ _ _⟩
  case round =>
    obtain ⟨k, hk, rfl, rfl, hrt⟩ := hrel
    by_cases hlt : k < zs.length
    · rcases HF.out with rfl | ⟨b, off, rfl, hlo, hcell⟩
      · simp at hlt
      have c1 := hcell k hlt
      obtain ⟨x, hx⟩ : ∃ x, x = zs.getD k 0 := ⟨_, rfl⟩
      obtain ⟨y, hy⟩ : ∃ y, y = lastOf zs k := ⟨_, rfl⟩
      rw [← hx] at c1
      rw [← hy]
      have HX := Lib.hid hx; clear hx
      have HY := Lib.hid hy; clear hy
      clear hcell
      by_cases hin : y < x
      · by_cases hp : x < p
        · have H2 := Lib.hid (rise_step hrt.out (by rw [← HX.out, ← HY.out]; exact hin) (by rw [← HX.out]; exact hp))
          have H3 := Lib.hid (HX.out.trans (lastOf_succ zs k).symm)
          go_wp2_with fail
          go_round
          case rel => exact ⟨k + 1, by omega, by go_num, by rw [← H3.out], H2⟩
          case measure => simp [intOf]; omega
        · have hfin := rise_stop (p := p) hlt (fun h => hp (by rw [HX.out]; exact h.2))
          rw [HR.out] at hfin
          subst hfin
          go_wp2_with fail
          go_ret
          exact ⟨rfl, by (repeat' (first | (with_reducible exact Below.refl _ _) | (with_reducible assumption) | (with_reducible refine Below.alloc ?_ ?_ _) | (with_reducible refine Below.drew ?_) | (with_reducible refine below_drewN ?_ _) | (with_reducible refine Below.setCell ?_ ?_ _) | go_size))⟩
      · have hfin := rise_stop (p := p) hlt (fun h => hin (by rw [HX.out, HY.out]; exact h.1))
        rw [HR.out] at hfin
        subst hfin
        go_wp2_with fail
        go_ret
        exact ⟨rfl, by (repeat' (first | (with_reducible exact Below.refl _ _) | (with_reducible assumption) | (with_reducible refine Below.alloc ?_ ?_ _) | (with_reducible refine Below.drew ?_) | (with_reducible refine below_drewN ?_ _) | (with_reducible refine Below.setCell ?_ ?_ _) | go_size))⟩
    · have hkk : k = zs.length := by omega
      subst hkk
      have hfin := riseB_true hrt.out
      rw [HR.out] at hfin
      subst hfin
      go_wp2_with fail
      go_ret
      exact ⟨rfl, by (repeat' (first | (with_reducible exact Below.refl _ _) | (with_reducible assumption) | (with_reducible refine Below.alloc ?_ ?_ _) | (with_reducible refine Below.drew ?_) | (with_reducible refine below_drewN ?_ _) | (with_reducible refine Below.setCell ?_ ?_ _) | go_size))⟩

set_option maxRecDepth 100000 in
set_option maxHeartbeats 1000000 in
theorem IsValidNet_any (v : Value) (n : NetD) (w : World) (lo : Nat) (hv : NetAt lo w v n) (hs : SmallTrs n.ts) :
    Calls Try.prog 72 #[v] w (RetB w (goodN n)) := by
  generalize hG : goodN n = g
  have HG := Lib.hid hG; clear hG
  obtain ⟨p, ts⟩ := n
  obtain ⟨hp0, hp1, u, rfl, ht⟩ := hv
  simp only at hp0 hp1 ht hs
  obtain ⟨ao, cap, rfl, hc, hz⟩ := ht
  obtain ⟨hn, hsm⟩ := hs
  have HF := Lib.hid hz; clear hz
  have HS := Lib.hid hsm; clear hsm
  by_cases g1 : 1 ≤ p
  case neg =>
    have hfin : goodN ⟨p, ts⟩ = false := goodN_out (fun h => g1 h.1)
    rw [HG.out] at hfin
    subst hfin
    go_enter Try.func72, Try.ntmps72
    go_wp2_with fail
    go_ret
    exact ⟨rfl, by (repeat' (first | (with_reducible exact Below.refl _ _) | (with_reducible assumption) | (with_reducible refine Below.alloc ?_ ?_ _) | (with_reducible refine Below.drew ?_) | (with_reducible refine below_drewN ?_ _) | (with_reducible refine Below.setCell ?_ ?_ _) | go_size))⟩
  by_cases g2 : p ≤ 30
  case neg =>
    have hfin : goodN ⟨p, ts⟩ = false := goodN_out (fun h => g2 h.2)
    rw [HG.out] at hfin
    subst hfin
    go_enter Try.func72, Try.ntmps72
    go_wp2_with fail
    go_ret
    exact ⟨rfl, by (repeat' (first | (with_reducible exact Below.refl _ _) | (with_reducible assumption) | (with_reducible refine Below.alloc ?_ ?_ _) | (with_reducible refine Below.drew ?_) | (with_reducible refine below_drewN ?_ _) | (with_reducible refine Below.setCell ?_ ?_ _) | go_size))⟩
  by_cases g3 : ts.length ≤ 24
  case neg =>
    have hfin : goodN ⟨p, ts⟩ = false := goodN_long g3
    rw [HG.out] at hfin
    subst hfin
    go_enter Try.func72, Try.ntmps72
    go_wp2_with fail
    go_ret
    exact ⟨rfl, by (repeat' (first | (with_reducible exact Below.refl _ _) | (with_reducible assumption) | (with_reducible refine Below.alloc ?_ ?_ _) | (with_reducible refine Below.drew ?_) | (with_reducible refine below_drewN ?_ _) | (with_reducible refine Below.setCell ?_ ?_ _) | go_size))⟩
  go_enter Try.func72, Try.ntmps72
  go_wp2_with fail
  go_loopw [22] (fun i wr => ∃ k : Nat, k ≤ ts.length ∧ i = .int .i64 k ∧ Hid (trsGood (p - 1) (ts.take k) = true) ∧ Below w.heap.size w wr ∧ w.heap.size < wr.heap.size ∧ wr.cell? ⟨w.heap.size, 0, none⟩ = some (.int .i64 p) ∧ wr.cell? ⟨w.heap.size, 1, none⟩ = some (.slice ao ts.length cap)) (fun i _ => ts.length - (intOf i).toNat)
  case atStart => exact ⟨0, Nat.zero_le _, rfl, rfl, (Below.refl _ _).alloc (Nat.le_refl _) _, by simp, by simp, by simp⟩
  case round =>
    obtain ⟨k, hk, rfl, hall, hb1, hz1, hp, hq⟩ := hrel
    by_cases hlt : k < ts.length
    · rcases HF.out with rfl | ⟨b, off, rfl, hlo, hcell⟩
      · simp at hlt
      obtain ⟨x0, x1, c0, c1, hx⟩ := hcell k hlt
      have d0 := Carries.of lo hb1 _ _ hlo c0
      have d1 := Carries.of lo hb1 _ _ hlo c1
      obtain ⟨q1, q2⟩ := HS.out k hlt
      obtain ⟨t, htk⟩ : ∃ t, t = ts.getD k ([], []) := ⟨_, rfl⟩
      rw [← htk] at q1 q2 hx
      have HK := Lib.hid htk; clear htk
      have hx' := hx.keep (Carries.of lo hb1)
      have hx2 := hx'
      obtain ⟨⟨a0, k0, rfl, _, _⟩, ⟨a1, k1, rfl, _, _⟩⟩ := hx2
      have HX := Lib.hid hx'
      clear hcell c0 c1 hx hx'
      by_cases hem : t.1.length = 0
      · have hfin : goodN ⟨p, ts⟩ = false := goodN_bad (n := ⟨p, ts⟩) hlt (by rw [← HK.out]; unfold trGood; rw [List.eq_nil_of_length_eq_zero hem]; rfl)
        rw [HG.out] at hfin
        subst hfin
        have hem2 : ((t.1.length : Int) == 0) = true := by simp [hem]
        clear hem
        go_wp2_with fail
        go_ret
        exact ⟨rfl, by (repeat' (first | (with_reducible exact Below.refl _ _) | (with_reducible assumption) | (with_reducible refine Below.alloc ?_ ?_ _) | (with_reducible refine Below.drew ?_) | (with_reducible refine below_drewN ?_ _) | (with_reducible refine Below.setCell ?_ ?_ _) | go_size))⟩
      · have hem2 : ((t.1.length : Int) == 0) = false := by simpa using hem
        have hem3 : 0 < t.1.length := by omega
        clear hem
        go_wp2_with fail
        refine (isIndexList_any p t.1 _ _ lo (HX.out.1.keep ?_) q1).mono ?_
        · (repeat' (first | (with_reducible exact Carries.refl _ _) | (with_reducible assumption) | (with_reducible refine Carries.alloc ?_ _) | (with_reducible refine Carries.drew ?_) | (with_reducible refine Carries.drewN ?_ _) | (with_reducible refine Carries.set ?_ ?_ _) | go_size))
        rintro e w1 ⟨rfl, hb2⟩
        have hc2 : Carries 0 wr w1 := Carries.trans (by (repeat' (first | (with_reducible exact Carries.refl _ _) | (with_reducible assumption) | (with_reducible refine Carries.alloc ?_ _) | (with_reducible refine Carries.drew ?_) | (with_reducible refine Carries.drewN ?_ _) | (with_reducible refine Carries.set ?_ ?_ _) | go_size))) (Carries.of 0 hb2)
        have hp2 := cell_carry hp hc2
        have hq2 := cell_carry hq hc2
        have hz2 : wr.heap.size < w1.heap.size := by have := hb2.size; simp at this; omega
        have hw1 : Below w.heap.size w w1 := by
          refine Below.trans ?_ (hb2.mono ?_)
          · (repeat' (first | (with_reducible exact Below.refl _ _) | (with_reducible assumption) | (with_reducible refine Below.alloc ?_ ?_ _) | (with_reducible refine Below.drew ?_) | (with_reducible refine below_drewN ?_ _) | (with_reducible refine Below.setCell ?_ ?_ _) | go_size))
          · simp; omega
        have hbox : w1.cell? ⟨wr.heap.size, 1, none⟩ = some (.slice a1 t.2.length k1) := cell_carry (by simp) (Carries.of 0 hb2)
        have HX1 := Lib.hid (HX.out.2.keep (Carries.mono hc2 (Nat.zero_le lo)))
        clear hp hq hb2
        cases hd : riseB 0 (p - 1) t.1 with
        | false =>
          have hfin : goodN ⟨p, ts⟩ = false := by
            refine goodN_bad (n := ⟨p, ts⟩) hlt ?_
            rw [← HK.out]; unfold trGood; rw [hd]; simp
          rw [HG.out] at hfin
          subst hfin
          clear hd
          go_wp2_with fail
          go_ret
          exact ⟨rfl, hw1⟩
        | true =>
          have HD := Lib.hid hd; clear hd
          go_wp2_with fail
          refine (isIndexList_any p t.2 _ _ lo HX1.out q2).mono ?_
          rintro e w2 ⟨rfl, hb3⟩
          have hc3 : Carries 0 w1 w2 := Carries.of 0 hb3
          have hp3 := cell_carry hp2 hc3
          have hq3 := cell_carry hq2 hc3
          have hz3 : wr.heap.size < w2.heap.size := by have := hb3.size; omega
          have hz4 : w.heap.size < w2.heap.size := by omega
          have hw2 : Below w.heap.size w w2 := hw1.trans (hb3.mono (by omega))
          clear hp2 hq2 hb3
          cases hd : riseB 0 (p - 1) t.2 with
          | false =>
            have hfin : goodN ⟨p, ts⟩ = false := by
              refine goodN_bad (n := ⟨p, ts⟩) hlt ?_
              rw [← HK.out]; unfold trGood; rw [hd]; simp
            rw [HG.out] at hfin
            subst hfin
            clear hd
            go_wp2_with fail
            go_ret
            exact ⟨rfl, hw2⟩
          | true =>
            have H2 : Hid (trsGood (p - 1) (ts.take (k + 1)) = true) := by
              have hD := HD.out
              refine trsGood_take hlt hall.out ?_
              rw [← HK.out]; unfold trGood; rw [hd, hD]
              cases h : t.1 with
              | nil => rw [h] at hem3; simp at hem3
              | cons => rfl
            clear hd
            go_wp2_with fail
            go_roundw
            case rel => exact ⟨k + 1, by omega, by go_num, H2, hw2, hz4, hp3, hq3⟩
            case measure => simp [intOf]; omega
    · have hkk : k = ts.length := by omega
      subst hkk
      rw [List.take_length] at hall
      have hfin : goodN ⟨p, ts⟩ = true := by
        unfold goodN; rw [decide_eq_true (⟨g1, g2⟩ : 1 ≤ p ∧ p ≤ 30), decide_eq_true g3, hall.out]; rfl
      rw [HG.out] at hfin
      subst hfin
      go_wp2_with fail
      go_ret
      exact ⟨rfl, hb1⟩

end Go.Proofs.Ytigkgfdnnfmmmaa
