/-
  WALKS: l2Signal, SignalIndex of the model and of the program.
-/
import Derived.Test.YtlakcjcmbhkcdaaStgt
import Derived.Test.YtlakcjcmbhkcdaaStgj
namespace Go.Proofs.Ytlakcjcmbhkcdaa
open Go.RowKit

/-- the number, -1 where there is none -/
def idxN (o : Option Nat) : Int := match o with
  | some k => k
  | none => -1

set_option maxHeartbeats 1000000 in
theorem l2Signal_any (v : Value) (ss : List Sig) (s : ByteArray) (w : World) (lo : Nat) (hv : SigsAt lo w v ss) (hn : ss.length ≤ 1048576) :
    Calls Try.prog 90 #[v, .string s] w (RetV w (.int .i64 (idxN (sigF ss s)))) := by
  generalize hG : sigF ss s = g
  have HG := Lib.hid hG; clear hG
  obtain ⟨ao, cap, rfl, hc, hz⟩ := hv
  have HF := Lib.hid hz; clear hz
  go_enter Try.func90, Try.ntmps90
  go_wp2_with fail
  go_loopw [9] (fun i wr => ∃ k : Nat, k ≤ ss.length ∧ i = .int .i64 k ∧ Hid (∀ i, i < k → sgN ss i ≠ s) ∧ Below w.heap.size w wr) (fun i _ => ss.length - (intOf i).toNat)
  case atStart => exact ⟨0, Nat.zero_le _, rfl, fun i hi => absurd hi (Nat.not_lt_zero _), Below.refl _ _⟩
  case round =>
    obtain ⟨k, hk, rfl, hall, hb1⟩ := hrel
    have zz1 := hb1.size
    by_cases hlt : k < ss.length
    · rcases HF.out with h0 | ⟨b, off, rfl, hlo, hcell⟩
      · omega
      obtain ⟨c0, c1⟩ := hcell k hlt
      have d0 := Carries.of lo hb1 _ _ hlo c0
      have d1 := Carries.of lo hb1 _ _ hlo c1
      clear hcell c0 c1
      by_cases he : sgN ss k = s
      · have hfin := sigF_some hlt hall.out he
        rw [HG.out] at hfin
        subst hfin
        have t0 : ((sgN ss k).toList == s.toList) = true := by rw [bytes_toList_beq]; exact decide_eq_true he
        clear he
        go_wp2_with fail
        go_ret
        exact ⟨rfl, by (repeat' (first | (with_reducible exact Below.refl _ _) | (with_reducible assumption) | (with_reducible refine Below.alloc ?_ ?_ _) | (with_reducible refine Below.drew ?_) | (with_reducible refine below_drewN ?_ _) | (with_reducible refine Below.setCell ?_ ?_ _) | go_size))⟩
      · have t0 : ((sgN ss k).toList == s.toList) = false := by rw [bytes_toList_beq]; exact decide_eq_false he
        have H2 : Hid (∀ i, i < k + 1 → sgN ss i ≠ s) := by
          intro i hi
          by_cases e : i = k
          · subst e; exact he
          · exact hall.out i (by omega)
        clear he
        go_wp2_with fail
        go_roundw
        case rel => exact ⟨k + 1, by omega, by go_num, H2, by (repeat' (first | (with_reducible exact Below.refl _ _) | (with_reducible assumption) | (with_reducible refine Below.alloc ?_ ?_ _) | (with_reducible refine Below.drew ?_) | (with_reducible refine below_drewN ?_ _) | (with_reducible refine Below.setCell ?_ ?_ _) | go_size))⟩
        case measure => simp [intOf]; omega
    · have hkk : k = ss.length := by omega
      subst hkk
      have hfin := sigF_none hall.out
      rw [HG.out] at hfin
      subst hfin
      go_wp2_with fail
      go_ret
      exact ⟨rfl, hb1⟩

/-- the signal of that name in a valid graph -/
def idxO (s : StgD) (name : ByteArray) : Option Nat := if goodS s = true then sigF s.sigs name else none

set_option maxRecDepth 100000 in
set_option maxHeartbeats 1000000 in
theorem specSignalIndex_any (v : Value) (s : StgD) (name : ByteArray) (w : World) (lo : Nat) (hv : StgAt lo w v s) (hs : SmallStg s) :
    Calls Try.prog 41 #[v, .string name] w (RetV w (.tuple #[.int .i64 (idxI (idxO s name)), .bool (idxB (idxO s name))])) := by
  generalize hO : idxO s name = o
  unfold idxO at hO
  obtain ⟨a0, c0, a1, c1, a2, c2, rfl, hn, hsg, hl⟩ := hv.form
  clear hn hl
  have HV := Lib.hid hv; clear hv
  have HG := Lib.hid hsg; clear hsg
  have hss := hs.2.1.1
  have HS := Lib.hid hs; clear hs
  obtain ⟨p, hp⟩ : ∃ p, p = s.net.places := ⟨_, rfl⟩
  obtain ⟨m, hm⟩ : ∃ m, m = s.net.ts.length := ⟨_, rfl⟩
  obtain ⟨ns, hns⟩ : ∃ ns, ns = s.sigs.length := ⟨_, rfl⟩
  obtain ⟨nl, hnl⟩ : ∃ nl, nl = s.labs.length := ⟨_, rfl⟩
  obtain ⟨st, hst⟩ : ∃ st, st = s.start := ⟨_, rfl⟩
  rw [← hp, ← hm, ← hns, ← hnl, ← hst] at HV ⊢
  rw [← hns] at HG hss
  have HNS := Lib.hid hns
  clear hp hm hns hnl hst
  have HO := Lib.hid hO; clear hO
  go_enter Try.func41, Try.ntmps41
  go_wp2_with fail
  refine (l2Good_any _ s _ lo (HV.out.keep ?_) HS.out).mono ?_
  · (repeat' (first | (with_reducible exact Carries.refl _ _) | (with_reducible assumption) | (with_reducible refine Carries.alloc ?_ _) | (with_reducible refine Carries.drew ?_) | (with_reducible refine Carries.drewN ?_ _) | (with_reducible refine Carries.set ?_ ?_ _) | go_size))
  rintro e w1 ⟨rfl, hb⟩
  have hw1 : Below w.heap.size w w1 := by
    refine Below.trans ?_ (hb.mono ?_)
    · (repeat' (first | (with_reducible exact Below.refl _ _) | (with_reducible assumption) | (with_reducible refine Below.alloc ?_ ?_ _) | (with_reducible refine Below.drew ?_) | (with_reducible refine below_drewN ?_ _) | (with_reducible refine Below.setCell ?_ ?_ _) | go_size))
    · simp
  have x2 : w1.cell? ⟨w.heap.size, 2, none⟩ = some (.slice a1 ns c1) := cell_carry (by simp) (Carries.of 0 hb)
  clear hb
  cases hg : goodS s with
  | false =>
    have := HO.out
    rw [hg] at this
    simp only [Bool.false_eq_true, if_false] at this
    subst this
    clear hg
    go_wp2_with fail
    go_ret2
    exact ⟨rfl, hw1⟩
  | true =>
  have ho := HO.out
  rw [hg, if_pos rfl] at ho
  have HO2 := Lib.hid ho; clear ho hg HO
  go_wp2_with fail
  refine (l2Signal_any _ s.sigs name _ lo (HG.out.keep (Carries.of lo hw1)) (by rw [← HNS.out]; exact hss)).mono ?_
  rintro e w2 ⟨rfl, hb⟩
  have hw2 : Below w.heap.size w w2 := hw1.trans (hb.mono hw1.size)
  have x2 := cell_carry x2 (Carries.of 0 hb)
  clear hb
  rw [HO2.out]
  cases o with
  | none =>
    go_wp2_with fail
    go_ret2
    exact ⟨rfl, hw2⟩
  | some k =>
    have hk : ¬ (k : Int) < 0 := by omega
    go_wp2_with fail
    refine (l2Signal_any _ s.sigs name _ lo (HG.out.keep (Carries.of lo hw2)) (by rw [← HNS.out]; exact hss)).mono ?_
    rintro e w3 ⟨rfl, hb⟩
    have hw3 : Below w.heap.size w w3 := hw2.trans (hb.mono hw2.size)
    rw [HO2.out]
    go_wp2_with fail
    go_ret2
    exact ⟨rfl, hw3⟩

set_option maxRecDepth 100000 in
set_option maxHeartbeats 1000000 in
theorem SignalIndex_any (v : Value) (s : StgD) (name : ByteArray) (w : World) (lo : Nat) (hv : StgAt lo w v s) (hs : SmallStg s) :
    Calls Try.prog 42 #[v, .string name] w (RetV w (.tuple #[.int .i64 (idxI (idxO s name)), .bool (idxB (idxO s name))])) := by
  generalize hO : idxO s name = o
  unfold idxO at hO
  obtain ⟨a0, c0, a1, c1, a2, c2, rfl, hn, hsg, hl⟩ := hv.form
  clear hn hl
  have HV := Lib.hid hv; clear hv
  have HG := Lib.hid hsg; clear hsg
  have hss := hs.2.1.1
  have HS := Lib.hid hs; clear hs
  obtain ⟨p, hp⟩ : ∃ p, p = s.net.places := ⟨_, rfl⟩
  obtain ⟨m, hm⟩ : ∃ m, m = s.net.ts.length := ⟨_, rfl⟩
  obtain ⟨ns, hns⟩ : ∃ ns, ns = s.sigs.length := ⟨_, rfl⟩
  obtain ⟨nl, hnl⟩ : ∃ nl, nl = s.labs.length := ⟨_, rfl⟩
  obtain ⟨st, hst⟩ : ∃ st, st = s.start := ⟨_, rfl⟩
  rw [← hp, ← hm, ← hns, ← hnl, ← hst] at HV ⊢
  rw [← hns] at HG hss
  have HNS := Lib.hid hns
  clear hp hm hns hnl hst
  have HO := Lib.hid hO; clear hO
  go_enter Try.func42, Try.ntmps42
  go_wp2_with fail
  refine (IsValidSTG_any _ s _ lo (HV.out.keep ?_) HS.out).mono ?_
  · (repeat' (first | (with_reducible exact Carries.refl _ _) | (with_reducible assumption) | (with_reducible refine Carries.alloc ?_ _) | (with_reducible refine Carries.drew ?_) | (with_reducible refine Carries.drewN ?_ _) | (with_reducible refine Carries.set ?_ ?_ _) | go_size))
  rintro e w1 ⟨rfl, hb⟩
  have hw1 : Below w.heap.size w w1 := by
    refine Below.trans ?_ (hb.mono ?_)
    · (repeat' (first | (with_reducible exact Below.refl _ _) | (with_reducible assumption) | (with_reducible refine Below.alloc ?_ ?_ _) | (with_reducible refine Below.drew ?_) | (with_reducible refine below_drewN ?_ _) | (with_reducible refine Below.setCell ?_ ?_ _) | go_size))
    · simp
  have x2 : w1.cell? ⟨w.heap.size, 2, none⟩ = some (.slice a1 ns c1) := cell_carry (by simp) (Carries.of 0 hb)
  clear hb
  cases hg : goodS s with
  | false =>
    have := HO.out
    rw [hg] at this
    simp only [Bool.false_eq_true, if_false] at this
    subst this
    clear hg
    go_wp2_with fail
    go_ret2
    exact ⟨rfl, hw1⟩
  | true =>
  have ho := HO.out
  rw [hg, if_pos rfl] at ho
  have HO2 := Lib.hid ho; clear ho hg HO
  go_wp2_with fail
  refine (findSignal_any _ s.sigs name _ lo (HG.out.keep (Carries.of lo hw1)) (by rw [← HNS.out]; exact hss)).mono ?_
  rintro e w2 ⟨rfl, hb⟩
  have hw2 : Below w.heap.size w w2 := hw1.trans (hb.mono hw1.size)
  clear hb
  rw [HO2.out]
  go_wp2_with fail
  go_ret2
  exact ⟨rfl, hw2⟩

end Go.Proofs.Ytlakcjcmbhkcdaa
