/- PLAIN PART: an int is among ints. No program is named here.
   WALKS: slices.Index, slices.Contains of ints. -/
import Derived.Test.YtnmoocgocnjdjaaVInts
namespace Go.Proofs.Ytnmoocgocnjdjaa
open Go.RowKit

def hasB (l : List Int) (x : Int) : Bool := decide (x ∈ l)
theorem hasB_true {l : List Int} {x : Int} {k : Nat} (hk : k < l.length) (h : l.getD k 0 = x) : hasB l x = true := by
  rw [getD_eq hk] at h; subst h
  exact decide_eq_true (List.getElem_mem hk)
theorem hasB_false {l : List Int} {x : Int} (h : ∀ i, i < l.length → l.getD i 0 ≠ x) : hasB l x = false := by
  refine decide_eq_false fun hm => ?_
  obtain ⟨i, hi, he⟩ := List.mem_iff_getElem.1 hm
  exact h i hi (by rw [getD_eq hi]; exact he)

end Go.Proofs.Ytnmoocgocnjdjaa

namespace Go.Proofs.Ytnmoocgocnjdjaa
open Go.RowKit

/-- a call returns a number that is at least 0 where x is in the list -/
def RetIdx (w : World) (zs : List Int) (x : Int) (e : Ending) (w' : World) : Prop := ∃ r : Int, e = .returned (.int .i64 r) ∧ -1 ≤ r ∧ r ≤ 4611686018427387904 ∧ hasB zs x = decide (0 ≤ r) ∧ Below w.heap.size w w'

set_option maxHeartbeats 400000 in
theorem Indexi_any (v : Value) (zs : List Int) (x : Int) (w : World) (lo : Nat) (hv : IntsAt lo w v zs) (hn : zs.length ≤ 4611686018427387904) :
    Calls Try.prog 159 #[v, .int .i64 x] w (RetIdx w zs x) := by
  generalize hR : hasB zs x = r
  have HR := Lib.hid hR; clear hR
  obtain ⟨ao, cap, rfl, hc, hz⟩ := hv
  have HF := Lib.hid hz; clear hz
  go_enter Try.func159, Try.ntmps159
  go_wp2_with fail
  go_loop [8] (fun i => ∃ k : Nat, k ≤ zs.length ∧ i = .int .i64 k ∧ Hid (∀ i, i < k → zs.getD i 0 ≠ x)) (fun i => zs.length - (intOf i).toNat)
  case atStart => exact ⟨0, Nat.zero_le _, rfl, fun i hi => absurd hi (Nat.not_lt_zero _)⟩
  case round =>
    obtain ⟨k, hk, rfl, hall⟩ := hrel
    by_cases hlt : k < zs.length
    · rcases HF.out with rfl | ⟨b, off, rfl, hlo, hcell⟩
      · simp at hlt
      have c1 := hcell k hlt
      obtain ⟨y, hy⟩ : ∃ y, y = zs.getD k 0 := ⟨_, rfl⟩
      rw [← hy] at c1
      have HY := Lib.hid hy; clear hy hcell
      by_cases he : y = x
      · have hfin := hasB_true hlt (HY.out.symm.trans he)
        have te : (x == y) = true := by simpa using he.symm
        clear he
        go_wp2_with fail
        go_ret
        refine ⟨(k : Int), rfl, by omega, by omega, ?_, Below.refl _ _⟩
        rw [hfin]; simp
      · have H2 : Hid (∀ i, i < k + 1 → zs.getD i 0 ≠ x) := by
          intro i hi
          by_cases e : i = k
          · subst e; rw [← HY.out]; exact he
          · exact hall.out i (by omega)
        have te : (x == y) = false := by simpa using fun h => he h.symm
        clear he
        go_wp2_with fail
        go_round
        case rel => exact ⟨k + 1, by omega, by go_num, H2⟩
        case measure => simp [intOf]; omega
    · have hkk : k = zs.length := by omega
      subst hkk
      have hfin := hasB_false hall.out
      go_wp2_with fail
      go_ret
      refine ⟨-1, rfl, by omega, by omega, ?_, Below.refl _ _⟩
      rw [hfin]; rfl

set_option maxHeartbeats 400000 in
theorem Containsi_any (v : Value) (zs : List Int) (x : Int) (w : World) (lo : Nat) (hv : IntsAt lo w v zs) (hn : zs.length ≤ 4611686018427387904) :
    Calls Try.prog 134 #[v, .int .i64 x] w (RetB w (hasB zs x)) := by
  generalize hR : hasB zs x = g
  have HR := Lib.hid hR; clear hR
  have hv2 := hv
  obtain ⟨ao, cap, rfl, _, _⟩ := hv2
  have HV := Lib.hid hv; clear hv
  go_enter Try.func134, Try.ntmps134
  go_wp2_with fail
  refine (Indexi_any _ zs x _ lo HV.out hn).mono ?_
  rintro e w1 ⟨r, rfl, h0, h1, hr, hb⟩
  have e1 := HR.out
  rw [hr] at e1
  clear hr
  by_cases h : 0 ≤ r
  · rw [decide_eq_true h] at e1
    subst e1
    go_wp2_with fail
    go_ret
    exact ⟨rfl, hb⟩
  · have h2 := decide_eq_false h
    rw [h2] at e1
    subst e1
    go_wp2_with fail
    go_ret
    exact ⟨rfl, hb⟩

end Go.Proofs.Ytnmoocgocnjdjaa
