/- CONTRACTS OF THE LIBRARY at this program, laid by program (gen/layshelf.py): Tryz.slices_Equal_int Tryz.slices_Equal_int_empty Tryz.slices_Equal_int_lens
   WALKS: slices.Equal of ints in one form; isCoSet, contains of the program. -/
import Derived.Shelf.Slices.Equal
import Derived.Shelf.Slices.Empties2
import Derived.Test.YtigkgfdnnfmmmaaGreatVInts
import Derived.Test.YtigkgfdnnfmmmaaGreatVHib
import Derived.Deep.QuietTactic
import Derived.BigQuiet
namespace Go.Proofs
open Go.Shelf
def Tryz.lays111_ren : Go.Shelf.Ren := ⟨fun | 111 => 66 | n => n, fun | 28 => 29 | 3 => 3 | 4 => 4 | 0 => 0 | n => n, fun | n => n⟩
theorem Tryz.lays111 : Go.Proofs.Lays.n111 Tryz.prog Tryz.lays111_ren := {
  mixed := by kernel_rfl
  f111 := Tryz.func66.trans (congrArg some (by kernel_rfl))
  t0 := Tryz.underlying0
  a0 := Tryz.isAgg0
  z0 := Tryz.sizeOf0
  v0 := Tryz.zeroValue0
  t3 := Tryz.underlying3
  a3 := Tryz.isAgg3
  z3 := Tryz.sizeOf3
  v3 := Tryz.zeroValue3
  t4 := Tryz.underlying4
  a4 := Tryz.isAgg4
  z4 := Tryz.sizeOf4
  v4 := Tryz.zeroValue4
  t28 := Tryz.underlying29
  a28 := Tryz.isAgg29
  z28 := Tryz.sizeOf29
  v28 := Tryz.zeroValue29 }
open Go.RowKit Go.Lib in
/-- slices.Equal at []int: "Equal reports whether two slices are equal: the same length and all elements equal. If the lengths are different, Equal returns false. Otherwise, the elements are compared in increasing index order, and the comparison stops at the first unequal pair. Empty and nil slices are considered equal.": IT RETURNS WHETHER THE TWO LISTS OF ELEMENTS ARE ONE; the world is as it was but for the count of draws (the test 's1[i] != s2[i]' has two reads, whose order the model draws, once a round). 'xs', 'ys': what the cells behind the two addresses hold (the spare capacity too, if you have it); 'xs.take n', 'ys.take m': the elements. THE TWO SLICES MAY OVERLAP. (LAID: no walk: one application.) -/
theorem Tryz.slices_Equal_int (b1 o1 n c b2 o2 m d : Nat) (xs ys : List Int) (w : World) (hx : n ≤ xs.length) (hy : m ≤ ys.length) (hbig : n ≤ 9223372036854775807) (hbig2 : m ≤ 9223372036854775807) (hc1 : ∀ j, j < xs.length → w.cell? ⟨b1, o1 + j, none⟩ = some (.int .i64 (xs.getD j 0))) (hc2 : ∀ j, j < ys.length → w.cell? ⟨b2, o2 + j, none⟩ = some (.int .i64 (ys.getD j 0))) :
    Calls Tryz.prog 66 #[.slice (some ⟨b1, o1, none⟩) n c, .slice (some ⟨b2, o2, none⟩) m d] w fun e w' => e = .returned (.bool (xs.take n == ys.take m)) ∧ ∃ q, w' = w.drewN q := Any.slices_Equal_int Tryz.lays111 b1 o1 n c b2 o2 m d xs ys w hx hy hbig hbig2 hc1 hc2
open Go.RowKit Go.Lib in
/-- The same where the first is of length 0 (a nil one too): no cell is asked for. (LAID: no walk: one application.) -/
theorem Tryz.slices_Equal_int_empty (a1 a2 : Option Addr) (c m d : Nat) (w : World) (hbig2 : m ≤ 9223372036854775807) :
    Calls Tryz.prog 66 #[.slice a1 0 c, .slice a2 m d] w fun e w' => e = .returned (.bool (decide (m = 0))) ∧ w' = w := Any.slices_Equal_int_empty Tryz.lays111 a1 a2 c m d w hbig2
open Go.RowKit Go.Lib in
theorem Tryz.slices_Equal_int_lens (a1 a2 : Option Addr) (n c m d : Nat) (w : World) (hnm : n ≠ m) :
    Calls Tryz.prog 66 #[.slice a1 n c, .slice a2 m d] w fun e w' => e = .returned (.bool false) ∧ w' = w := Any.slices_Equal_int_lens Tryz.lays111 a1 a2 n c m d w hnm
end Go.Proofs

namespace Go.Proofs.YtigkgfdnnfmmmaaGreat
open Go.RowKit

theorem EqualInts_any (v v' : Value) (xs ys : List Int) (w : World) (lo lo' : Nat) (hv : IntsAt lo w v xs) (hv' : IntsAt lo' w v' ys) (hx : xs.length ≤ 1048576) (hy : ys.length ≤ 1048576) :
    Calls Tryz.prog 66 #[v, v'] w (RetB w (decide (xs = ys))) := by
  obtain ⟨ao, cap, rfl, hc, hz⟩ := hv
  obtain ⟨ao', cap', rfl, hc', hz'⟩ := hv'
  by_cases hl : xs.length = ys.length
  · rcases hz with rfl | ⟨b, off, rfl, _, hcell⟩
    · have hy0 : ys = [] := List.eq_nil_of_length_eq_zero hl.symm
      subst hy0
      refine (Tryz.slices_Equal_int_empty ao ao' cap 0 cap' w (by omega)).mono ?_
      rintro e w1 ⟨rfl, rfl⟩
      exact ⟨rfl, Below.refl _ _⟩
    · rcases hz' with rfl | ⟨b', off', rfl, _, hcell'⟩
      · have hx0 : xs = [] := List.eq_nil_of_length_eq_zero hl
        subst hx0
        refine (Tryz.slices_Equal_int_empty _ ao' cap 0 cap' w (by omega)).mono ?_
        rintro e w1 ⟨rfl, rfl⟩
        exact ⟨rfl, Below.refl _ _⟩
      · refine (Tryz.slices_Equal_int b off xs.length cap b' off' ys.length cap' xs ys w (Nat.le_refl _) (Nat.le_refl _) (by omega) (by omega) hcell hcell').mono ?_
        rintro e w1 ⟨rfl, q, rfl⟩
        refine ⟨?_, below_drewN (Below.refl _ _) q⟩
        rw [List.take_length, List.take_length]
        congr 2
        rw [Bool.eq_iff_iff]
        simp
  · refine (Tryz.slices_Equal_int_lens ao ao' xs.length cap ys.length cap' w hl).mono ?_
    rintro e w1 ⟨rfl, rfl⟩
    refine ⟨?_, Below.refl _ _⟩
    rw [decide_eq_false (fun h => hl (by rw [h]))]

/-- a condition of the list is consumed by an event of the set -/
def usAt (us : List Nat) (L : List Int) (S : Nat) (k : Nat) : Bool := decide (us.getD (L.getD k 0).toNat 0 &&& S ≠ 0)
def coB (cs : List Cnd) (ps us : List Nat) (L : List Int) : Bool := !cfB us (paL cs ps L) && !anyTo L.length (usAt us L (paL cs ps L))

set_option maxRecDepth 100000 in
set_option maxHeartbeats 1000000 in
theorem coSetClo_any (B H : Nat) (w : World) (P : Int) (vt vc ve vp vu : Value) (cs : List Cnd) (es : List Ev) (ps us : List Nat) (S c b b2 : Nat) (h : HisAt B H w P vt vc ve vp vu cs es ps us) (hcl : c < us.length) (hul : us.length ≤ 1048576) (hf : Fit us) (hS : S < 18446744073709551616) (hb : w.cell? ⟨b, 0, none⟩ = some (.pointer (some ⟨H, 0, none⟩))) (hb2 : w.cell? ⟨b2, 0, none⟩ = some (.int .u64 (S : Int))) :
    Calls Tryz.prog 90 #[.int .i64 (c : Int), .pointer (some ⟨b, 0, none⟩), .pointer (some ⟨b2, 0, none⟩)] w (RetB w (decide (us.getD c 0 &&& S ≠ 0))) := by
  have c5 := h.c5
  have hat := h.ru.at
  obtain ⟨au, ku, rfl, _, hz⟩ := id hat
  clear hat h
  rcases hz with h0 | ⟨g, off, rfl, _, hcell⟩
  · omega
  have d0 := hcell c hcl
  have hu := hf c
  clear hcell hf
  generalize us.getD c 0 = u at d0 hu ⊢
  generalize us.length = n at *
  have e1 : bits .and .u64 (u : Int) (S : Int) = ((u &&& S : Nat) : Int) := bits_and_u64_nat u S hu hS
  generalize hX : u &&& S = X at e1 ⊢
  clear hX
  have e2 : (((X : Nat) : Int) != 0) = decide (X ≠ 0) := by
    rw [Bool.eq_iff_iff]; simp
  generalize decide (X ≠ 0) = R at e2 ⊢
  go_enter Tryz.func90, Tryz.ntmps90
  go_wp2
  go_quiet (fail)
  go_wp2_with fail
  go_ret
  exact ⟨by first | rfl | rw [← e2] | simp [e1, e2], below_drewN (Below.refl _ _) _⟩

set_option maxRecDepth 100000 in
set_option maxHeartbeats 1000000 in
theorem isCoSet_any (B H : Nat) (w : World) (P : Int) (vt vc ve vp vu : Value) (cs : List Cnd) (es : List Ev) (ps us : List Nat) (v : Value) (L : List Int) (lo : Nat) (h : HisAt B H w P vt vc ve vp vu cs es ps us) (hv : IntsAt lo w v L) (hl : L.length ≤ 1048576) (hin : ∀ k, k < L.length → 0 ≤ L.getD k 0 ∧ L.getD k 0 < (cs.length : Int)) (hby : ByIn cs ps.length) (hf : Fit ps) (hfu : Fit us) (hcl : cs.length ≤ 1048576) (hpl : ps.length ≤ 1048576) (hul : us.length = cs.length) :
    Calls Tryz.prog 68 #[.pointer (some ⟨H, 0, none⟩), v] w (RetB w (coB cs ps us L)) := by
  obtain ⟨S, hS⟩ : ∃ S, S = paL cs ps L := ⟨_, rfl⟩
  obtain ⟨q1, hq1⟩ : ∃ q, q = cfB us S := ⟨_, rfl⟩
  obtain ⟨q2, hq2⟩ : ∃ q, q = anyTo L.length (usAt us L S) := ⟨_, rfl⟩
  have e : coB cs ps us L = (!q1 && !q2) := by unfold coB; rw [← hS, ← hq1, ← hq2]
  rw [e]; clear e
  have hSf : S < 18446744073709551616 := by rw [hS]; exact paTo_fit hf _
  have HS := Lib.hid hS; clear hS
  have HQ1 := Lib.hid hq1; clear hq1
  have HQ2 := Lib.hid hq2; clear hq2
  have HH := Lib.hid h; clear h
  have HV := Lib.hid hv
  obtain ⟨ao, cap, rfl, _, _⟩ := hv
  have HIN := Lib.hid hin; clear hin
  have HBY := Lib.hid hby; clear hby
  have HF := Lib.hid hf; clear hf
  have HFU := Lib.hid hfu; clear hfu
  have HUL := Lib.hid hul; clear hul
  have hmf : ∀ (fn : Fn) (first cap : Array Value) (w : World), (Instr.makeFunc fn first cap).run Tryz.prog w = .ok (.func fn first cap) w := fun _ _ _ _ => rfl
  have HA : Below w.heap.size w (w.alloc (.cells #[.pointer (some ⟨H, 0, none⟩)] 70)) := (Below.refl _ _).alloc (Nat.le_refl _) _
  have hbx : (w.alloc (.cells #[.pointer (some ⟨H, 0, none⟩)] 70)).cell? ⟨w.heap.size, 0, none⟩ = some (.pointer (some ⟨H, 0, none⟩)) := cell_new1 rfl
  go_enter Tryz.func68, Tryz.ntmps68
  go_wp2_with fail
  refine (pastOf_any B H _ P vt vc ve vp vu cs es ps us _ L lo (HH.out.after HA) (HV.out.keep (Carries.of lo HA)) hl HIN.out HBY.out HF.out hcl hpl).mono ?_
  rintro e w1 ⟨rfl, hb⟩
  rw [← HS.out]
  have hw1 : Below w.heap.size w w1 := HA.trans (hb.mono (by simp))
  have hbx1 := cell_carry hbx (Carries.of 0 hb)
  clear hb hbx HA
  obtain ⟨W1, hW1⟩ : ∃ x, x = w1.alloc (.cells #[.int .u64 (S : Int)] 109) := ⟨_, rfl⟩
  have HA1 : Below w1.heap.size w1 W1 := by rw [hW1]; exact (Below.refl _ _).alloc (Nat.le_refl _) _
  have hby1 : W1.cell? ⟨w1.heap.size, 0, none⟩ = some (.int .u64 (S : Int)) := by rw [hW1]; exact cell_new1 rfl
  have hbx1 := cell_carry hbx1 (Carries.of 0 HA1)
  have hw1b : Below w.heap.size w W1 := hw1.trans (HA1.mono hw1.size)
  have hbx1c := hbx1
  rw [hW1] at hbx1c
  go_wp2_with (go_at_call 80; rw [← hW1]; clear hbx1c hW1; refine (hasNoConflict_any B H W1 P vt vc ve vp vu cs es ps us S (HH.out.after hw1b) (by rw [HUL.out]; exact hcl) HFU.out hSf).mono ?_)
  rintro e w2 ⟨rfl, hb⟩
  rw [← HQ1.out]
  have hw2 : Below w.heap.size w w2 := hw1b.trans (hb.mono hw1b.size)
  have hbx2 := cell_carry hbx1 (Carries.of 0 hb)
  have hby2 := cell_carry hby1 (Carries.of 0 hb)
  clear hb HA1 hbx1 hby1
  cases q1 with
  | true =>
    go_wp2_with fail
    go_ret
    exact ⟨rfl, hw2⟩
  | false =>
    go_wp2_with fail
    refine (ContainsFuncInt2_any _ L 90 _ _ (usAt us L S) _ lo (HV.out.keep (Carries.of lo hw2)) hl (fun _ _ => rfl) (fun k hk wx hbx => ?_)).mono ?_
    · obtain ⟨i0, i1⟩ := HIN.out k hk
      obtain ⟨c, hc⟩ : ∃ c : Nat, L.getD k 0 = (c : Int) := ⟨(L.getD k 0).toNat, by omega⟩
      have hg : usAt us L S k = decide (us.getD c 0 &&& S ≠ 0) := by unfold usAt; rw [hc, Int.toNat_natCast]
      rw [hg, hc]
      exact coSetClo_any B H wx P vt vc ve vp vu cs es ps us S c w.heap.size w1.heap.size (HH.out.after (hw2.trans (hbx.mono hw2.size))) (by rw [HUL.out]; omega) (by rw [HUL.out]; exact hcl) HFU.out hSf (cell_carry hbx2 (Carries.of 0 hbx)) (cell_carry hby2 (Carries.of 0 hbx))
    rintro e w3 ⟨rfl, hb⟩
    rw [← HQ2.out]
    have hw3 : Below w.heap.size w w3 := hw2.trans (hb.mono hw2.size)
    go_wp2_with fail
    go_ret
    exact ⟨rfl, hw3⟩

end Go.Proofs.YtigkgfdnnfmmmaaGreat
