/- WALK: bits.OnesCount64.
   WALK: l1In of the model. -/
import Derived.Test.YtdiblkgjmkbpmaaGreatVPop
import Derived.Test.YtdiblkgjmkbpmaaGreatVInts
import Derived.Laws.Bits64b
import Derived.Laws.Bits128
import Derived.IntWalk
import Derived.Test.YtdiblkgjmkbpmaaGreatVNeta
namespace Go.Proofs.YtdiblkgjmkbpmaaGreat
open Go.RowKit

set_option maxRecDepth 100000 in
set_option maxHeartbeats 1000000 in
theorem OnesCount64_any (x : Nat) (w : World) (hx : x < 18446744073709551616) :
    Calls Tryz.prog 101 #[.int .u64 (x : Int)] w (fun e w' => e = .returned (.int .i64 ((popA 64 x : Nat) : Int)) ∧ w' = w) := by
  obtain ⟨h2, hh2⟩ : ∃ y, y = x / 2 := ⟨_, rfl⟩
  obtain ⟨p, hp⟩ : ∃ y, y = h2 &&& 6148914691236517205 := ⟨_, rfl⟩
  obtain ⟨q, hq⟩ : ∃ y, y = x &&& 6148914691236517205 := ⟨_, rfl⟩
  obtain ⟨a, ha⟩ : ∃ y, y = p + q := ⟨_, rfl⟩
  obtain ⟨h4, hh4⟩ : ∃ y, y = a / 4 := ⟨_, rfl⟩
  obtain ⟨r, hr⟩ : ∃ y, y = h4 &&& 3689348814741910323 := ⟨_, rfl⟩
  obtain ⟨s, hs⟩ : ∃ y, y = a &&& 3689348814741910323 := ⟨_, rfl⟩
  obtain ⟨b, hb⟩ : ∃ y, y = r + s := ⟨_, rfl⟩
  obtain ⟨h16, hh16⟩ : ∃ y, y = b / 16 := ⟨_, rfl⟩
  obtain ⟨t, ht⟩ : ∃ y, y = h16 + b := ⟨_, rfl⟩
  obtain ⟨c, hc⟩ : ∃ y, y = t &&& 1085102592571150095 := ⟨_, rfl⟩
  obtain ⟨g8, hg8⟩ : ∃ y, y = c / 256 := ⟨_, rfl⟩
  obtain ⟨d, hd⟩ : ∃ y, y = c + g8 := ⟨_, rfl⟩
  obtain ⟨g16, hg16⟩ : ∃ y, y = d / 65536 := ⟨_, rfl⟩
  obtain ⟨e, he⟩ : ∃ y, y = d + g16 := ⟨_, rfl⟩
  obtain ⟨g32, hg32⟩ : ∃ y, y = e / 4294967296 := ⟨_, rfl⟩
  obtain ⟨f, hf⟩ : ∃ y, y = e + g32 := ⟨_, rfl⟩
  have fit := swar_fit x hx a b c d e f (by rw [ha, hp, hq, hh2]) (by rw [hb, hr, hs, hh4]) (by rw [hc, ht, hh16]) (by rw [hd, hg8]) (by rw [he, hg16]) (by rw [hf, hg32])
  obtain ⟨k1, k2, k3, k4, k5, k6, k7⟩ := fit
  have kt : t < 18446744073709551616 := by rw [ht, hh16]; omega
  have e1 : (x : Int) / 2 = (h2 : Int) := by rw [hh2]; rfl
  have e2 : bits .and .u64 (h2 : Int) 6148914691236517205 = (p : Int) := by rw [hp]; exact bits_and_u64_nat h2 6148914691236517205 (by omega) (by omega)
  have e3 : bits .and .u64 (x : Int) 6148914691236517205 = (q : Int) := by rw [hq]; exact bits_and_u64_nat x 6148914691236517205 hx (by omega)
  have e4 : IntKind.u64.wrap ((p : Int) + (q : Int)) = (a : Int) := by rw [IntKind.wrap_u64]; omega
  have e5 : (a : Int) / 4 = (h4 : Int) := by rw [hh4]; rfl
  have e6 : bits .and .u64 (h4 : Int) 3689348814741910323 = (r : Int) := by rw [hr]; exact bits_and_u64_nat h4 3689348814741910323 (by omega) (by omega)
  have e7 : bits .and .u64 (a : Int) 3689348814741910323 = (s : Int) := by rw [hs]; exact bits_and_u64_nat a 3689348814741910323 k2 (by omega)
  have e8 : IntKind.u64.wrap ((r : Int) + (s : Int)) = (b : Int) := by rw [IntKind.wrap_u64]; omega
  have e9 : (b : Int) / 16 = (h16 : Int) := by rw [hh16]; rfl
  have e10 : IntKind.u64.wrap ((h16 : Int) + (b : Int)) = (t : Int) := by rw [IntKind.wrap_u64]; omega
  have e11 : bits .and .u64 (t : Int) 1085102592571150095 = (c : Int) := by rw [hc]; exact bits_and_u64_nat t 1085102592571150095 kt (by omega)
  have e12 : (c : Int) / 256 = (g8 : Int) := by rw [hg8]; rfl
  have e13 : IntKind.u64.wrap ((c : Int) + (g8 : Int)) = (d : Int) := by rw [IntKind.wrap_u64]; omega
  have e14 : (d : Int) / 65536 = (g16 : Int) := by rw [hg16]; rfl
  have e15 : IntKind.u64.wrap ((d : Int) + (g16 : Int)) = (e : Int) := by rw [IntKind.wrap_u64]; omega
  have e16 : (e : Int) / 4294967296 = (g32 : Int) := by rw [hg32]; rfl
  have e17 : IntKind.u64.wrap ((e : Int) + (g32 : Int)) = (f : Int) := by rw [IntKind.wrap_u64]; omega
  have e18 : IntKind.i64.wrap (f : Int) = (f : Int) := IntWalk.i64_in _ (by omega)
  have e19 : bits .and .i64 (f : Int) 127 = ((popA 64 x : Nat) : Int) := by rw [i64_and127]; omega
  clear hh2 hp hq ha hh4 hr hs hb hh16 ht hc hg8 hd hg16 he hg32 hf k1 k2 k3 k4 k5 k6 k7 kt hx
  generalize popA 64 x = Z at e19 ⊢
  go_enter Tryz.func101, Tryz.ntmps101
  go_wp2_with (simp only [e1, e2, e3, e4, e5, e6, e7, e8, e9, e10, e11, e12, e13, e14, e15, e16, e17, e18, e19])
  go_ret
  exact ⟨rfl, rfl⟩

end Go.Proofs.YtdiblkgjmkbpmaaGreat

namespace Go.Proofs.YtdiblkgjmkbpmaaGreat
open Go.RowKit

theorem l1In_any (n lo hi : Int) (w : World) :
    Calls Tryz.prog 56 #[.int .i64 n, .int .i64 lo, .int .i64 hi] w (RetB w (decide (lo ≤ n ∧ n ≤ hi))) := by
  by_cases h1 : lo ≤ n
  · by_cases h2 : n ≤ hi
    · rw [decide_eq_true (⟨h1, h2⟩ : lo ≤ n ∧ n ≤ hi)]
      go_enter Tryz.func56, Tryz.ntmps56
      go_wp2_with fail
      go_ret
      exact ⟨rfl, Below.refl _ _⟩
    · rw [decide_eq_false (fun h => h2 h.2 : ¬ (lo ≤ n ∧ n ≤ hi))]
      go_enter Tryz.func56, Tryz.ntmps56
      go_wp2_with fail
      go_ret
      exact ⟨rfl, Below.refl _ _⟩
  · rw [decide_eq_false (fun h => h1 h.1 : ¬ (lo ≤ n ∧ n ≤ hi))]
    go_enter Tryz.func56, Tryz.ntmps56
    go_wp2_with fail
    go_ret
    exact ⟨rfl, Below.refl _ _⟩

end Go.Proofs.YtdiblkgjmkbpmaaGreat
