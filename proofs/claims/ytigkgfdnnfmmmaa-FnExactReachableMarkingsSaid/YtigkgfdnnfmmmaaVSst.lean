/- WALK: ReachableMarkings of the model.
   CONTRACTS OF THE LIBRARY at this program, laid by program (gen/layshelf.py): Try.slices_Sort_string Try.slices_Sort_string_none -/
import Derived.Test.YtigkgfdnnfmmmaaVExk
import Derived.Test.YtigkgfdnnfmmmaaVLps
import Derived.Shelf.Sort.Plain
import Derived.Shelf.Slices.In.SortNone
import Derived.Test.YtigkgfdnnfmmmaaVInts
namespace Go.Proofs.Ytigkgfdnnfmmmaa
open Go.RowKit

/-- what ReachableMarkings answers, as data: the texts put one by one -/
def putTo (l : List ByteArray) : Nat → List ByteArray
  | 0 => []
  | k + 1 => putS (putTo l k) (stN l k)
theorem putTo_length (l : List ByteArray) : ∀ k, (putTo l k).length ≤ k
  | 0 => Nat.le_refl _
  | k + 1 => by
    have h1 := putS_length (putTo l k) (stN l k)
    have h2 := putTo_length l k
    show (putS (putTo l k) (stN l k)).length ≤ k + 1
    omega
def rmL (n : NetD) (s : ByteArray) : List ByteArray := if askB n s = true then (match exF n false 600 s with
  | .done x => putTo x.ms x.ms.length
  | _ => []) else []
def RetTB (w : World) (l : List ByteArray) (b : Bool) (e : Ending) (w' : World) : Prop := ∃ v, e = .returned (.tuple #[v, .bool b]) ∧ SRow w.heap.size w' v l ∧ Below w.heap.size w w'

set_option maxRecDepth 100000 in
set_option maxHeartbeats 2000000 in
theorem specReachableMarkings_any (v : Value) (n : NetD) (s : ByteArray) (w : World) (lo : Nat) (hv : NetAt lo w v n) (hsm : SmallTrs n.ts) (hs : s.size ≤ 1048576) :
    Calls Try.prog 29 #[v, .string s] w (RetTB w (rmL n s) (sfV n s)) := by
  obtain ⟨L, hL⟩ : ∃ q, q = rmL n s := ⟨_, rfl⟩
  obtain ⟨b, hb⟩ : ∃ q, q = sfV n s := ⟨_, rfl⟩
  rw [← hL, ← hb]
  have HL := Lib.hid hL; have HB := Lib.hid hb
  clear hL hb
  obtain ⟨p, hp⟩ : ∃ p, p = n.places := ⟨_, rfl⟩
  have hv' := hv
  obtain ⟨hp0, hp1, u, rfl, ht⟩ := hv'
  obtain ⟨ao, cap, hu, hc, hz⟩ := id ht
  subst hu
  obtain ⟨m, hm⟩ : ∃ m, m = n.ts.length := ⟨_, rfl⟩
  rw [← hp, ← hm] at hv ⊢
  have HV := Lib.hid hv; have HS := Lib.hid hsm
  clear hv ht hz hc hm hsm hp hp0 hp1
  go_enter Try.func29, Try.ntmps29
  go_wp2_with fail
  have hb0 : Below w.heap.size w (w.alloc (.cells #[.int .i64 p, .slice ao m cap] 38)) := (Below.refl _ _).alloc (Nat.le_refl _) _
  have c0 : (w.alloc (.cells #[.int .i64 p, .slice ao m cap] 38)).cell? ⟨w.heap.size, 0, none⟩ = some (.int .i64 p) := by simp
  have c1 : (w.alloc (.cells #[.int .i64 p, .slice ao m cap] 38)).cell? ⟨w.heap.size, 1, none⟩ = some (.slice ao m cap) := by simp
  generalize w.alloc (.cells #[.int .i64 p, .slice ao m cap] 38) = W at hb0 c0 c1 ⊢
  refine (l7AskedX_any _ n s W lo (HV.out.keep (Carries.of lo hb0)) HS.out hs).mono ?_
  rintro e w1 ⟨rfl, hb1⟩
  have hw1 : Below w.heap.size w w1 := hb0.trans (hb1.mono hb0.size)
  have c0 := cell_carry c0 (Carries.of 0 hb1)
  have c1 := cell_carry c1 (Carries.of 0 hb1)
  clear hb0 hb1
  cases hq : askB n s with
  | false =>
    have e1 : L = [] := by rw [HL.out]; unfold rmL; rw [hq]; rfl
    have e2 : b = false := by rw [HB.out]; unfold sfV; rw [hq]; rfl
    subst e1; subst e2
    clear hq
    go_wp2_with fail
    go_ret2
    exact ⟨_, rfl, World.ownsRow_nil _ _ _ _, hw1⟩
  | true =>
  have HAK := Lib.hid hq
  have hq2 := hq
  unfold askB at hq2
  simp only [Bool.and_eq_true] at hq2
  have HG := Lib.hid hq2.1; have HM := Lib.hid hq2.2
  clear hq hq2
  go_wp2_with fail
  refine (l9Met_any _ n s w1 lo (HV.out.keep (Carries.of lo hw1)) HS.out HG.out HM.out).mono ?_
  rintro e w2 ⟨hb2, hc⟩
  have hw2 : Below w.heap.size w w2 := hw1.trans (hb2.mono hw1.size)
  rcases hc with ⟨s', v', i, k, t, hf, rfl, ho, hro⟩ | ⟨k, t, s', hf, rfl⟩ | ⟨hf, rfl⟩
  · have e1 : L = putTo s'.ms s'.ms.length := by rw [HL.out]; unfold rmL; rw [HAK.out, hf]; rfl
    have e2 : b = true := by rw [HB.out]; unfold sfV; rw [HAK.out, hf]; rfl
    subst e2
    have HE := Lib.hid e1
    have hms : s'.ms.length ≤ 1000000 := by
      have h1 := ho.bound
      have h2 := ho.tle
      have h3 := (goodN_parts HG.out).2.2.1
      omega
    obtain ⟨a6, c6, rfl⟩ := hro.form
    have HR := Lib.hid hro
    obtain ⟨N, hN⟩ : ∃ q, q = s'.ms.length := ⟨_, rfl⟩
    have HN := Lib.hid hN
    rw [← hN] at hms HR HE ⊢
    clear hf ho hro hb2 hN e1
    go_wp2_with fail
    go_loopw [9, 31] (fun v9 v31 wr => ∃ j : Nat, j ≤ N ∧ v31 = .int .i64 (j : Int) ∧ Hid (SRow w.heap.size wr v9 (putTo s'.ms j)) ∧ Hid (SRow w1.heap.size wr (.slice a6 N c6) s'.ms) ∧ Below w.heap.size w wr) (fun _ v31 _ => N - (intOf v31).toNat)
    case atStart => exact ⟨0, Nat.zero_le _, rfl, World.ownsRow_nil _ _ _ _, HR, hw2⟩
    case round =>
      obtain ⟨j, hj, rfl, hpr, hrr, hbw⟩ := hrel
      obtain ⟨a9, c9, rfl⟩ := hpr.out.form
      by_cases hlt : j < N
      · have t0 : decide ((j : Int) < (N : Int)) = true := decide_eq_true (by omega)
        obtain ⟨g6, rfl⟩ : ∃ g, a6 = some ⟨g, 0, none⟩ := by
          rcases hrr.out.2 with ⟨hv0, hn0⟩ | ⟨g, cap', cur, hv0, _⟩
          · rw [← HN.out] at hn0; omega
          · injection hv0 with e1 e2 e3; exact ⟨g, e1⟩
        have hcj : wr.cell? ⟨g6, j, none⟩ = some (.string (stN s'.ms j)) := by
          have h := hrr.out
          unfold SRow at h
          rw [← HN.out] at h
          rw [h.cellAt j (by omega)]
          exact txCells_get (by rw [← HN.out]; exact hlt)
        obtain ⟨x, hx⟩ : ∃ q, q = stN s'.ms j := ⟨_, rfl⟩
        rw [← hx] at hcj
        have HX := Lib.hid hx
        have hpl := putTo_length s'.ms j
        obtain ⟨P, hP⟩ : ∃ q, q = putTo s'.ms j := ⟨_, rfl⟩
        rw [← hP] at hpr hpl ⊢
        have HP := Lib.hid hP
        clear hx hP
        go_wp2_with fail
        refine (l9PutS_any _ P x wr w.heap.size hpr.out hbw.size (by omega)).mono ?_
        rintro e w3 ⟨v3, rfl, hr3, hb3⟩
        have HR3 := Lib.hid (show SRow w.heap.size w3 v3 (putTo s'.ms (j + 1)) by
          show SRow _ _ _ (putS (putTo s'.ms j) (stN s'.ms j))
          rw [← HP.out, ← HX.out]; exact hr3)
        have HQ3 := Lib.hid (owns_after hrr.out hb3)
        have hw3 := hbw.trans (hb3.mono hbw.size)
        clear hr3 hb3
        go_wp2_with fail
        go_roundw
        case rel => exact ⟨j + 1, by omega, by go_num, HR3, HQ3, hw3⟩
        case measure => simp [intOf]; omega
      · have t0 : decide ((j : Int) < (N : Int)) = false := by rw [decide_eq_false_iff_not]; omega
        have hjN : j = N := by omega
        subst hjN
        go_wp2_with fail
        go_ret2
        exact ⟨_, rfl, by rw [HE.out]; exact hpr.out, hbw⟩
  · have e1 : L = [] := by rw [HL.out]; unfold rmL; rw [HAK.out, hf]; rfl
    have e2 : b = false := by rw [HB.out]; unfold sfV; rw [HAK.out, hf]; rfl
    subst e1; subst e2
    clear hf hb2
    go_wp2_with fail
    go_ret2
    exact ⟨_, rfl, World.ownsRow_nil _ _ _ _, hw2⟩
  · have e1 : L = [] := by rw [HL.out]; unfold rmL; rw [HAK.out, hf]; rfl
    have e2 : b = false := by rw [HB.out]; unfold sfV; rw [HAK.out, hf]; rfl
    subst e1; subst e2
    clear hf hb2
    go_wp2_with fail
    go_ret2
    exact ⟨_, rfl, World.ownsRow_nil _ _ _ _, hw2⟩

end Go.Proofs.Ytigkgfdnnfmmmaa

namespace Go.Proofs
open Go.Shelf
def Try.lays190_ren : Go.Shelf.Ren := ⟨fun | 190 => 67 | 125 => 106 | 258 => 105 | 128 => 128 | 129 => 129 | 302 => 119 | 303 => 120 | 304 => 121 | 305 => 122 | 306 => 123 | 307 => 124 | 308 => 125 | 309 => 126 | 310 => 127 | 333 => 134 | 329 => 135 | 330 => 136 | 334 => 137 | 335 => 138 | 336 => 139 | 344 => 142 | n => n, fun | 31 => 30 | 9 => 9 | 3 => 3 | 46 => 153 | 0 => 0 | 51 => 171 | 53 => 173 | 4 => 4 | 183 => 164 | 182 => 163 | 131 => 158 | 5 => 5 | 218 => 178 | 222 => 182 | 228 => 188 | 229 => 189 | n => n, fun | n => n⟩
theorem Try.lays190 : Go.Proofs.Lays.n190 Try.prog Try.lays190_ren := {
  mixed := by kernel_rfl
  f125 := Try.func106.trans (congrArg some (by kernel_rfl))
  f128 := Try.func128.trans (congrArg some (by kernel_rfl))
  f129 := Try.func129.trans (congrArg some (by kernel_rfl))
  f190 := Try.func67.trans (congrArg some (by kernel_rfl))
  f258 := Try.func105.trans (congrArg some (by kernel_rfl))
  f302 := Try.func119.trans (congrArg some (by kernel_rfl))
  f303 := Try.func120.trans (congrArg some (by kernel_rfl))
  f304 := Try.func121.trans (congrArg some (by kernel_rfl))
  f305 := Try.func122.trans (congrArg some (by kernel_rfl))
  f306 := Try.func123.trans (congrArg some (by kernel_rfl))
  f307 := Try.func124.trans (congrArg some (by kernel_rfl))
  f308 := Try.func125.trans (congrArg some (by kernel_rfl))
  f309 := Try.func126.trans (congrArg some (by kernel_rfl))
  f310 := Try.func127.trans (congrArg some (by kernel_rfl))
  f329 := Try.func135.trans (congrArg some (by kernel_rfl))
  f330 := Try.func136.trans (congrArg some (by kernel_rfl))
  f333 := Try.func134.trans (congrArg some (by kernel_rfl))
  f334 := Try.func137.trans (congrArg some (by kernel_rfl))
  f335 := Try.func138.trans (congrArg some (by kernel_rfl))
  f336 := Try.func139.trans (congrArg some (by kernel_rfl))
  f344 := Try.func142.trans (congrArg some (by kernel_rfl))
  t0 := Try.underlying0
  a0 := Try.isAgg0
  z0 := Try.sizeOf0
  v0 := Try.zeroValue0
  t3 := Try.underlying3
  a3 := Try.isAgg3
  z3 := Try.sizeOf3
  v3 := Try.zeroValue3
  t4 := Try.underlying4
  a4 := Try.isAgg4
  z4 := Try.sizeOf4
  v4 := Try.zeroValue4
  t5 := Try.underlying5
  a5 := Try.isAgg5
  z5 := Try.sizeOf5
  v5 := Try.zeroValue5
  t9 := Try.underlying9
  a9 := Try.isAgg9
  z9 := Try.sizeOf9
  v9 := Try.zeroValue9
  t31 := Try.underlying30
  a31 := Try.isAgg30
  z31 := Try.sizeOf30
  v31 := Try.zeroValue30
  t46 := Try.underlying153
  a46 := Try.isAgg153
  z46 := Try.sizeOf153
  v46 := Try.zeroValue153
  t51 := Try.underlying171
  a51 := Try.isAgg171
  z51 := Try.sizeOf171
  v51 := Try.zeroValue171
  t53 := Try.underlying173
  a53 := Try.isAgg173
  z53 := Try.sizeOf173
  v53 := Try.zeroValue173
  t131 := Try.underlying158
  a131 := Try.isAgg158
  z131 := Try.sizeOf158
  v131 := Try.zeroValue158
  t182 := Try.underlying163
  a182 := Try.isAgg163
  z182 := Try.sizeOf163
  v182 := Try.zeroValue163
  t183 := Try.underlying164
  a183 := Try.isAgg164
  z183 := Try.sizeOf164
  v183 := Try.zeroValue164
  t218 := Try.underlying178
  a218 := Try.isAgg178
  z218 := Try.sizeOf178
  v218 := Try.zeroValue178
  t222 := Try.underlying182
  a222 := Try.isAgg182
  z222 := Try.sizeOf182
  v222 := Try.zeroValue182
  t228 := Try.underlying188
  a228 := Try.isAgg188
  z228 := Try.sizeOf188
  v228 := Try.zeroValue188
  t229 := Try.underlying189
  a229 := Try.isAgg189
  z229 := Try.sizeOf189
  v229 := Try.zeroValue189 }
open Go.Sort Go.RowKit in
theorem Try.slices_Sort_string (blk off cap : Nat) (ss : List (List UInt8)) (w : World) (hH : Holds encStr w blk off ss.toArray) (hblk : blk < w.heap.size) (hsz : ss.length < 4611686018427387904) :
    Calls Try.prog 67 #[.slice (some ⟨blk, off, none⟩) ss.length cap] w fun e w' =>
      e = .returned (.tuple #[]) ∧ ∃ n os, w' = grow (putRow encStr (Sort.ahead w n) blk off (ss.mergeSort fun x y => decide (x ≤ y)).toArray) os := Any.slices_Sort_string Try.lays190 blk off cap ss w hH hblk hsz
open Go.RowKit Go.Sort in
/-- .. and plain. (LAID: no walk: one application.) -/
theorem Try.slices_Sort_string_none (p : Option Addr) (cap : Nat) (w : World) :
    Calls Try.prog 67 #[.slice p 0 cap] w fun e w' => e = .returned (.tuple #[]) ∧ w' = w := Any.slices_Sort_string_none Try.lays190 p cap w
end Go.Proofs
