/- WALK: contains of the program.
   CONTRACTS OF THE LIBRARY at this program, laid by program (gen/layshelf.py): Tryz.slices_Sort_int Tryz.slices_Sort_int_none -/
import Derived.Test.YtigkgfdnnfmmmaaGreatVHic
import Derived.Shelf.Sort.Plain
import Derived.Shelf.Slices.In.SortNone
import Derived.Test.YtigkgfdnnfmmmaaGreatVInts
namespace Go.Proofs.YtigkgfdnnfmmmaaGreat
open Go.RowKit

/-- event k is this one -/
def evIs (es : List Ev) (t : Int) (L : List Int) (k : Nat) : Bool := decide (evT es k = t) && decide (evP es k = L)
def evHas (es : List Ev) (t : Int) (L : List Int) : Bool := anyTo es.length (evIs es t L)

set_option maxRecDepth 100000 in
set_option maxHeartbeats 1000000 in
theorem containsClo_any (x t : Int) (M L : List Int) (u v : Value) (b : Nat) (w : World) (lo lo' : Nat) (hu : IntsAt lo w u M) (hv : IntsAt lo' w v L) (hM : M.length ≤ 1048576) (hL : L.length ≤ 1048576) (h0 : w.cell? ⟨b, 0, none⟩ = some (.int .i64 t)) (h1 : w.cell? ⟨b, 1, none⟩ = some v) :
    Calls Tryz.prog 92 #[.agg #[.int .i64 x, u], .pointer (some ⟨b, 0, none⟩)] w (RetB w (decide (x = t) && decide (M = L))) := by
  obtain ⟨a1, c1, rfl, _, _⟩ := id hu
  obtain ⟨a2, c2, rfl, _, _⟩ := id hv
  have HU := Lib.hid hu; clear hu
  have HV := Lib.hid hv; clear hv
  have HM := Lib.hid hM; clear hM
  have HL := Lib.hid hL; clear hL
  obtain ⟨m1, hm1⟩ : ∃ x, x = M.length := ⟨_, rfl⟩
  obtain ⟨m2, hm2⟩ : ∃ x, x = L.length := ⟨_, rfl⟩
  rw [← hm1] at HU ⊢
  rw [← hm2] at HV h1
  clear hm1 hm2
  have HA : Below w.heap.size w (w.alloc (.cells #[.int .i64 x, .slice a1 m1 c1] 46)) := (Below.refl _ _).alloc (Nat.le_refl _) _
  have h0 := cell_carry h0 (Carries.of 0 HA)
  have h1 := cell_carry h1 (Carries.of 0 HA)
  by_cases he : x = t
  · subst he
    have e1 : (x == x) = true := by simp
    rw [decide_eq_true rfl, Bool.true_and]
    go_enter Tryz.func92, Tryz.ntmps92
    go_wp2_with fail
    refine (EqualInts_any _ _ M L _ _ _ (HU.out.keep (Carries.of _ HA)) (HV.out.keep (Carries.of _ HA)) HM.out HL.out).mono ?_
    rintro e w1 ⟨rfl, hb⟩
    have hw1 : Below w.heap.size w w1 := HA.trans (hb.mono (by simp))
    clear hb
    go_wp2_with fail
    go_ret
    exact ⟨rfl, hw1⟩
  · have e1 : (x == t) = false := by simpa using he
    rw [decide_eq_false he, Bool.false_and]
    clear he
    go_enter Tryz.func92, Tryz.ntmps92
    go_wp2_with fail
    go_ret
    exact ⟨rfl, HA⟩

set_option maxRecDepth 100000 in
set_option maxHeartbeats 1000000 in
theorem contains_any (B H : Nat) (w : World) (P : Int) (vt vc ve vp vu : Value) (cs : List Cnd) (es : List Ev) (ps us : List Nat) (t : Int) (v : Value) (L : List Int) (lo : Nat) (h : HisAt B H w P vt vc ve vp vu cs es ps us) (hv : IntsAt lo w v L) (hl : L.length ≤ 1048576) (hel : es.length ≤ 1048576) (hes : ∀ k, k < es.length → (evP es k).length ≤ 1048576) :
    Calls Tryz.prog 69 #[.pointer (some ⟨H, 0, none⟩), .agg #[.int .i64 t, v]] w (RetB w (evHas es t L)) := by
  obtain ⟨q, hq⟩ : ∃ q, q = evHas es t L := ⟨_, rfl⟩
  rw [← hq]
  have HQ := Lib.hid hq; clear hq
  have c3 := h.c3
  have hat := h.re.at
  obtain ⟨ae, ke, rfl, _, _⟩ := id hat
  have HE := Lib.hid hat; clear hat h
  have HV := Lib.hid hv
  obtain ⟨ao, cap, rfl, _, _⟩ := hv
  have HES := Lib.hid hes; clear hes
  obtain ⟨n, hn⟩ : ∃ n, n = L.length := ⟨_, rfl⟩
  rw [← hn] at HV hl ⊢
  have HN := Lib.hid hn; clear hn
  have hmf : ∀ (fn : Fn) (first cap : Array Value) (w : World), (Instr.makeFunc fn first cap).run Tryz.prog w = .ok (.func fn first cap) w := fun _ _ _ _ => rfl
  have HA : Below w.heap.size w (w.alloc (.cells #[.int .i64 t, .slice ao n cap] 46)) := (Below.refl _ _).alloc (Nat.le_refl _) _
  have c3 := cell_carry c3 (Carries.of 0 HA)
  have b0 : (w.alloc (.cells #[.int .i64 t, .slice ao n cap] 46)).cell? ⟨w.heap.size, 0, none⟩ = some (.int .i64 t) := (cell_new2 rfl).1
  have b1 : (w.alloc (.cells #[.int .i64 t, .slice ao n cap] 46)).cell? ⟨w.heap.size, 1, none⟩ = some (.slice ao n cap) := (cell_new2 rfl).2
  go_enter Tryz.func69, Tryz.ntmps69
  go_wp2_with fail
  refine (ContainsFuncEv_any _ es 92 _ (evIs es t L) _ B (HE.out.keep (Carries.of B HA)) hel (fun _ _ => rfl) (fun k hk w1 hb u1 hu => containsClo_any _ t _ L u1 _ w.heap.size w1 B lo hu (HV.out.keep (Carries.of lo (HA.trans (hb.mono (by simp))))) (HES.out k hk) (by rw [← HN.out]; exact hl) (cell_carry b0 (Carries.of 0 hb)) (cell_carry b1 (Carries.of 0 hb)))).mono ?_
  rintro e w2 ⟨rfl, hb⟩
  have hw2 : Below w.heap.size w w2 := HA.trans (hb.mono (by simp))
  have hq : anyTo es.length (evIs es t L) = q := HQ.out.symm
  rw [hq]
  go_wp2_with fail
  go_ret
  exact ⟨rfl, hw2⟩

end Go.Proofs.YtigkgfdnnfmmmaaGreat

namespace Go.Proofs
open Go.Shelf
def Tryz.lays189_ren : Go.Shelf.Ren := ⟨fun | 189 => 88 | 125 => 99 | 257 => 98 | 128 => 112 | 129 => 113 | 294 => 103 | 295 => 104 | 296 => 105 | 297 => 106 | 298 => 107 | 299 => 108 | 216 => 109 | 300 => 110 | 301 => 111 | 328 => 114 | 329 => 115 | 330 => 116 | 331 => 117 | 332 => 118 | 215 => 119 | 343 => 120 | n => n, fun | 28 => 29 | 3 => 3 | 46 => 127 | 0 => 0 | 51 => 139 | 53 => 108 | 4 => 4 | 183 => 133 | 182 => 132 | 131 => 55 | 5 => 5 | 9 => 9 | 218 => 140 | 222 => 144 | 228 => 146 | 229 => 147 | n => n, fun | n => n⟩
theorem Tryz.lays189 : Go.Proofs.Lays.n189 Tryz.prog Tryz.lays189_ren := {
  mixed := by kernel_rfl
  f125 := Tryz.func99.trans (congrArg some (by kernel_rfl))
  f128 := Tryz.func112.trans (congrArg some (by kernel_rfl))
  f129 := Tryz.func113.trans (congrArg some (by kernel_rfl))
  f189 := Tryz.func88.trans (congrArg some (by kernel_rfl))
  f215 := Tryz.func119.trans (congrArg some (by kernel_rfl))
  f216 := Tryz.func109.trans (congrArg some (by kernel_rfl))
  f257 := Tryz.func98.trans (congrArg some (by kernel_rfl))
  f294 := Tryz.func103.trans (congrArg some (by kernel_rfl))
  f295 := Tryz.func104.trans (congrArg some (by kernel_rfl))
  f296 := Tryz.func105.trans (congrArg some (by kernel_rfl))
  f297 := Tryz.func106.trans (congrArg some (by kernel_rfl))
  f298 := Tryz.func107.trans (congrArg some (by kernel_rfl))
  f299 := Tryz.func108.trans (congrArg some (by kernel_rfl))
  f300 := Tryz.func110.trans (congrArg some (by kernel_rfl))
  f301 := Tryz.func111.trans (congrArg some (by kernel_rfl))
  f328 := Tryz.func114.trans (congrArg some (by kernel_rfl))
  f329 := Tryz.func115.trans (congrArg some (by kernel_rfl))
  f330 := Tryz.func116.trans (congrArg some (by kernel_rfl))
  f331 := Tryz.func117.trans (congrArg some (by kernel_rfl))
  f332 := Tryz.func118.trans (congrArg some (by kernel_rfl))
  f343 := Tryz.func120.trans (congrArg some (by kernel_rfl))
  t0 := Tryz.underlying0
  a0 := Tryz.isAgg0
  z0 := Tryz.sizeOf0
  v0 := Tryz.zeroValue0
  t3 := Tryz.underlying3
  a3 := Tryz.isAgg3
  z3 := Tryz.sizeOf3
  v3 := Tryz.zeroValue3
  t4 := Tryz.underlying4
  a4 := Tryz.isAgg4
  z4 := Tryz.sizeOf4
  v4 := Tryz.zeroValue4
  t5 := Tryz.underlying5
  a5 := Tryz.isAgg5
  z5 := Tryz.sizeOf5
  v5 := Tryz.zeroValue5
  t9 := Tryz.underlying9
  a9 := Tryz.isAgg9
  z9 := Tryz.sizeOf9
  v9 := Tryz.zeroValue9
  t28 := Tryz.underlying29
  a28 := Tryz.isAgg29
  z28 := Tryz.sizeOf29
  v28 := Tryz.zeroValue29
  t46 := Tryz.underlying127
  a46 := Tryz.isAgg127
  z46 := Tryz.sizeOf127
  v46 := Tryz.zeroValue127
  t51 := Tryz.underlying139
  a51 := Tryz.isAgg139
  z51 := Tryz.sizeOf139
  v51 := Tryz.zeroValue139
  t53 := Tryz.underlying108
  a53 := Tryz.isAgg108
  z53 := Tryz.sizeOf108
  v53 := Tryz.zeroValue108
  t131 := Tryz.underlying55
  a131 := Tryz.isAgg55
  z131 := Tryz.sizeOf55
  v131 := Tryz.zeroValue55
  t182 := Tryz.underlying132
  a182 := Tryz.isAgg132
  z182 := Tryz.sizeOf132
  v182 := Tryz.zeroValue132
  t183 := Tryz.underlying133
  a183 := Tryz.isAgg133
  z183 := Tryz.sizeOf133
  v183 := Tryz.zeroValue133
  t218 := Tryz.underlying140
  a218 := Tryz.isAgg140
  z218 := Tryz.sizeOf140
  v218 := Tryz.zeroValue140
  t222 := Tryz.underlying144
  a222 := Tryz.isAgg144
  z222 := Tryz.sizeOf144
  v222 := Tryz.zeroValue144
  t228 := Tryz.underlying146
  a228 := Tryz.isAgg146
  z228 := Tryz.sizeOf146
  v228 := Tryz.zeroValue146
  t229 := Tryz.underlying147
  a229 := Tryz.isAgg147
  z229 := Tryz.sizeOf147
  v229 := Tryz.zeroValue147 }
open Go.Sort Go.RowKit in
theorem Tryz.slices_Sort_int (blk off cap : Nat) (zs : List Int) (w : World) (hH : Holds (Value.int .i64) w blk off zs.toArray) (hblk : blk < w.heap.size) (hsz : zs.length < 4611686018427387904) :
    Calls Tryz.prog 88 #[.slice (some ⟨blk, off, none⟩) zs.length cap] w fun e w' =>
      e = .returned (.tuple #[]) ∧ ∃ n os, w' = grow (putRow (Value.int .i64) (Sort.ahead w n) blk off (zs.mergeSort fun x y => decide (x ≤ y)).toArray) os := Any.slices_Sort_int Tryz.lays189 blk off cap zs w hH hblk hsz
open Go.RowKit Go.Sort in
/-- .. and plain. (LAID: no walk: one application.) -/
theorem Tryz.slices_Sort_int_none (p : Option Addr) (cap : Nat) (w : World) :
    Calls Tryz.prog 88 #[.slice p 0 cap] w fun e w' => e = .returned (.tuple #[]) ∧ w' = w := Any.slices_Sort_int_none Tryz.lays189 p cap w
end Go.Proofs
