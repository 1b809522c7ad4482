/- WALK: l1Enabled of the model.
   WALK: writeMarking (out of Read). -/
import Derived.Test.YtigkgfdnnfmmmaaVByte
import Derived.Test.YtigkgfdnnfmmmaaVApb
import Derived.Lib.SmallJoins
import Derived.Test.YtigkgfdnnfmmmaaVArr
namespace Go.Proofs.Ytigkgfdnnfmmmaa
open Go.RowKit

def readyOf (n : NetD) (s : ByteArray) (t : Nat) : Bool := readyB (bytes s) (n.ts.getD t ([], [])).1
def enB (n : NetD) (s : ByteArray) : Bool := goodN n && markB n s
def enL (n : NetD) (s : ByteArray) : List Int := if enB n s = true then enTo (readyOf n s) n.ts.length else []

set_option maxRecDepth 100000 in
set_option maxHeartbeats 1000000 in
theorem l1Enabled_any (v : Value) (n : NetD) (s : ByteArray) (w : World) (lo : Nat) (hv : NetAt lo w v n) (hs : SmallTrs n.ts) (hin : ∀ t, t < n.ts.length → InS s.size (n.ts.getD t ([], [])).1) (hsz : s.size ≤ 1048576) :
    Calls Try.prog 80 #[v, .string s] w (RetOwn w (enTo (readyOf n s) n.ts.length)) := by
  obtain ⟨f, hf⟩ : ∃ f, f = readyOf n s := ⟨_, rfl⟩
  rw [← hf]
  have HFN := Lib.hid hf; clear hf
  have hv' := hv
  obtain ⟨hp0, hp1, q, rfl, ht⟩ := hv'
  obtain ⟨ao, cap, rfl, hc, hz⟩ := ht
  obtain ⟨p, hp⟩ : ∃ p, p = n.places := ⟨_, rfl⟩
  obtain ⟨m, hm⟩ : ∃ m, m = n.ts.length := ⟨_, rfl⟩
  have hms : m ≤ 1048576 := by rw [hm]; exact hs.1
  rw [← hp, ← hm] at hv ⊢
  have HMM := Lib.hid hm
  clear hz hc hp0 hp1 hp hm
  have HV := Lib.hid hv; clear hv
  have HS := Lib.hid hs; clear hs
  have HI := Lib.hid hin; clear hin
  go_enter Try.func80, Try.ntmps80
  go_wp2_with fail
  have a0 : (w.alloc (.cells #[.int .i64 p, .slice ao m cap] 38)).cell? ⟨w.heap.size, 0, none⟩ = some (.int .i64 p) := by simp
  have a1 : (w.alloc (.cells #[.int .i64 p, .slice ao m cap] 38)).cell? ⟨w.heap.size, 1, none⟩ = some (.slice ao m cap) := by simp
  have hA : Below w.heap.size w (w.alloc (.cells #[.int .i64 p, .slice ao m cap] 38)) := by (repeat' (first | (with_reducible exact Below.refl _ _) | (with_reducible assumption) | (with_reducible refine Below.alloc ?_ ?_ _) | (with_reducible refine Below.drew ?_) | (with_reducible refine below_drewN ?_ _) | (with_reducible refine Below.setCell ?_ ?_ _) | go_size))
  have zA : (w.alloc (.cells #[.int .i64 p, .slice ao m cap] 38)).heap.size = w.heap.size + 1 := by simp
  generalize w.alloc (.cells #[.int .i64 p, .slice ao m cap] 38) = wA at a0 a1 hA zA ⊢
  go_loopw [5, 10] (fun sv i wr => ∃ (k : Nat), k ≤ m ∧ i = .int .i64 k ∧ wr.ownsRow wA.heap.size 3 1 sv (enTo f k).length (intCells (enTo f k)) ∧ Below wA.heap.size wA wr) (fun _ i _ => m - (intOf i).toNat)
  case atStart => exact ⟨0, Nat.zero_le _, rfl, World.ownsRow_nil _ _ _ _, Below.refl _ _⟩
  case round =>
    obtain ⟨k, hk, rfl, hown, hb1⟩ := hrel
    have b0 := cell_carry a0 (Carries.of 0 hb1)
    have b1 := cell_carry a1 (Carries.of 0 hb1)
    have HO := Lib.hid hown; clear hown
    by_cases hlt : k < m
    · go_wp2_with fail
      refine (l1Ready_any _ n s k _ lo (HV.out.keep (Carries.of lo (hA.trans (hb1.mono (by omega))))) HS.out (by rw [← HMM.out]; exact hlt) (HI.out k (by rw [← HMM.out]; exact hlt)) hsz).mono ?_
      rintro e w3 ⟨rfl, hb⟩
      have hw3 : Below wA.heap.size wA w3 := hb1.trans (hb.mono hb1.size)
      have HO3 := Lib.hid (owns_after HO.out hb)
      have z3 := hw3.size
      clear hb b0 b1
      have hfk : readyB (bytes s) (n.ts.getD k ([], [])).1 = f k := by rw [HFN.out]; rfl
      rw [hfk]
      have hle := enTo_length f k
      cases hd : f k with
      | false =>
        have he := enTo_false hd
        have HO4 := Lib.hid (show w3.ownsRow wA.heap.size 3 1 _ (enTo f (k + 1)).length (intCells (enTo f (k + 1))) by rw [he]; exact HO3.out)
        clear he hd
        go_wp2_with fail
        go_roundw
        case rel => exact ⟨k + 1, by omega, by go_num, HO4.out, hw3⟩
        case measure => simp [intOf]; omega
      | true =>
        have he := Lib.hid (enTo_true hd)
        clear hd
        go_wp2_with (refine wpList_append_ints rfl (.tmp 17) (.tmp 19) rfl wA.heap.size 0 _ _ _ rfl (World.ownsRow.alloc HO3.out _) _ [(k : Int)] rfl (ints_one _ _ _) (by simp; omega) (by simp; omega) ?_; intro v' w' hown' hgrow)
        have hw4 : Below wA.heap.size wA w' := (hw3.alloc z3 _).grown hgrow (by simp; omega) (fun g hg => (HO3.out.lt g hg).1)
        have HO4 := Lib.hid (show w'.ownsRow wA.heap.size 3 1 v' (enTo f (k + 1)).length (intCells (enTo f (k + 1))) by rw [he.out, List.length_append, intCells_append]; exact hown')
        go_wp2_with fail
        go_roundw
        case rel => exact ⟨k + 1, by omega, by go_num, HO4.out, hw4⟩
        case measure => simp [intOf]; omega
    · have hkk : k = m := by omega
      subst hkk
      go_wp2_with fail
      go_ret
      exact ⟨_, rfl, Go.Joins.ownsRow_le HO.out (by omega), hA.trans (hb1.mono (by omega))⟩

end Go.Proofs.Ytigkgfdnnfmmmaa

namespace Go.Proofs.Ytigkgfdnnfmmmaa
open Go.RowKit

theorem ArrAt.string {w : World} {g : Nat} {xs : List UInt8} (h : ArrAt w g xs) (n cap : Nat) (hn : n ≤ 30) : (convert 154 9 (.slice (some ⟨g, 0, none⟩) n cap)).run Try.prog w = .ok (.string (bstr (xs.take n))) w := by
  rw [run_convert_bytes_string w 154 9 5 _ _ _ Try.underlying154 Try.underlying5 Try.underlying9]
  have hlen : ((xs.take n).map (fun b => (b.toNat : Int))).length = n := by simp; have := h.2; omega
  have hl := run_loadCells_list (P := Try.prog) w ⟨g, 0, none⟩ (((xs.take n).map (fun b => (b.toNat : Int))).map (Value.int .u8)) (fun j v hv => by
    have hj : j < n := by have := (List.getElem?_eq_some_iff.1 hv).1; rw [List.length_map, hlen] at this; exact this
    rw [Addr.add_mid, Nat.zero_add, h.cell (by omega)]
    rw [← hv]
    have hj2 : j < xs.length := by rw [h.2]; omega
    simp [hj, hj2, List.getD])
  rw [List.length_map, hlen] at hl
  rw [run_bytesToString w ⟨g, 0, none⟩ n cap _ hl, foldl_push]
  congr 2
  simp [bstr, ByteArray.empty, ByteArray.emptyWithCapacity]
  rfl

theorem slice_arr (g p : Nat) (hp : p ≤ 30) (W : World) : (Instr.sliceAt 111 (.pointer (some ⟨g, 0, none⟩)) none (some (.int .i64 (p : Int))) none).run Try.prog W = .ok (.slice (some ⟨g, 0, none⟩) p 30) W := by
  have hb : (Instr.sliceBound (.int .i64 (p : Int)) 30 .sliceAlen).run Try.prog W = .ok p W := by
    have h1 : (0 : Int) ≤ (p : Int) ∧ (p : Int) ≤ ((30 : Nat) : Int) := ⟨by omega, by omega⟩
    simp [Instr.sliceBound, asIntOf, h1.1, h1.2]
    omega
  have hz : ∀ w, (Go.sizeOf 5).run Try.prog w = .ok 1 w := fun _ => by kernel_rfl
  simp [Instr.sliceAt, Instr.sureAddr, slicedAt, run_underlying Try.underlying111, Instr.sliceBounds, hb, sliced, hz]
  rfl

set_option maxRecDepth 100000 in
set_option maxHeartbeats 1000000 in
theorem writeMarking_any (p : Nat) (u : Value) (xs : List UInt8) (hx : xs.length = 30) (w : World) (hp : p ≤ 30) (ao : Option Addr) (m cap : Nat) (hu : u = .slice ao m cap) :
    Calls Try.prog 79 #[.agg #[.int .i64 p, u], .agg (arr xs).toArray] w (RetV w (.string (bstr (xs.take p)))) := by
  subst hu
  have hA := ArrAt.new (w.alloc (.cells #[.int .i64 p, .slice ao m cap] 38)) hx
  rw [World.size_alloc] at hA
  have kc := hA.string p 30 hp
  have HA := Lib.hid hA; clear hA
  have ks : ∀ W : World, (Instr.sliceAt 111 (.pointer (some ⟨w.heap.size + 1, 0, none⟩)) none (some (.int .i64 (p : Int))) none).run Try.prog W = .ok (.slice (some ⟨w.heap.size + 1, 0, none⟩) p 30) W := fun W => slice_arr _ p hp W
  go_enter Try.func79, Try.ntmps79
  go_wp2_with fail
  go_ret
  exact ⟨rfl, by (repeat' (first | (with_reducible exact Below.refl _ _) | (with_reducible assumption) | (with_reducible refine Below.alloc ?_ ?_ _) | (with_reducible refine Below.drew ?_) | (with_reducible refine below_drewN ?_ _) | (with_reducible refine Below.setCell ?_ ?_ _) | go_size))⟩

end Go.Proofs.Ytigkgfdnnfmmmaa
