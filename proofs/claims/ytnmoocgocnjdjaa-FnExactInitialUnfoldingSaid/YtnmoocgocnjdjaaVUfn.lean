/- WALKS: newHistory, InitialUnfolding of the program. -/
import Derived.Test.YtnmoocgocnjdjaaVUfp
namespace Go.Proofs.Ytnmoocgocnjdjaa
open Go.RowKit

/-- the conditions that a marking gives, of the places below k -/
def bornTo (s : ByteArray) : Nat → List Cnd
  | 0 => []
  | k + 1 => bornTo s k ++ (if (s.get! k).toNat = 49 then [((k : Int), -1)] else [])
theorem bornTo_length (s : ByteArray) : ∀ k, (bornTo s k).length ≤ k
  | 0 => Nat.le_refl _
  | k + 1 => by
    have := bornTo_length s k
    unfold bornTo
    rw [List.length_append]
    split
    · simp; omega
    · simp; omega
theorem bornTo_yes {s : ByteArray} {k : Nat} (hk : k < s.size) (h : s[k].toNat = 49) : bornTo s (k + 1) = bornTo s k ++ [((k : Int), -1)] := by
  show bornTo s k ++ _ = _
  rw [get!_eq hk, if_pos h]
theorem bornTo_no {s : ByteArray} {k : Nat} (hk : k < s.size) (h : ¬ s[k].toNat = 49) : bornTo s (k + 1) = bornTo s k := by
  show bornTo s k ++ _ = _
  rw [get!_eq hk, if_neg h, List.append_nil]
theorem rep_add (n : Nat) : List.replicate n (0 : Nat) ++ [0] = List.replicate (n + 1) 0 := by
  rw [List.replicate_succ']
theorem HisAt.new {B H : Nat} {w : World} {P : Int} {vt : Value} (hH : H = w.heap.size) (hB : B ≤ H) :
    HisAt B H (w.alloc (.cells #[.int .i64 P, vt, .slice none 0 0, .slice none 0 0, .slice none 0 0, .slice none 0 0] 85)) P vt (.slice none 0 0) (.slice none 0 0) (.slice none 0 0) (.slice none 0 0) [] [] [] [] := by
  subst hH
  refine ⟨by simp, by simp, by simp, by simp, by simp, by simp, fun i => by simp, TyAt.new _ _ _, hB, CRow.nil _ _, ERow.nil _ _, URow.nil _ _, URow.nil _ _, fun b hb => by simp [Value.ownBlock] at hb⟩

/-- a call returns a history of no event -/
def RetNewH (w : World) (P : Int) (vt : Value) (cs : List Cnd) (e : Ending) (w' : World) : Prop :=
  ∃ H vc vu, e = .returned (.pointer (some ⟨H, 0, none⟩)) ∧ HisAt w.heap.size H w' P vt vc (.slice none 0 0) (.slice none 0 0) vu cs [] [] (List.replicate cs.length 0) ∧ Below w.heap.size w w'

set_option maxRecDepth 100000 in
set_option maxHeartbeats 1000000 in
theorem newHistory_any (vt : Value) (o1 : vt.oneCell' = true) (s : ByteArray) (w : World) (hs : s.size ≤ 1048576) :
    Calls Try.prog 46 #[.agg #[.int .i64 (s.size : Int), vt], .string s] w (RetNewH w s.size vt (bornTo s s.size)) := by
  go_enter Try.func46, Try.ntmps46
  go_wp2_with fail
  obtain ⟨W0, hW0⟩ : ∃ x, x = (w.alloc (.cells #[.int .i64 (s.size : Int), vt] 34)).alloc (.cells #[.int .i64 (s.size : Int), vt, .slice none 0 0, .slice none 0 0, .slice none 0 0, .slice none 0 0] 85) := ⟨_, rfl⟩
  have HN : HisAt w.heap.size (w.heap.size + 1) W0 s.size vt (.slice none 0 0) (.slice none 0 0) (.slice none 0 0) (.slice none 0 0) [] [] [] [] := by
    rw [hW0]
    exact HisAt.new (by simp) (by simp)
  have HW0 : Below w.heap.size w W0 := by rw [hW0]; (repeat' (first | (with_reducible exact Below.refl _ _) | (with_reducible assumption) | (with_reducible refine Below.alloc ?_ ?_ _) | (with_reducible refine Below.drew ?_) | (with_reducible refine below_drewN ?_ _) | (with_reducible refine Below.setCell ?_ ?_ _) | go_size))
  rw [← hW0]
  clear hW0
  have HN0 := Lib.hid HN; clear HN
  go_loopw [12] (fun i wr => ∃ k : Nat, k ≤ s.size ∧ i = .int .i64 k ∧ Hid (∃ vc vu, HisAt w.heap.size (w.heap.size + 1) wr s.size vt vc (.slice none 0 0) (.slice none 0 0) vu (bornTo s k) [] [] (List.replicate (bornTo s k).length 0)) ∧ Below w.heap.size w wr) (fun i _ => s.size - (intOf i).toNat)
  case atStart => exact ⟨0, Nat.zero_le _, rfl, ⟨_, _, HN0.out⟩, HW0⟩
  case round =>
    obtain ⟨k, hk, rfl, hex, hb1⟩ := hrel
    by_cases hlt : k < s.size
    · by_cases h8 : s[k].toNat = 49
      · have t8 : ((s[k].toNat : Int) == 49) = true := by rw [h8]; rfl
        have HB := Lib.hid (bornTo_yes hlt h8)
        clear h8
        obtain ⟨vc, vu, hh⟩ := hex.out
        go_wp2_with fail
        refine (produce_any w.heap.size (w.heap.size + 1) wr s.size vt vc _ _ vu _ _ _ _ _ _ hh (by have := bornTo_length s k; omega) (by have := bornTo_length s k; simp; omega) hb1.size).mono ?_
        rintro e w1 ⟨rfl, vc1, vu1, hh1, hb2⟩
        have H2 : Hid (∃ vc vu, HisAt w.heap.size (w.heap.size + 1) w1 s.size vt vc (.slice none 0 0) (.slice none 0 0) vu (bornTo s (k + 1)) [] [] (List.replicate (bornTo s (k + 1)).length 0)) := by
          refine ⟨vc1, vu1, ?_⟩
          rw [HB.out, List.length_append]
          rw [rep_add] at hh1
          exact hh1
        have hw1 : Below w.heap.size w w1 := hb1.trans hb2
        clear hh hh1 hb2 hex
        go_wp2_with fail
        go_roundw
        case rel => exact ⟨k + 1, by omega, by go_num, H2, hw1⟩
        case measure => simp [intOf]; omega
      · have t8 : ((s[k].toNat : Int) == 49) = false := by simp; omega
        have HB := Lib.hid (bornTo_no hlt h8)
        clear h8
        go_wp2_with fail
        go_roundw
        case rel => exact ⟨k + 1, by omega, by go_num, by rw [HB.out]; exact hex, hb1⟩
        case measure => simp [intOf]; omega
    · have hkk : k = s.size := by omega
      subst hkk
      go_wp2_with fail
      go_ret
      obtain ⟨vc, vu, hh⟩ := hex.out
      exact ⟨_, vc, vu, rfl, hh, hb1⟩

end Go.Proofs.Ytnmoocgocnjdjaa
