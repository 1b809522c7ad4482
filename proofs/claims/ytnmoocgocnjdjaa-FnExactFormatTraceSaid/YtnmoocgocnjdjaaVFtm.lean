/- WALKS: l6Word, l6Trace of the model; the model's text is the program's. -/
import Derived.Test.YtnmoocgocnjdjaaVFtc
import Derived.Test.YtnmoocgocnjdjaaVSgu
namespace Go.Proofs.Ytnmoocgocnjdjaa
open Go.RowKit

/-- the first k words, a space between -/
def trTo (ss : List Sig) (L : List Ar) : Nat → ByteArray
  | 0 => ⟨#[]⟩
  | k + 1 => (if k = 0 then trTo ss L k else trTo ss L k ++ ⟨#[32]⟩) ++ stN (trW ss L) k
theorem ba_data_append (a b : ByteArray) : (a ++ b).data.toList = a.data.toList ++ b.data.toList := by
  rw [ByteArray.data_append]; simp
theorem join_snoc (xs : List (List UInt8)) (y : List UInt8) (h : xs ≠ []) : Lib.join (xs ++ [y]) [32] = Lib.join xs [32] ++ [32] ++ y := by
  cases xs with
  | nil => exact absurd rfl h
  | cons x r =>
    rw [List.cons_append, Lib.join_cons, Lib.join_cons]
    unfold Lib.joinTail
    simp [List.map_append]
theorem trTo_data (ss : List Sig) (L : List Ar) : ∀ k, k ≤ L.length → (trTo ss L k).data.toList = Lib.join (((trW ss L).take k).map (·.data.toList)) [32]
  | 0, _ => by simp [trTo, Lib.join_nil]
  | k + 1, h => by
    have ih := trTo_data ss L k (by omega)
    have hk : k < (trW ss L).length := by rw [trW_length]; omega
    have ht : (trW ss L).take (k + 1) = (trW ss L).take k ++ [(trW ss L)[k]] := List.take_succ_eq_append_getElem hk
    show (_ ++ stN (trW ss L) k).data.toList = _
    rw [ba_data_append, stN_getD hk, ht, List.map_append]
    simp only [List.map_cons, List.map_nil]
    by_cases h0 : k = 0
    · subst h0
      simp [trTo, Lib.join_one]
    · rw [if_neg h0, ba_data_append, ih, join_snoc]
      intro e
      have := congrArg List.length e
      simp only [List.length_map, List.length_take, List.length_nil] at this
      omega
theorem trTo_all (ss : List Sig) (L : List Ar) : trTo ss L L.length = trT ss L := by
  have h := trTo_data ss L L.length (Nat.le_refl _)
  have e : (trW ss L).take L.length = trW ss L := List.take_of_length_le (by rw [trW_length]; exact Nat.le_refl _)
  rw [e] at h
  unfold trT
  rw [← h]
theorem trTo_size {ss : List Sig} {L : List Ar} (hs : SmallSigs ss) (hin : LabsIn ss.length L) : ∀ k, k ≤ L.length → (trTo ss L k).size ≤ k * 1048578
  | 0, _ => Nat.zero_le _
  | k + 1, h => by
    have ih := trTo_size hs hin k (by omega)
    have hk : k < L.length := by omega
    have h2 : (stN (trW ss L) k).size ≤ 1048577 := by rw [trW_get hk]; exact wordL_size hs (hin k hk)
    show (_ ++ stN (trW ss L) k).size ≤ _
    rw [ByteArray.size_append, Nat.succ_mul]
    split
    · omega
    · rw [ByteArray.size_append]
      have : (⟨#[32]⟩ : ByteArray).size = 1 := rfl
      omega

set_option maxRecDepth 100000 in
set_option maxHeartbeats 1000000 in
theorem l6Word_any (v : Value) (r : SgD) (f a : Int) (u : Bool) (t : Int) (w : World) (lo : Nat) (hv : SgAt lo w v r) (hs : SmallSg r) (hin : LabIn r.sigs.length a u) :
    Calls Try.prog 93 #[v, .agg #[.int .i64 f, .int .i64 a, .bool u, .int .i64 t]] w (RetV w (.string (wordL r.sigs a u))) := by
  obtain ⟨a0, c0, a1, c1, a2, c2, rfl, h_0, hm, h_2⟩ := hv.form
  clear hv hm h_2
  obtain ⟨ss, cs, C⟩ := r
  obtain ⟨k0, k1, k2⟩ := hs
  simp only at h_0 k0 hin ⊢
  clear k1 k2
  obtain ⟨ao, cap, e0, hc, hz⟩ := h_0
  injection e0 with e1 e2 e3
  subst e1; subst e3; clear e2
  generalize cs.length = n1
  generalize C.length = n2
  obtain ⟨R, hR⟩ : ∃ x, x = wordL ss a u := ⟨_, rfl⟩
  rw [← hR]
  have HR := Lib.hid hR; clear hR
  have HF := Lib.hid hz; clear hz
  have HS := Lib.hid k0.2
  have hsl := k0.1
  clear k0
  rcases hin with ⟨h0, h1⟩ | ⟨rfl, rfl⟩
  · obtain ⟨k, rfl⟩ : ∃ k : Nat, a = (k : Int) := ⟨a.toNat, by omega⟩
    have hk : k < ss.length := by omega
    rcases HF.out with h | ⟨b, off, rfl, hlo, hcell⟩
    · omega
    have d0 := (hcell k hk).1
    have zb : b < w.heap.size := by have := cell_old d0; simpa using this
    try dsimp only at d0
    have hsz := HS.out k hk
    clear hcell
    have e := HR.out
    cases u with
    | true =>
      rw [wordL_up] at e
      generalize sgN ss k = nm at d0 hsz e
      subst e
      go_enter Try.func93, Try.ntmps93
      go_wp2_with fail
      go_ret
      exact ⟨rfl, by (repeat' (first | (with_reducible exact Below.refl _ _) | (with_reducible assumption) | (with_reducible refine Below.alloc ?_ ?_ _) | (with_reducible refine Below.drew ?_) | (with_reducible refine below_drewN ?_ _) | (with_reducible refine Below.setCell ?_ ?_ _) | go_size))⟩
    | false =>
      rw [wordL_down] at e
      generalize sgN ss k = nm at d0 hsz e
      subst e
      go_enter Try.func93, Try.ntmps93
      go_wp2_with fail
      go_ret
      exact ⟨rfl, by (repeat' (first | (with_reducible exact Below.refl _ _) | (with_reducible assumption) | (with_reducible refine Below.alloc ?_ ?_ _) | (with_reducible refine Below.drew ?_) | (with_reducible refine below_drewN ?_ _) | (with_reducible refine Below.setCell ?_ ?_ _) | go_size))⟩
  · have e := HR.out
    rw [wordL_none (by omega)] at e
    subst e
    go_enter Try.func93, Try.ntmps93
    go_wp2_with fail
    go_ret
    exact ⟨rfl, by (repeat' (first | (with_reducible exact Below.refl _ _) | (with_reducible assumption) | (with_reducible refine Below.alloc ?_ ?_ _) | (with_reducible refine Below.drew ?_) | (with_reducible refine below_drewN ?_ _) | (with_reducible refine Below.setCell ?_ ?_ _) | go_size))⟩

end Go.Proofs.Ytnmoocgocnjdjaa
