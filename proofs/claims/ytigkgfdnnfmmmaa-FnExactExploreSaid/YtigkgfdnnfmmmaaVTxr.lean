/- ROWS OF STRINGS of the call's own: append of one; what they read as. WALK: l1HasS of the model. -/
import Derived.Test.YtigkgfdnnfmmmaaVRgp
import Derived.Test.YtigkgfdnnfmmmaaVTrp
import Derived.Test.YtigkgfdnnfmmmaaVWrm
import Derived.Test.YtigkgfdnnfmmmaaVArr
import Derived.Deep.AppendLies
namespace Go.Proofs.Ytigkgfdnnfmmmaa
open Go.RowKit

def txCells (ms : List ByteArray) : List Value := ms.map Value.string
theorem txCells_length (l : List ByteArray) : (txCells l).length = l.length := by simp [txCells]
theorem txCells_append (a b : List ByteArray) : txCells (a ++ b) = txCells a ++ txCells b := by simp [txCells]
theorem txCells_get {l : List ByteArray} {i : Nat} (h : i < l.length) : (txCells l)[i]? = some (.string (stN l i)) := by simp [txCells, h, stN, List.getD]
abbrev SRow (B : Nat) (w : World) (v : Value) (l : List ByteArray) : Prop := w.ownsRow B 9 1 v l.length (txCells l)
theorem SRow.form {B : Nat} {w : World} {v : Value} {ms : List ByteArray} (h : SRow B w v ms) : ∃ a c, v = .slice a ms.length c := by
  rcases h.2 with ⟨rfl, hn⟩ | ⟨g, cap, cur, rfl, _⟩
  · exact ⟨none, 0, by rw [hn]⟩
  · exact ⟨_, _, rfl⟩
theorem SRow.at {B : Nat} {w : World} {v : Value} {ms : List ByteArray} (h : SRow B w v ms) : TextsAt B w v ms := by
  have h0 := h
  rcases h.2 with ⟨rfl, hn⟩ | ⟨g, cap, cur, rfl, hb, hg, hnc, _⟩
  · exact ⟨none, 0, by rw [hn], by omega, Or.inl hn⟩
  · refine ⟨_, _, rfl, hnc, Or.inr ⟨g, 0, rfl, hb, fun i hi => ?_⟩⟩
    rw [Nat.zero_add, h0.cellAt i (by omega)]; exact txCells_get hi

theorem wpList_append_tx {ops : Array Oper} {rest : List Oper} {o : Oper} {a : Act} {w : World} {Q : Exit → Act → World → Prop} (hgd : o.guard = none) (s x : Operand)
    (ho : o.op = .call { callee := .builtin .append, args := #[s, x], argTypes := #[30, 30] })
    (base : Nat) (v : Value) (ls : List ByteArray) (hs : a.eval s = v) (hown : SRow base w v ls) (b : Nat) (m : ByteArray) (hx : a.eval x = .slice (some ⟨b, 0, none⟩) 1 1)
    (hc0 : w.cell? ⟨b, 0, none⟩ = some (.string m)) (hn : ls.length ≤ 1073741824) (hbase : base ≤ w.heap.size)
    (h : ∀ g cap w', SRow base w' (.slice (some ⟨g, 0, none⟩) (ls.length + 1) cap) (ls ++ [m]) → w.grownBy w' v.ownBlock → wpList Try.prog ops Q rest (a.put o.dst (.slice (some ⟨g, 0, none⟩) (ls.length + 1) cap)) w') : wpList Try.prog ops Q (o :: rest) a w :=
  wpList_plain hgd fun _ hK => by
    obtain ⟨i, hi, hzz⟩ := Option.map_eq_some_iff.1 Try.infoStr
    simp only [Prod.mk.injEq] at hzz
    obtain ⟨hz, hsz, hby⟩ := hzz
    obtain ⟨g, cap, w', hr, h2, h3, _, _⟩ := run_append_lies (P := Try.prog) w 30 o.type base 9 i _ 1 16 Try.underlying30 hi hz hsz hby rfl (by omega) v _ _ hown ⟨b, 0, none⟩ 1 1 [.string m]
      rfl (fun j u hj => by
        match j, hj with
        | 0, hj => simp only [List.getElem?_cons_zero, Option.some.injEq] at hj; subst hj; exact hc0
        | (j + 1), hj => simp at hj) (fun u hu => by
        simp only [List.mem_cons, List.not_mem_nil, or_false] at hu
        subst hu; rfl) (by omega) (by unfold maxLen; omega) (by omega) hbase _ rfl
    unfold Oper.wp execOp
    simp only [ho, resolve, invoke, builtin, Sem.run_bind, Sem.run_pure, Result.andThen_ok, List.map_toArray, List.map_cons, List.map_nil, hs, hx, hr]
    refine hK _ _ (h g cap w' ?_ h3)
    show w'.ownsRow base _ 1 _ (ls ++ [m]).length (txCells (ls ++ [m]))
    rw [txCells_append, List.length_append]
    exact h2

set_option maxHeartbeats 400000 in
theorem l1HasS_any (v : Value) (ss : List ByteArray) (m : ByteArray) (w : World) (lo : Nat) (hv : TextsAt lo w v ss) (hn : ss.length ≤ 1048576) :
    Calls Try.prog 101 #[v, .string m] w (RetB w (decide (findN ss m < ss.length))) := by
  obtain ⟨R, hR⟩ : ∃ R, R = decide (findN ss m < ss.length) := ⟨_, rfl⟩
  rw [← hR]
  have HR := Lib.hid hR; clear hR
  obtain ⟨ao, cap, rfl, hc, hz⟩ := hv
  have HF := Lib.hid hz; clear hz
  go_enter Try.func101, Try.ntmps101
  go_wp2_with fail
  go_loop [9] (fun i => ∃ k : Nat, k ≤ ss.length ∧ i = .int .i64 k ∧ Hid (∀ i, i < k → stN ss i ≠ m)) (fun i => ss.length - (intOf i).toNat)
  case atStart => exact ⟨0, Nat.zero_le _, rfl, fun i hi => absurd hi (Nat.not_lt_zero _)⟩
  case round =>
    obtain ⟨k, hk, rfl, hall⟩ := hrel
    by_cases hlt : k < ss.length
    · rcases HF.out with h0 | ⟨b, off, rfl, hlo, hcell⟩
      · omega
      have c1 := hcell k hlt
      clear hcell
      by_cases he : stN ss k = m
      · have hf : findN ss m < ss.length := by
          unfold findN
          rw [List.findIdx_lt_length]
          exact ⟨ss[k], List.getElem_mem hlt, by rw [← stN_getD hlt]; exact decide_eq_true he⟩
        have e : R = true := by rw [HR.out, decide_eq_true hf]
        subst e
        have te : ((stN ss k).toList == m.toList) = true := by rw [bytes_toList_beq, decide_eq_true he]
        clear he hf
        go_wp2_with fail
        go_ret
        exact ⟨rfl, Below.refl _ _⟩
      · have H2 : Hid (∀ i, i < k + 1 → stN ss i ≠ m) := by
          intro i hi
          by_cases e : i = k
          · subst e; exact he
          · exact hall.out i (by omega)
        have te : ((stN ss k).toList == m.toList) = false := by rw [bytes_toList_beq, decide_eq_false he]
        clear he
        go_wp2_with fail
        go_round
        case rel => exact ⟨k + 1, by omega, by go_num, H2⟩
        case measure => simp [intOf]; omega
    · have hkk : k = ss.length := by omega
      subst hkk
      have hf : ¬ findN ss m < ss.length := by
        intro hf
        have h1 := List.findIdx_getElem (p := fun x => decide (x = m)) (xs := ss) (w := hf)
        have h2 := of_decide_eq_true h1
        exact hall.out (findN ss m) hf (by rw [stN_getD hf]; exact h2)
      have e : R = false := by rw [HR.out, decide_eq_false hf]
      subst e
      clear hf
      go_wp2_with fail
      go_ret
      exact ⟨rfl, Below.refl _ _⟩

end Go.Proofs.Ytigkgfdnnfmmmaa
