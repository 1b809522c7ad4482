/- ROWS OF STRINGS of the call's own: append of one; what they read as. WALK: l1HasS of the model.
   WALK: explorer.markTexts.
   PLAIN PART: what a valid name, valid signals, valid labels are. No program is named here. -/
import Derived.Test.YtigkgfdnnfmmmaaVRgp
import Derived.Test.YtigkgfdnnfmmmaaVTrp
import Derived.Test.YtigkgfdnnfmmmaaVWrm
import Derived.Test.YtigkgfdnnfmmmaaVArr
import Derived.Deep.AppendLies
import Derived.Test.YtigkgfdnnfmmmaaVExh
import Derived.Test.YtigkgfdnnfmmmaaVPair
namespace Go.Proofs.Ytigkgfdnnfmmmaa
open Go.RowKit

def txCells (ms : List ByteArray) : List Value := ms.map Value.string
theorem txCells_length (l : List ByteArray) : (txCells l).length = l.length := by simp [txCells]
theorem txCells_append (a b : List ByteArray) : txCells (a ++ b) = txCells a ++ txCells b := by simp [txCells]
theorem txCells_get {l : List ByteArray} {i : Nat} (h : i < l.length) : (txCells l)[i]? = some (.string (stN l i)) := by simp [txCells, h, stN, List.getD]
abbrev SRow (B : Nat) (w : World) (v : Value) (l : List ByteArray) : Prop := w.ownsRow B 9 1 v l.length (txCells l)
theorem SRow.form {B : Nat} {w : World} {v : Value} {ms : List ByteArray} (h : SRow B w v ms) : ∃ a c, v = .slice a ms.length c := by
  rcases h.2 with ⟨rfl, hn⟩ | ⟨g, cap, cur, rfl, _⟩
  · exact ⟨none, 0, by rw [hn]⟩
  · exact ⟨_, _, rfl⟩
theorem SRow.at {B : Nat} {w : World} {v : Value} {ms : List ByteArray} (h : SRow B w v ms) : TextsAt B w v ms := by
  have h0 := h
  rcases h.2 with ⟨rfl, hn⟩ | ⟨g, cap, cur, rfl, hb, hg, hnc, _⟩
  · exact ⟨none, 0, by rw [hn], by omega, Or.inl hn⟩
  · refine ⟨_, _, rfl, hnc, Or.inr ⟨g, 0, rfl, hb, fun i hi => ?_⟩⟩
    rw [Nat.zero_add, h0.cellAt i (by omega)]; exact txCells_get hi

theorem wpList_append_tx {ops : Array Oper} {rest : List Oper} {o : Oper} {a : Act} {w : World} {Q : Exit → Act → World → Prop} (hgd : o.guard = none) (s x : Operand)
    (ho : o.op = .call { callee := .builtin .append, args := #[s, x], argTypes := #[30, 30] })
    (base : Nat) (v : Value) (ls : List ByteArray) (hs : a.eval s = v) (hown : SRow base w v ls) (b : Nat) (m : ByteArray) (hx : a.eval x = .slice (some ⟨b, 0, none⟩) 1 1)
    (hc0 : w.cell? ⟨b, 0, none⟩ = some (.string m)) (hn : ls.length ≤ 1073741824) (hbase : base ≤ w.heap.size)
    (h : ∀ g cap w', SRow base w' (.slice (some ⟨g, 0, none⟩) (ls.length + 1) cap) (ls ++ [m]) → w.grownBy w' v.ownBlock → wpList Try.prog ops Q rest (a.put o.dst (.slice (some ⟨g, 0, none⟩) (ls.length + 1) cap)) w') : wpList Try.prog ops Q (o :: rest) a w :=
  wpList_plain hgd fun _ hK => by
    obtain ⟨i, hi, hzz⟩ := Option.map_eq_some_iff.1 Try.infoStr
    simp only [Prod.mk.injEq] at hzz
    obtain ⟨hz, hsz, hby⟩ := hzz
    obtain ⟨g, cap, w', hr, h2, h3, _, _⟩ := run_append_lies (P := Try.prog) w 30 o.type base 9 i _ 1 16 Try.underlying30 hi hz hsz hby rfl (by omega) v _ _ hown ⟨b, 0, none⟩ 1 1 [.string m]
      rfl (fun j u hj => by
        match j, hj with
        | 0, hj => simp only [List.getElem?_cons_zero, Option.some.injEq] at hj; subst hj; exact hc0
        | (j + 1), hj => simp at hj) (fun u hu => by
        simp only [List.mem_cons, List.not_mem_nil, or_false] at hu
        subst hu; rfl) (by omega) (by unfold maxLen; omega) (by omega) hbase _ rfl
    unfold Oper.wp execOp
    simp only [ho, resolve, invoke, builtin, Sem.run_bind, Sem.run_pure, Result.andThen_ok, List.map_toArray, List.map_cons, List.map_nil, hs, hx, hr]
    refine hK _ _ (h g cap w' ?_ h3)
    show w'.ownsRow base _ 1 _ (ls ++ [m]).length (txCells (ls ++ [m]))
    rw [txCells_append, List.length_append]
    exact h2

set_option maxHeartbeats 400000 in
theorem l1HasS_any (v : Value) (ss : List ByteArray) (m : ByteArray) (w : World) (lo : Nat) (hv : TextsAt lo w v ss) (hn : ss.length ≤ 1048576) :
    Calls Try.prog 101 #[v, .string m] w (RetB w (decide (findN ss m < ss.length))) := by
  obtain ⟨R, hR⟩ : ∃ R, R = decide (findN ss m < ss.length) := ⟨_, rfl⟩
  rw [← hR]
  have HR := Lib.hid hR; clear hR
  obtain ⟨ao, cap, rfl, hc, hz⟩ := hv
  have HF := Lib.hid hz; clear hz
  go_enter Try.func101, Try.ntmps101
  go_wp2_with fail
  go_loop [9] (fun i => ∃ k : Nat, k ≤ ss.length ∧ i = .int .i64 k ∧ Hid (∀ i, i < k → stN ss i ≠ m)) (fun i => ss.length - (intOf i).toNat)
  case atStart => exact ⟨0, Nat.zero_le _, rfl, fun i hi => absurd hi (Nat.not_lt_zero _)⟩
  case round =>
    obtain ⟨k, hk, rfl, hall⟩ := hrel
    by_cases hlt : k < ss.length
    · rcases HF.out with h0 | ⟨b, off, rfl, hlo, hcell⟩
      · omega
      have c1 := hcell k hlt
      clear hcell
      by_cases he : stN ss k = m
      · have hf : findN ss m < ss.length := by
          unfold findN
          rw [List.findIdx_lt_length]
          exact ⟨ss[k], List.getElem_mem hlt, by rw [← stN_getD hlt]; exact decide_eq_true he⟩
        have e : R = true := by rw [HR.out, decide_eq_true hf]
        subst e
        have te : ((stN ss k).toList == m.toList) = true := by rw [bytes_toList_beq, decide_eq_true he]
        clear he hf
        go_wp2_with fail
        go_ret
        exact ⟨rfl, Below.refl _ _⟩
      · have H2 : Hid (∀ i, i < k + 1 → stN ss i ≠ m) := by
          intro i hi
          by_cases e : i = k
          · subst e; exact he
          · exact hall.out i (by omega)
        have te : ((stN ss k).toList == m.toList) = false := by rw [bytes_toList_beq, decide_eq_false he]
        clear he
        go_wp2_with fail
        go_round
        case rel => exact ⟨k + 1, by omega, by go_num, H2⟩
        case measure => simp [intOf]; omega
    · have hkk : k = ss.length := by omega
      subst hkk
      have hf : ¬ findN ss m < ss.length := by
        intro hf
        have h1 := List.findIdx_getElem (p := fun x => decide (x = m)) (xs := ss) (w := hf)
        have h2 := of_decide_eq_true h1
        exact hall.out (findN ss m) hf (by rw [stN_getD hf]; exact h2)
      have e : R = false := by rw [HR.out, decide_eq_false hf]
      subst e
      clear hf
      go_wp2_with fail
      go_ret
      exact ⟨rfl, Below.refl _ _⟩

end Go.Proofs.Ytigkgfdnnfmmmaa

namespace Go.Proofs.Ytigkgfdnnfmmmaa
open Go.RowKit Go.Maps

theorem take_padX {s : ByteArray} {k : Nat} (h : k = s.size) : bstr ((pad (bytes s)).take k) = s := by
  subst h
  unfold pad
  rw [← bytes_length, List.take_left']
  · exact bstr_bytes s
  · rfl
def RetTx (w : World) (ss : List ByteArray) (e : Ending) (w' : World) : Prop := ∃ b, e = .returned (.slice (some ⟨b, 0, none⟩) ss.length ss.length) ∧ w.heap.size ≤ b ∧ b < w'.heap.size ∧ w'.rowIs b 9 ss.length (scopied ss ss.length) ∧ Below w.heap.size w w'

set_option maxRecDepth 100000 in
set_option maxHeartbeats 2000000 in
theorem markTexts_any (B E M : Nat) (w : World) (p : Nat) (ao : Option Addr) (tn cap : Nat) (vm vv : Value) (kk tt : Int) (rf : Bool) (s : ExS) (h : XpAt B E M w (p : Int) (.slice ao tn cap) vm vv kk tt rf s) (hp : p ≤ 30) (hz : ∀ a, a < s.ms.length → (stN s.ms a).size = p) (hn : s.ms.length ≤ 1000) (hpos : 0 < s.ms.length) :
    Calls Try.prog 50 #[.pointer (some ⟨E, 0, none⟩)] w (RetTx w s.ms) := by
  have h30 : ∀ a, a < s.ms.length → (stN s.ms a).size ≤ 30 := fun a ha => by rw [hz a ha]; exact hp
  obtain ⟨ms, hms⟩ : ∃ q, q = s.ms := ⟨_, rfl⟩
  obtain ⟨g, cm, hvm, _, _⟩ := h.rm.form hpos
  subst hvm
  have HH := Lib.hid h; have H30 := Lib.hid h30; have HZ := Lib.hid hz; have HMS := Lib.hid hms
  rw [← hms] at hn hpos ⊢
  obtain ⟨N, hN⟩ : ∃ q, q = ms.length := ⟨_, rfl⟩
  have HN := Lib.hid hN
  have c3 := h.c3
  rw [← hms, ← hN] at c3
  rw [← hN] at hn hpos
  have zE := h.ty.lt
  have hmk := run_make_row' (P := Try.prog) 30 9 (.string ByteArray.empty) 16 Try.underlying30 Try.infoStr rfl .i64 .i64 N (by omega) (by omega)
  have g1 := Try.underlying111
  unfold RetTx
  rw [← hN]
  clear h h30 hz hms hN
  have c3a : (w.alloc (.cells (madeCells #[.string ByteArray.empty] N) 9)).cell? ⟨E, 3, none⟩ = some (.slice (some ⟨g, 0, none⟩) N cm) := cell_carry c3 (Carries.of 0 ((Below.refl _ _).alloc (Nat.le_refl _) _))
  go_enter Try.func50, Try.ntmps50
  go_wp2_with fail
  go_loopw [17] (fun i wr => ∃ k : Nat, k ≤ N ∧ i = .int .i64 (k : Int) ∧ Hid (wr.rowIs w.heap.size 9 N (scopied ms k)) ∧ Below w.heap.size w wr ∧ w.heap.size < wr.heap.size) (fun i _ => N - (intOf i).toNat)
  case atStart => exact ⟨0, Nat.zero_le _, rfl, (World.rowIs_made _ _ _ _).congr (fun i _ => by simp [scopied]), (Below.refl _ _).alloc (Nat.le_refl _) _, by simp⟩
  case round =>
  obtain ⟨k, hk, rfl, hrow, hb1, hz1⟩ := hrel
  obtain ⟨wo, hwo⟩ : ∃ q, q = wr := ⟨_, rfl⟩
  subst hwo
  have HROW := Lib.hid hrow.out; have HB1 := Lib.hid hb1
  clear hrow hmk c3a
  by_cases hlt : k < N
  case neg =>
    have hkk : k = N := by omega
    subst hkk
    clear hb1
    go_wp2_with fail
    go_ret
    exact ⟨_, rfl, Nat.le_refl _, hz1, HROW.out, HB1.out⟩
  have hxo := HH.out.after hb1
  have hks : k < s.ms.length := by rw [← HMS.out, ← HN.out]; exact hlt
  have hrange := hxo.rm.range H30.out hks
  obtain ⟨m, hm⟩ : ∃ q, q = stN s.ms k := ⟨_, rfl⟩
  have hmz : m.size = p := by rw [hm]; exact HZ.out k hks
  rw [← hm] at hrange
  have hXl : (pad (bytes m)).length = 30 := pad_length (by rw [bytes_length]; omega)
  obtain ⟨X, hX⟩ : ∃ q, q = pad (bytes m) := ⟨_, rfl⟩
  have hr2 : wo.rangeAt g (k * 30) (arr X) := by rw [hX]; exact hrange
  rw [← hX] at hXl
  have g2 : (Try.prog.info? 111).map (·.size) = some (arr X).length := by rw [arr_length, hXl]; exact Try.infoArr
  have HM := Lib.hid hm; have HMZ := Lib.hid hmz; have HX := Lib.hid hX; have HXL := Lib.hid hXl
  have hz3 := ArrAt.new wo zeros_length
  have HZ3 := Lib.hid hz3
  have HAL := Lib.hid (show Below wo.heap.size wo (wo.alloc (.cells (arr zeros).toArray 111)) from (Below.refl _ _).alloc (Nat.le_refl _) _)
  clear hxo hrange hm hmz hX hXl hz3 hb1 hks
  have hb4 : Below wo.heap.size wo ((wo.alloc (.cells (arr zeros).toArray 111)).setRow wo.heap.size (arr X).toArray) := below_setRow HAL.out (Nat.le_refl _) _
  have hA4 : ArrAt ((wo.alloc (.cells (arr zeros).toArray 111)).setRow wo.heap.size (arr X).toArray) wo.heap.size X := ⟨setRow_heap _ _ _ _ _ _ HZ3.out.1, HXL.out⟩
  obtain ⟨w4, hw4⟩ : ∃ q, q = (wo.alloc (.cells (arr zeros).toArray 111)).setRow wo.heap.size (arr X).toArray := ⟨_, rfl⟩
  rw [← hw4] at hb4 hA4
  have HW4 := Lib.hid hw4
  clear hw4
  go_upto_region 5 with (first | (refine wpList_load_mid rfl 111 _ rfl g (k * 30) rfl (arr X) _ hr2 g1 rfl g2 ?_) | (refine wpList_store_row rfl 111 _ _ rfl wo.heap.size _ rfl rfl _ _ HZ3.out.1 (infoArr HXL.out) (by simp [arr_length, HXL.out, zeros_length]) (arr_all _) ?_))
  change Code.wp _ _ _ _ ((wo.alloc (.cells (arr zeros).toArray 111)).setRow wo.heap.size (arr X).toArray)
  rw [← HW4.out]
  clear HW4
  have hb0 : Below w.heap.size w w4 := HB1.out.trans (hb4.mono HB1.out.size)
  have hx4 := HH.out.after hb0
  have c0 := hx4.c0; have c1 := hx4.c1
  have rng4 : w4.rangeAt wo.heap.size 0 (arr X) := hA4.range
  have HR4 : Hid (w4.rowIs w.heap.size 9 N (scopied ms k)) := HROW.out.of_block (hb4.block _ hz1)
  obtain ⟨bz, hbz⟩ : ∃ q, q = wo.heap.size := ⟨_, rfl⟩
  have z4 : w.heap.size < w4.heap.size := Nat.lt_of_lt_of_le hz1 hb4.size
  have zb : w.heap.size < bz := by rw [hbz]; exact hz1
  rw [← hbz] at rng4 ⊢
  have HBX := Lib.hid hb0
  clear hb4 hA4 hx4 hb0 HZ3 HAL hbz hr2
  refine wp_region_held_drew (S := fun w' => w'.cell? ⟨E, 0, none⟩ = some (.int .i64 (p : Int)) ∧ w'.cell? ⟨E, 1, none⟩ = some (.slice ao tn cap) ∧ w'.rangeAt bz 0 (arr X)) (by kernel_rfl) ⟨c0, c1, rng4⟩ (fun hHeld => ?_)
  refine tk0 (v := ?_) (by kernel_rfl) (by kernel_rfl) (by kernel_rfl) (by first | exact fun _ _ _ h => h | exact fun _ _ _ h => absurd h.1 (by simp)) (Or.inl ⟨by rfl, ?_⟩) (by assumption) ?_
  rotate_left 1
  focus (intro wx hSw; (try dsimp only at hSw); go_simp; try (with_reducible rfl))
  try simp only [Act.put, List.setIfInBounds_toArray, List.set_cons_zero, List.set_cons_succ]
  refine tk1 (v := ?_) (by kernel_rfl) (by kernel_rfl) (by kernel_rfl) (by first | exact fun _ _ _ h => h | exact fun _ _ _ h => absurd h.1 (by simp)) (Or.inl ⟨by rfl, ?_⟩) (by assumption) ?_
  rotate_left 1
  focus (intro wx hSw; (try dsimp only at hSw); go_simp; try (with_reducible rfl))
  try simp only [Act.put, List.setIfInBounds_toArray, List.set_cons_zero, List.set_cons_succ]
  refine tk2 (v := ?_) (by kernel_rfl) (by kernel_rfl) (by kernel_rfl) (by first | exact fun _ _ _ h => h | exact fun _ _ _ h => absurd h.1 (by simp)) (Or.inl ⟨by rfl, ?_⟩) (by assumption) ?_
  rotate_left 1
  focus (intro wx hSw; (try dsimp only at hSw); go_simp; try (with_reducible rfl))
  try simp only [Act.put, List.setIfInBounds_toArray, List.set_cons_zero, List.set_cons_succ]
  refine tk3 (v := ?_) (by kernel_rfl) (by kernel_rfl) (by kernel_rfl) (by first | exact fun _ _ _ h => h | exact fun _ _ _ h => absurd h.1 (by simp)) (Or.inl ⟨by rfl, ?_⟩) (by assumption) ?_
  rotate_left 1
  focus (intro wx hSw; (try dsimp only at hSw); go_simp; try (with_reducible rfl))
  try simp only [Act.put, List.setIfInBounds_toArray, List.set_cons_zero, List.set_cons_succ]
  refine tk4 (v := ?_) (by kernel_rfl) (by kernel_rfl) (by kernel_rfl) (by first | exact fun _ _ _ h => h | exact fun _ _ _ h => absurd h.1 (by simp)) (Or.inl ⟨by rfl, ?_⟩) (by assumption) ?_
  rotate_left 1
  focus (intro wx hSw; (try dsimp only at hSw); go_simp; try (with_reducible rfl))
  try simp only [Act.put, List.setIfInBounds_toArray, List.set_cons_zero, List.set_cons_succ]
  refine tk5 (v := ?_) (by kernel_rfl) (by kernel_rfl) (by kernel_rfl) (by first | exact fun _ _ _ h => h | exact fun _ _ _ h => absurd h.1 (by simp)) (Or.inl ⟨by rfl, ?_⟩) (by assumption) ?_
  rotate_left 1
  focus (intro wx hSw; (try dsimp only at hSw); go_simp; try (with_reducible rfl))
  try simp only [Act.put, List.setIfInBounds_toArray, List.set_cons_zero, List.set_cons_succ]
  refine tk6 (by kernel_rfl) (by kernel_rfl) (by kernel_rfl) (by first | exact fun _ _ _ h => h | exact fun _ _ _ h => absurd h.1 (by simp)) (yieldsIf_load_mid (by rfl) _ _ rfl _ _ rfl _ _ (fun w hS => hS.2.2) g1 rfl g2) (by assumption) ?_
  try simp only [Act.put, List.setIfInBounds_toArray, List.set_cons_zero, List.set_cons_succ]
  refine rd7 (by kernel_rfl) (fun K hK => ?_)
  go_simp
  have hdr : Below w4.heap.size w4 w4.drew := (Below.refl _ _).drew
  refine (writeMarking_any p _ X HXL.out w4.drew hp ao tn cap rfl).mono ?_
  rintro e w5 ⟨rfl, hb5⟩
  have hb45 : Below w4.heap.size w4 w5 := hdr.trans (hb5.mono hdr.size)
  have c0 := cell_carry c0 (Carries.of 0 hb45)
  have c1 := cell_carry c1 (Carries.of 0 hb45)
  have rng5 : w5.rangeAt bz 0 (arr X) := fun j v hv => cell_carry (rng4 j v hv) (Carries.of 0 hb45)
  have HR5 := Lib.hid (HR4.out.of_block (hb45.block _ z4))
  have HB5 := Lib.hid (HBX.out.trans (hb45.mono HBX.out.size))
  have z5 : w.heap.size < w5.heap.size := Nat.lt_of_lt_of_le z4 hb45.size
  have hmt : bstr (X.take p) = stN ms k := by
    rw [HX.out, take_padX HMZ.out.symm, HM.out, HMS.out]
  rw [hmt]
  clear hdr hb5 hb45 hmt
  refine hK.out _ _ ⟨c0, c1, rng5⟩ (fun hHeld => ?_)
  clear hK K
  try simp only [Act.put, List.setIfInBounds_toArray, List.set_cons_zero, List.set_cons_succ]
  have f5 := HR5.out.frozen k
  have c5 := HR5.out.cell hlt
  refine tk8 (v := ?_) (by kernel_rfl) (by kernel_rfl) (by kernel_rfl) (by first | exact fun _ _ _ h => h | exact fun _ _ _ h => absurd h.1 (by simp)) (Or.inl ⟨by rfl, ?_⟩) (by assumption) ?_
  rotate_left 1
  focus (intro wx hSw; (try dsimp only at hSw); go_simp; try (with_reducible rfl))
  try simp only [Act.put, List.setIfInBounds_toArray, List.set_cons_zero, List.set_cons_succ]
  refine rd9 (by kernel_rfl) (fun K hK => ?_)
  go_simp
  have hne : ∀ (q : Addr), q.block ≠ w.heap.size → ∀ v, w5.cell? q = some v → (w5.setCell ⟨w.heap.size, k, none⟩ (.string (stN ms k))).cell? q = some v := fun q hq v hv => (World.cell?_setCell_other w5 _ _ _ (by rintro rfl; exact hq rfl)).trans hv
  have d0 := hne ⟨E, 0, none⟩ (by simp; omega) _ c0
  have d1 := hne ⟨E, 1, none⟩ (by simp; omega) _ c1
  have rng6 : (w5.setCell ⟨w.heap.size, k, none⟩ (.string (stN ms k))).rangeAt bz 0 (arr X) := fun j v hv => hne ⟨bz, 0 + j, none⟩ (by simp; omega) _ (rng5 j v hv)
  refine hK.out _ _ ⟨d0, d1, rng6⟩ (fun hHeld => ?_)
  clear hK K
  try simp only [Act.put, List.setIfInBounds_toArray, List.set_cons_zero, List.set_cons_succ]
  refine wpAnyH_done (by kernel_rfl) ?_ _
  have h3 := HR5.out.set k (.string (stN ms k))
  rw [scopied_step] at h3
  have h4 := HB5.out.setCell (p := ⟨w.heap.size, k, none⟩) (Nat.le_refl _) (.string (stN ms k))
  have H3 := Lib.hid h3; have H4 := Lib.hid h4
  clear h3 h4 hne d0 d1 rng6 rng5 rng4 c0 c1 c5 f5
  go_wp2_with fail
  go_roundw
  case rel => exact ⟨k + 1, by omega, by go_num, H3, H4.out, by simpa using z5⟩
  case measure => simp [intOf]; omega

end Go.Proofs.Ytigkgfdnnfmmmaa

namespace Go.Proofs.Ytigkgfdnnfmmmaa
open Go.RowKit

/-- a byte of a name at place i -/
def NameAt (s : ByteArray) (i : Nat) : Prop := (97 ≤ (s.get! i).toNat ∧ (s.get! i).toNat ≤ 122) ∨ (0 < i ∧ 48 ≤ (s.get! i).toNat ∧ (s.get! i).toNat ≤ 57)
instance (s : ByteArray) (i : Nat) : Decidable (NameAt s i) := by unfold NameAt; infer_instance
def NameTo (s : ByteArray) (k : Nat) : Prop := ∀ i, i < k → NameAt s i
instance (s : ByteArray) (k : Nat) : Decidable (NameTo s k) := by unfold NameTo; infer_instance
def nameB (s : ByteArray) : Bool := decide (NameTo s s.size) && decide (1 ≤ s.size ∧ s.size ≤ 6)
theorem NameTo.zero (s : ByteArray) : NameTo s 0 := fun _ h => absurd h (Nat.not_lt_zero _)
theorem NameTo.succ {s : ByteArray} {k : Nat} (h : NameTo s k) (hk : k < s.size) (hd : (97 ≤ s[k].toNat ∧ s[k].toNat ≤ 122) ∨ (0 < k ∧ 48 ≤ s[k].toNat ∧ s[k].toNat ≤ 57)) : NameTo s (k + 1) := by
  intro i hi
  by_cases e : i = k
  · subst e; unfold NameAt; rw [get!_eq hk]; exact hd
  · exact h i (by omega)
theorem nameB_bad {s : ByteArray} {k : Nat} (hk : k < s.size) (hd : ¬ ((97 ≤ s[k].toNat ∧ s[k].toNat ≤ 122) ∨ (0 < k ∧ 48 ≤ s[k].toNat ∧ s[k].toNat ≤ 57))) : nameB s = false := by
  have : decide (NameTo s s.size) = false := decide_eq_false fun h => hd (by have := h k hk; unfold NameAt at this; rw [get!_eq hk] at this; exact this)
  unfold nameB; rw [this]; rfl
theorem nameB_size {s : ByteArray} (h : ¬ (1 ≤ s.size ∧ s.size ≤ 6)) : nameB s = false := by
  unfold nameB; rw [decide_eq_false h]; simp
theorem nameB_good {s : ByteArray} (h : NameTo s s.size) (h2 : 1 ≤ s.size ∧ s.size ≤ 6) : nameB s = true := by
  unfold nameB; rw [decide_eq_true h, decide_eq_true h2]; rfl

/-- signal i fits: its name, its kind, no signal ahead of it has its name -/
def SigOk (ss : List Sig) (i : Nat) : Prop := nameB (sgN ss i) = true ∧ (1 ≤ sgK ss i ∧ sgK ss i ≤ 3) ∧ ∀ j, j < i → sgN ss i ≠ sgN ss j
instance (ss : List Sig) (i : Nat) : Decidable (SigOk ss i) := by unfold SigOk; infer_instance
def SigTo (ss : List Sig) (k : Nat) : Prop := ∀ i, i < k → SigOk ss i
instance (ss : List Sig) (k : Nat) : Decidable (SigTo ss k) := by unfold SigTo; infer_instance
def sigsB (ss : List Sig) : Bool := decide (SigTo ss ss.length) && decide (1 ≤ ss.length ∧ ss.length ≤ 8)
theorem sigsB_bad {ss : List Sig} {k : Nat} (hk : k < ss.length) (h : ¬ SigOk ss k) : sigsB ss = false := by
  have : decide (SigTo ss ss.length) = false := decide_eq_false fun hh => h (hh k hk)
  unfold sigsB; rw [this]; rfl
theorem sigsB_size {ss : List Sig} (h : ¬ (1 ≤ ss.length ∧ ss.length ≤ 8)) : sigsB ss = false := by
  unfold sigsB; rw [decide_eq_false h]; simp
theorem sigsB_good {ss : List Sig} (h : SigTo ss ss.length) (h2 : 1 ≤ ss.length ∧ ss.length ≤ 8) : sigsB ss = true := by
  unfold sigsB; rw [decide_eq_true h, decide_eq_true h2]; rfl

/-- label i fits m signals -/
def LabOk (m : Nat) (ls : List Lab) (i : Nat) : Prop := (0 ≤ lbS ls i ∧ lbS ls i < m) ∨ (lbS ls i = -1 ∧ lbU ls i = false)
instance (m : Nat) (ls : List Lab) (i : Nat) : Decidable (LabOk m ls i) := by unfold LabOk; infer_instance
def LabTo (m : Nat) (ls : List Lab) (k : Nat) : Prop := ∀ i, i < k → LabOk m ls i
instance (m : Nat) (ls : List Lab) (k : Nat) : Decidable (LabTo m ls k) := by unfold LabTo; infer_instance
def labsB (m : Nat) (ls : List Lab) : Bool := decide (LabTo m ls ls.length)
theorem labsB_bad {m : Nat} {ls : List Lab} {k : Nat} (hk : k < ls.length) (h : ¬ LabOk m ls k) : labsB m ls = false := decide_eq_false fun hh => h (hh k hk)

/-- a label fits, by its two parts -/
def labV (m : Nat) (a : Int) (u : Bool) : Bool := decide (0 ≤ a ∧ a < (m : Int)) || (decide (a = -1) && !u)
theorem labV_eq (m : Nat) (ls : List Lab) (i : Nat) : decide (LabOk m ls i) = labV m (lbS ls i) (lbU ls i) := by
  rw [Bool.eq_iff_iff, decide_eq_true_iff]
  unfold LabOk labV
  simp
theorem labV_in {m : Nat} {a : Int} {u : Bool} (h : 0 ≤ a ∧ a < (m : Int)) : labV m a u = true := by unfold labV; rw [decide_eq_true h]; rfl
theorem labV_out {m : Nat} {a : Int} {u : Bool} (h : ¬ (0 ≤ a ∧ a < (m : Int))) : labV m a u = (decide (a = -1) && !u) := by unfold labV; rw [decide_eq_false h]; rfl

end Go.Proofs.Ytigkgfdnnfmmmaa
