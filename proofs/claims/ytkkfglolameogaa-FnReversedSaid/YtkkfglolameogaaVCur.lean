/- THE CURSOR OF THE DRAWS: next, pick, one. -/
import Derived.Test.YtkkfglolameogaaVMk
import Derived.Deep.QuietTactic
import Derived.BigQuiet
import Derived.Laws.Bits64b
namespace Go.Proofs.Ytkkfglolameogaa
open Go.RowKit

/-- bytes that may be read, in a block before b -/
def CodeIn (b : Nat) (w : World) (v : Value) (n : Nat) : Prop :=
  ∃ (ao : Option Addr) (cap : Nat), v = .slice ao n cap ∧ (n = 0 ∨ ∃ g off, ao = some ⟨g, off, none⟩ ∧ g < b ∧ ∀ i, i < n → ∃ z : Int, w.cell? ⟨g, off + i, none⟩ = some (.int .u8 z) ∧ 0 ≤ z ∧ z ≤ 255)
/-- a cursor: its block is b; the code lies before it -/
def CurAt (b : Nat) (w : World) (a : Nat) : Prop :=
  ∃ (v : Value) (n : Nat) (s : Int), w.cell? ⟨b, 0, none⟩ = some v ∧ CodeIn b w v n ∧ n ≤ 1048576 ∧ w.cell? ⟨b, 1, none⟩ = some (.int .i64 a) ∧ w.cell? ⟨b, 2, none⟩ = some (.int .u64 s) ∧ 0 ≤ s ∧ s ≤ 18446744073709551615 ∧ w.frozen? ⟨b, 1, none⟩ = false ∧ w.frozen? ⟨b, 2, none⟩ = false

theorem CodeIn.keep {b : Nat} {w w' : World} {v : Value} {n : Nat} (h : CodeIn b w v n) (hw : ∀ x, x < b → x < w.heap.size → w'.heap[x]? = w.heap[x]?) : CodeIn b w' v n := by
  obtain ⟨ao, cap, rfl, hz⟩ := h
  refine ⟨ao, cap, rfl, ?_⟩
  rcases hz with hz | ⟨g, off, rfl, hg, hcell⟩
  · exact Or.inl hz
  · refine Or.inr ⟨g, off, rfl, hg, fun i hi => ?_⟩
    obtain ⟨z, hz, z0, z1⟩ := hcell i hi
    exact ⟨z, (World.cell?_of_block (w := w) (w' := w') (a := ⟨g, off + i, none⟩) (hw g hg (by have := cell_old hz; simpa using this))).trans hz, z0, z1⟩
theorem CurAt.step {b a : Nat} {w : World} (h : CurAt b w a) (e : Int) (e0 : 0 ≤ e) (e1 : e ≤ 18446744073709551615) :
    CurAt b ((w.setCell ⟨b, 1, none⟩ (.int .i64 ((a : Int) + 1))).setCell ⟨b, 2, none⟩ (.int .u64 e)) (a + 1) ∧ w.grownBy ((w.setCell ⟨b, 1, none⟩ (.int .i64 ((a : Int) + 1))).setCell ⟨b, 2, none⟩ (.int .u64 e)) (some b) := by
  obtain ⟨v, n, s, c0, hcode, hn, c1, c2, s0, s1, f1, f2⟩ := h
  refine ⟨⟨v, n, e, ?_, ?_, hn, ?_, ?_, e0, e1, ?_, ?_⟩, ?_⟩
  · exact (World.cell?_setCell_other _ _ _ _ (by simp)).trans ((World.cell?_setCell_other _ _ _ _ (by simp)).trans c0)
  · refine hcode.keep (fun x hx _ => ?_)
    exact (Below.heap_setCell _ _ _ _ (by simp; omega)).trans (Below.heap_setCell _ _ _ _ (by simp; omega))
  · rw [World.cell?_setCell_other _ _ _ _ (by simp), World.cell?_setCell_same _ _ _ c1, Int.natCast_add]; rfl
  · exact World.cell?_setCell_same _ _ _ ((World.cell?_setCell_other _ _ _ _ (by simp)).trans c2)
  · exact (World.frozen?_setCell _ _ _ _).trans ((World.frozen?_setCell _ _ _ _).trans f1)
  · exact (World.frozen?_setCell _ _ _ _).trans ((World.frozen?_setCell _ _ _ _).trans f2)
  · exact ⟨rfl, rfl, rfl, by simp, fun k _ hne => (Below.heap_setCell _ _ _ _ (fun e => hne (by simp at e; rw [e]))).trans (Below.heap_setCell _ _ _ _ (fun e => hne (by simp at e; rw [e])))⟩
theorem CurAt.drewN {b a : Nat} {w : World} (h : CurAt b w a) (q : Nat) : CurAt b (w.drewN q) a := h
theorem grownBy_drewN {w w' : World} {o : Option Nat} (h : w.grownBy w' o) (q : Nat) : w.grownBy (w'.drewN q) o := ⟨h.os, h.tape, h.output, h.size, h.block⟩
theorem drewN_grownBy {w w' : World} {o : Option Nat} {q : Nat} (h : (w.drewN q).grownBy w' o) : w.grownBy w' o := ⟨h.os, h.tape, h.output, h.size, h.block⟩
theorem CurAt.stepN {b a : Nat} {w : World} (h : CurAt b w a) (e : Int) (e0 : 0 ≤ e) (e1 : e ≤ 18446744073709551615) (q q2 : Nat) :
    CurAt b ((((w.drewN q).setCell ⟨b, 1, none⟩ (.int .i64 ((a : Int) + 1))).setCell ⟨b, 2, none⟩ (.int .u64 e)).drewN q2) (a + 1) ∧ w.grownBy ((((w.drewN q).setCell ⟨b, 1, none⟩ (.int .i64 ((a : Int) + 1))).setCell ⟨b, 2, none⟩ (.int .u64 e)).drewN q2) (some b) := by
  obtain ⟨h1, h2⟩ := (h.drewN q).step e e0 e1
  exact ⟨h1.drewN q2, grownBy_drewN (drewN_grownBy h2) q2⟩
theorem u64_pos (n : Int) : 0 ≤ IntKind.u64.wrap n ∧ IntKind.u64.wrap n ≤ 18446744073709551615 := by
  rw [show IntKind.u64.wrap n = n % 18446744073709551616 by simp [IntKind.wrap, IntKind.bits, IntKind.signed]]
  omega

theorem and255 (e : Int) (e0 : 0 ≤ e) (e1 : e ≤ 18446744073709551615) : 0 ≤ wrap64 (bits BinOp.and IntKind.u64 (e / 1099511627776) 255) ∧ wrap64 (bits BinOp.and IntKind.u64 (e / 1099511627776) 255) ≤ 255 := by
  obtain ⟨k, rfl⟩ : ∃ k : Nat, e = k := ⟨e.toNat, by omega⟩
  have h := bits_and_u64_nat (k / 1099511627776) 255 (by omega) (by omega)
  rw [show ((k / 1099511627776 : Nat) : Int) = (k : Int) / 1099511627776 from rfl] at h
  rw [show ((255 : Nat) : Int) = 255 from rfl] at h
  rw [h]
  have h2 : k / 1099511627776 &&& 255 ≤ 255 := Nat.and_le_right
  rw [IntWalk.wrap64_in _ ⟨by omega, by omega⟩]
  omega

set_option maxRecDepth 100000 in
set_option maxHeartbeats 1000000 in
theorem next_any (b a : Nat) (w : World) (hc : CurAt b w a) (ha : a ≤ 1099511627776) :
    Calls Try.prog 138 #[.pointer (some ⟨b, 0, none⟩)] w (fun e w' => ∃ r : Int, e = .returned (.int .i64 r) ∧ 0 ≤ r ∧ r ≤ 255 ∧ CurAt b w' (a + 1) ∧ w.grownBy w' (some b)) := by
  have HCU := Lib.hid hc
  obtain ⟨v, n, s, c0, hcode, hn, c1, c2, s0, s1, f1, f2⟩ := hc
  have HC := Lib.hid hcode
  obtain ⟨ao, cap, rfl, hz⟩ := hcode
  by_cases hlt : a < n
  · rcases hz with h | ⟨g, off, rfl, hg, hcell⟩
    · omega
    obtain ⟨z, hz, z0, z1⟩ := hcell a hlt
    have h1 : (a : Int) < (n : Int) := by omega
    have h2 : (0 : Int) ≤ (a : Int) := by omega
    have h3 : decide ((a : Int) < (n : Int)) = true := decide_eq_true h1
    go_enter Try.func138, Try.ntmps138
    go_wp2_with fail
    go_quiet (fail)
    go_wp2_with fail
    go_quiet (fail)
    go_wp2_with fail
    have h4 : (a : Int) + 1 ≤ (n : Int) := by omega
    have h5 : decide ((a : Int) + 1 ≤ (n : Int)) = true := decide_eq_true h4
    have E := u64_pos (IntKind.u64.wrap (IntKind.u64.wrap (s * 6364136223846793005) + z) + 1442695040888963407)
    generalize IntKind.u64.wrap (IntKind.u64.wrap (IntKind.u64.wrap (s * 6364136223846793005) + z) + 1442695040888963407) = e at E ⊢
    obtain ⟨E0, E1⟩ := E
    go_quiet (fail)
    go_wp2_with fail
    go_ret
    exact ⟨z, rfl, z0, z1, HCU.out.stepN e E0 E1 _ _⟩
  · have h1 : ¬ (a : Int) < (n : Int) := by omega
    have h3 : decide ((a : Int) < (n : Int)) = false := decide_eq_false h1
    go_enter Try.func138, Try.ntmps138
    go_wp2_with fail
    go_quiet (fail)
    go_wp2_with fail
    have h4 : ¬ (a : Int) + 1 ≤ (n : Int) := by omega
    have h5 : decide ((a : Int) + 1 ≤ (n : Int)) = false := decide_eq_false h4
    have E := u64_pos (IntKind.u64.wrap (IntKind.u64.wrap (s * 6364136223846793005)) + 1442695040888963407)
    generalize IntKind.u64.wrap (IntKind.u64.wrap (IntKind.u64.wrap (s * 6364136223846793005)) + 1442695040888963407) = e at E ⊢
    obtain ⟨E0, E1⟩ := E
    go_quiet (fail)
    go_wp2_with fail
    go_ret
    obtain ⟨A0, A1⟩ := and255 e E0 E1
    exact ⟨_, rfl, A0, A1, HCU.out.stepN e E0 E1 _ _⟩

set_option maxRecDepth 100000 in
set_option maxHeartbeats 1000000 in
theorem pick_any (b a : Nat) (n : Int) (w : World) (hc : CurAt b w a) (ha : a ≤ 1099511627775) (hn : n ≤ 2147483648) (hn0 : -2147483648 ≤ n) :
    Calls Try.prog 89 #[.pointer (some ⟨b, 0, none⟩), .int .i64 n] w (fun e w' => ∃ (r : Int) (a' : Nat), e = .returned (.int .i64 r) ∧ 0 ≤ r ∧ (r < n ∨ r = 0) ∧ a' ≤ a + 2 ∧ CurAt b w' a' ∧ w.grownBy w' (some b)) := by
  have HC := Lib.hid hc; clear hc
  by_cases h1 : n ≤ 1
  · have t1 : decide (n ≤ 1) = true := decide_eq_true h1
    go_enter Try.func89, Try.ntmps89
    go_wp2_with fail
    go_ret
    exact ⟨0, a, rfl, by omega, Or.inr rfl, by omega, HC.out, ⟨rfl, rfl, rfl, Nat.le_refl _, fun _ _ _ => rfl⟩⟩
  have t1 : decide (n ≤ 1) = false := decide_eq_false h1
  go_enter Try.func89, Try.ntmps89
  go_wp2_with fail
  refine (next_any b a w HC.out (by omega)).mono ?_
  rintro e w1 ⟨r, rfl, r0, r1, hc1, hg⟩
  have HC1 := Lib.hid hc1; clear hc1
  have HG1 := Lib.hid hg; clear hg
  by_cases h2 : 200 < n
  · have t2 : decide (200 < n) = true := decide_eq_true h2
    go_wp2_with fail
    refine (next_any b (a + 1) w1 HC1.out (by omega)).mono ?_
    rintro e w2 ⟨r2, rfl, r20, r21, hc2, hg⟩
    have HC2 := Lib.hid hc2; clear hc2
    have HG2 := Lib.hid (Lib.grownBy_trans HG1.out hg); clear hg
    have t3 : (n == 0) = false := by rw [beq_eq_false_iff_ne]; omega
    go_wp2_with fail
    go_ret
    exact ⟨_, a + 2, rfl, Int.emod_nonneg _ (by omega), Or.inl (Int.emod_lt_of_pos _ (by omega)), by omega, HC2.out, HG2.out⟩
  · have t2 : decide (200 < n) = false := decide_eq_false h2
    have t3 : (n == 0) = false := by rw [beq_eq_false_iff_ne]; omega
    go_wp2_with fail
    go_ret
    exact ⟨_, a + 1, rfl, Int.emod_nonneg _ (by omega), Or.inl (Int.emod_lt_of_pos _ (by omega)), by omega, HC1.out, HG1.out⟩

set_option maxRecDepth 100000 in
theorem one_any (b a : Nat) (n : Int) (w : World) (hc : CurAt b w a) (ha : a ≤ 1099511627775) (hn : n ≤ 2147483648) (hn0 : -2147483648 ≤ n) :
    Calls Try.prog 103 #[.pointer (some ⟨b, 0, none⟩), .int .i64 n] w (fun e w' => ∃ (r : Bool) (a' : Nat), e = .returned (.bool r) ∧ a' ≤ a + 2 ∧ CurAt b w' a' ∧ w.grownBy w' (some b)) := by
  have HC := Lib.hid hc; clear hc
  go_enter Try.func103, Try.ntmps103
  go_wp2_with fail
  refine (pick_any b a n w HC.out ha hn hn0).mono ?_
  rintro e w1 ⟨r, a', rfl, r0, r1, ha', hc1, hg⟩
  go_wp2_with fail
  go_ret
  exact ⟨_, a', rfl, ha', hc1, hg⟩

theorem grown_carries {w w' : World} {b lo : Nat} (hg : w.grownBy w' (some b)) (hb : b < lo) : Carries lo w w' := fun a v ha hc => hg.cell hc (by intro e; injection e with e; omega)

set_option maxRecDepth 100000 in
set_option maxHeartbeats 1000000 in
theorem among_any (b a lo : Nat) (v : Value) (zs : List Int) (w : World) (hc : CurAt b w a) (ha : a ≤ 1099511627775) (hv : IntsAt lo w v zs) (hb : b < lo) (h0 : zs ≠ []) (hn : zs.length ≤ 1048576) :
    Calls Try.prog 141 #[.pointer (some ⟨b, 0, none⟩), v] w (fun e w' => ∃ (i : Nat) (a' : Nat), e = .returned (.int .i64 (zs.getD i 0)) ∧ i < zs.length ∧ a' ≤ a + 2 ∧ CurAt b w' a' ∧ w.grownBy w' (some b)) := by
  have HC := Lib.hid hc; clear hc
  obtain ⟨ao, cap, rfl, _, hz⟩ := hv
  rcases hz with hz | ⟨g, off, rfl, hlo, hcell⟩
  · exact absurd hz h0
  have hpos : 0 < zs.length := List.length_pos_iff.2 h0
  have HL := Lib.hid hcell; clear hcell
  go_enter Try.func141, Try.ntmps141
  go_wp2_with fail
  refine (pick_any b a (zs.length : Int) w HC.out ha (by omega) (by omega)).mono ?_
  rintro e w1 ⟨r, a', rfl, r0, r1, ha', hc1, hg⟩
  obtain ⟨i, rfl⟩ : ∃ i : Nat, r = i := ⟨r.toNat, by omega⟩
  have hi : i < zs.length := by omega
  have c0 := grown_carries hg hb _ _ hlo (HL.out i hi)
  have i0 : (0 : Int) ≤ (i : Int) := by omega
  have i1 : (i : Int) < (zs.length : Int) := by omega
  have HC1 := Lib.hid (And.intro hc1 hg); clear hc1 hg r1
  obtain ⟨x, hx⟩ : ∃ x, x = zs.getD i 0 := ⟨_, rfl⟩
  rw [← hx] at c0
  have HX := Lib.hid hx; clear hx
  go_wp2_with fail
  go_ret
  exact ⟨i, a', by rw [← HX.out]; rfl, hi, ha', HC1.out.1, HC1.out.2⟩

/-- n strings, each of which has P -/
def StrsAt (b : Nat) (w : World) (v : Value) (n : Nat) (P : ByteArray → Prop) : Prop := ∃ g off cap, v = .slice (some ⟨g, off, none⟩) n cap ∧ b < g ∧ ∀ i, i < n → ∃ s, w.cell? ⟨g, off + i, none⟩ = some (.string s) ∧ P s
set_option maxRecDepth 100000 in
set_option maxHeartbeats 1000000 in
theorem of_any (b a : Nat) (v : Value) (n : Nat) (P : ByteArray → Prop) (w : World) (hc : CurAt b w a) (ha : a ≤ 1099511627775) (hv : StrsAt b w v n P) (h0 : 0 < n) (hn : n ≤ 1048576) :
    Calls Try.prog 152 #[.pointer (some ⟨b, 0, none⟩), v] w (fun e w' => ∃ (s : ByteArray) (a' : Nat), e = .returned (.string s) ∧ P s ∧ a' ≤ a + 2 ∧ CurAt b w' a' ∧ w.grownBy w' (some b)) := by
  have HC := Lib.hid hc; clear hc
  obtain ⟨g, off, cap, rfl, hlo, hcell⟩ := hv
  have HL := Lib.hid hcell; clear hcell
  go_enter Try.func152, Try.ntmps152
  go_wp2_with fail
  refine (pick_any b a (n : Int) w HC.out ha (by omega) (by omega)).mono ?_
  rintro e w1 ⟨r, a', rfl, r0, r1, ha', hc1, hg⟩
  obtain ⟨i, rfl⟩ : ∃ i : Nat, r = i := ⟨r.toNat, by omega⟩
  have hi : i < n := by omega
  obtain ⟨s, hs, hP⟩ := HL.out i hi
  have c0 := hg.cell hs (by intro e; injection e with e; simp at e; omega)
  have i0 : (0 : Int) ≤ (i : Int) := by omega
  have i1 : (i : Int) < (n : Int) := by omega
  have HC1 := Lib.hid (And.intro hc1 (And.intro hg hP)); clear hc1 hg r1 hP
  go_wp2_with fail
  go_ret
  exact ⟨s, a', rfl, HC1.out.2.2, ha', HC1.out.1, HC1.out.2.1⟩

end Go.Proofs.Ytkkfglolameogaa
