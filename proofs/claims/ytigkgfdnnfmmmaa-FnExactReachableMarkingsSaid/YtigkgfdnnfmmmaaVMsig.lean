/- MARKS IN LABELS: markLabelS writes them, heldLabelS finds them.
   MARKS IN SIGNALS: the text of a mark; markSignalS writes them, heldSignalS finds them. -/
import Derived.Test.YtigkgfdnnfmmmaaVStgn
import Derived.Deep.RegionHeld3
namespace Go.Proofs.Ytigkgfdnnfmmmaa
open Go.RowKit

/-- what the labels hold behind the marks from k on -/
def markedLabs (k : Int) (n : Nat) : List Lab := (List.range n).map fun (i : Nat) => (k + 2 * (i : Int), ((k + 2 * (i : Int) + 1) % 3 == 0))
theorem markedLabs_length (k : Int) (n : Nat) : (markedLabs k n).length = n := by simp [markedLabs]
theorem markedLabs_S {k : Int} {n i : Nat} (h : i < n) : lbS (markedLabs k n) i = k + 2 * (i : Int) := by simp [markedLabs, lbS, List.getD, h]
theorem markedLabs_U {k : Int} {n i : Nat} (h : i < n) : lbU (markedLabs k n) i = ((k + 2 * (i : Int) + 1) % 3 == 0) := by simp [markedLabs, lbU, List.getD, h]

set_option maxRecDepth 100000 in
set_option maxHeartbeats 1000000 in
theorem markLabelS_at (v : Value) (n : Nat) (k : Int) (w : World) (lo hi : Nat) (hv : PairBox lo hi w v n) (hc : ∃ ao cap, v = .slice ao n cap ∧ n ≤ cap) (hn : n ≤ 1048576) (h0 : 0 ≤ k) (h1 : k ≤ 109951162777600) :
    Calls Try.prog 55 #[v, .int .i64 k] w (fun e w' => e = .returned (.int .i64 (k + 2 * (n : Int))) ∧ Stir lo hi w w' ∧ LabsAt lo w' v (markedLabs k n)) := by
  obtain ⟨ao, cap, rfl, hcap⟩ := hc
  have HB := Lib.hid hv; clear hv
  go_enter Try.func55, Try.ntmps55
  go_wp2_with fail
  go_loopw [1, 5] (fun kv i wr => ∃ j : Nat, j ≤ n ∧ i = .int .i64 j ∧ kv = .int .i64 (k + 2 * (j : Int)) ∧ Stir lo hi w wr ∧ Hid (PairBox lo hi wr (.slice ao n cap) n) ∧ Hid (∀ b off, ao = some ⟨b, off, none⟩ → ∀ q, q < j → wr.cell? ⟨b, off + q * 2, none⟩ = some (.int .i64 (lbS (markedLabs k n) q)) ∧ wr.cell? ⟨b, off + q * 2 + 1, none⟩ = some (.bool (lbU (markedLabs k n) q)))) (fun _ i _ => n - (intOf i).toNat)
  case atStart => exact ⟨0, Nat.zero_le _, rfl, by simp, Stir.refl _ _ _, HB.out, fun _ _ _ q hq => absurd hq (Nat.not_lt_zero _)⟩
  case round =>
    obtain ⟨j, hj, rfl, rfl, hm, hbox, hex⟩ := hrel
    by_cases hlt : j < n
    · obtain ⟨a, c, e, hz⟩ := id hbox.out
      simp only [Value.slice.injEq, true_and] at e
      obtain ⟨rfl, rfl⟩ := e
      rcases hz with h | ⟨b, off, rfl, hlo, hhi, hcell⟩
      · omega
      obtain ⟨⟨u0, c0⟩, f0⟩ := hcell (j * 2) (by omega)
      obtain ⟨⟨u1, c1⟩, f1⟩ := hcell (j * 2 + 1) (by omega)
      rw [← Nat.add_assoc] at c1 f1
      clear hcell
      have HM3 := Lib.hid (fun (u : Value) => (hm.set (p := ⟨b, off + j * 2, none⟩) hlo hhi (.int .i64 (k + 2 * (j : Int)))).set (p := ⟨b, off + j * 2 + 1, none⟩) hlo hhi u)
      have HB3 := Lib.hid (fun (u : Value) => (hbox.out.set ⟨b, off + j * 2, none⟩ (.int .i64 (k + 2 * (j : Int)))).set ⟨b, off + j * 2 + 1, none⟩ u)
      have HE3 : Hid (∀ u, u = ((k + 2 * (j : Int) + 1) % 3 == 0) → ∀ b' off', some (⟨b, off, none⟩ : Addr) = some ⟨b', off', none⟩ → ∀ q, q < j + 1 → ((wr.setCell ⟨b, off + j * 2, none⟩ (.int .i64 (k + 2 * (j : Int)))).setCell ⟨b, off + j * 2 + 1, none⟩ (.bool u)).cell? ⟨b', off' + q * 2, none⟩ = some (.int .i64 (lbS (markedLabs k n) q)) ∧ ((wr.setCell ⟨b, off + j * 2, none⟩ (.int .i64 (k + 2 * (j : Int)))).setCell ⟨b, off + j * 2 + 1, none⟩ (.bool u)).cell? ⟨b', off' + q * 2 + 1, none⟩ = some (.bool (lbU (markedLabs k n) q))) := by
        intro u hu b' off' he q hq
        obtain ⟨rfl, rfl⟩ : b = b' ∧ off = off' := by simpa using he
        have m1 : (wr.setCell ⟨b, off + j * 2, none⟩ (.int .i64 (k + 2 * (j : Int)))).cell? ⟨b, off + j * 2 + 1, none⟩ = some u1 := (World.cell?_setCell_other _ _ _ _ (by intro h; injection h with h1 h2 h3; omega)).trans c1
        by_cases e : q = j
        · subst e
          rw [markedLabs_S hlt, markedLabs_U hlt, ← hu]
          exact ⟨(World.cell?_setCell_other _ _ _ _ (by intro h; injection h with h1 h2 h3; omega)).trans (World.cell?_setCell_same _ _ _ c0), World.cell?_setCell_same _ _ _ m1⟩
        · obtain ⟨q0, q1⟩ := hex.out b off rfl q (by omega)
          exact ⟨(World.cell?_setCell_other _ _ _ _ (by intro h; injection h with h1 h2 h3; omega)).trans ((World.cell?_setCell_other _ _ _ _ (by intro h; injection h with h1 h2 h3; omega)).trans q0),
            (World.cell?_setCell_other _ _ _ _ (by intro h; injection h with h1 h2 h3; omega)).trans ((World.cell?_setCell_other _ _ _ _ (by intro h; injection h with h1 h2 h3; omega)).trans q1)⟩
      clear hm hbox hex
      go_wp2_with fail
      go_roundw
      case rel =>
        exact ⟨j + 1, by omega, by go_num, by simp; omega, HM3.out _, HB3.out _, HE3.out _ rfl⟩
      case measure => simp [intOf]; omega
    · have hjj : j = n := by omega
      subst hjj
      have HX := Lib.hid hex.out; clear hex
      have HBB := Lib.hid hbox.out; clear hbox
      go_wp2_with fail
      go_ret
      refine ⟨rfl, hm, ao, cap, by rw [markedLabs_length], by rw [markedLabs_length]; exact hcap, ?_⟩
      rw [markedLabs_length]
      obtain ⟨a, c, e, hz⟩ := HBB.out
      simp only [Value.slice.injEq, true_and] at e
      obtain ⟨rfl, rfl⟩ := e
      rcases hz with h | ⟨b, off, rfl, hlo, hhi, _⟩
      · exact Or.inl h
      · exact Or.inr ⟨b, off, rfl, hlo, fun i hi => HX.out b off rfl i hi⟩

end Go.Proofs.Ytigkgfdnnfmmmaa

namespace Go.Proofs.Ytigkgfdnnfmmmaa
open Go.RowKit

/-- the digits of x -/
def digs (x : Nat) : ByteArray := if h : x = 0 then ByteArray.empty else digs (x / 10) ++ ByteArray.empty.push (UInt8.ofNat (48 + (x % 10 : Nat) : Int).toNat)
termination_by x
decreasing_by omega
theorem digs_zero : digs 0 = ByteArray.empty := by rw [digs]; rfl
theorem digs_step {x : Int} (h : 0 < x) : digs x.toNat = digs (x / 10).toNat ++ ByteArray.empty.push (UInt8.ofNat (48 + x % 10).toNat) := by
  rw [digs, dif_neg (by omega)]
  have e1 : (x / 10).toNat = x.toNat / 10 := by omega
  have e2 : ((x.toNat % 10 : Nat) : Int) = x % 10 := by omega
  rw [e1, e2]
/-- the text of mark k -/
def mTx (k : Int) : ByteArray := ⟨#[109]⟩ ++ digs k.toNat

set_option maxHeartbeats 1000000 in
theorem markText_val (k : Int) (w : World) (h0 : 1 ≤ k) (h1 : k ≤ 1099511627776000) :
    Calls Try.prog 69 #[.int .i64 k] w (RetV w (.string (mTx k))) := by
  have kc := conv_one
  generalize hR : mTx k = R
  have HR := Lib.hid hR; clear hR
  go_enter Try.func69, Try.ntmps69
  go_wp2_with fail
  go_loopw [0, 3] (fun nv sv wr => ∃ (x : Int) (s : ByteArray), 0 ≤ x ∧ (s.size : Int) + x ≤ k ∧ nv = .int .i64 x ∧ sv = .string s ∧ Hid (digs x.toNat ++ s = digs k.toNat) ∧ Below w.heap.size w wr) (fun nv _ _ => (intOf nv).toNat)
  case atStart => exact ⟨k, ByteArray.empty, by omega, by show ((0 : Nat) : Int) + k ≤ k; omega, rfl, rfl, by unfold Hid; simp, Below.refl _ _⟩
  case round =>
    obtain ⟨x, s, hx0, hx1, rfl, rfl, hds, hb1⟩ := hrel
    have zz1 := hb1.size
    by_cases hlt : 0 < x
    · have e1 : x.tdiv 10 = x / 10 := Int.tdiv_eq_ediv_of_nonneg hx0
      have e2 : x.tmod 10 = x % 10 := Int.tmod_eq_emod_of_nonneg hx0
      have q0 : 0 ≤ x / 10 := by omega
      have q1 : x / 10 ≤ x := by omega
      have q2 : x / 10 < x := by omega
      have r0 : 0 ≤ x % 10 := by omega
      have r1 : x % 10 ≤ 9 := by omega
      have hsz : (ByteArray.empty.push (UInt8.ofNat (48 + x % 10).toNat) ++ s).size = 1 + s.size := by rw [ByteArray.size_append]; rfl
      have hsz2 : (ByteArray.empty.push (UInt8.ofNat (48 + x % 10).toNat)).size = 1 := rfl
      have HD : Hid (digs (x / 10).toNat ++ (ByteArray.empty.push (UInt8.ofNat (48 + x % 10).toNat) ++ s) = digs k.toNat) := by
        unfold Hid
        rw [← ByteArray.append_assoc, ← digs_step hlt]; exact hds.out
      clear hds
      go_wp2_with fail
      go_roundw
      case rel => exact ⟨x / 10, _, q0, by rw [hsz]; omega, by go_num, rfl, HD, by (repeat' (first | (with_reducible exact Below.refl _ _) | (with_reducible assumption) | (with_reducible refine Below.alloc ?_ ?_ _) | (with_reducible refine Below.drew ?_) | (with_reducible refine below_drewN ?_ _) | (with_reducible refine Below.setCell ?_ ?_ _) | go_size))⟩
      case measure => simp [intOf]; omega
    · have hsz3 : (s.size : Int) ≤ k := by omega
      have hx : x = 0 := by omega
      subst hx
      have hfin : R = ⟨#[109]⟩ ++ s := by
        rw [← HR.out]
        unfold mTx
        rw [← hds.out]
        have : digs (0 : Int).toNat = ByteArray.empty := digs_zero
        rw [this]; simp
      subst hfin
      clear hds HR
      go_wp2_with fail
      go_ret
      exact ⟨rfl, hb1⟩

/-- what the signals hold behind the marks from k on -/
def markedSigs (k : Int) (n : Nat) : List Sig := (List.range n).map fun (i : Nat) => (mTx (k + 2 * (i : Int)), k + 2 * (i : Int) + 1)
theorem markedSigs_length (k : Int) (n : Nat) : (markedSigs k n).length = n := by simp [markedSigs]
theorem markedSigs_N {k : Int} {n i : Nat} (h : i < n) : sgN (markedSigs k n) i = mTx (k + 2 * (i : Int)) := by simp [markedSigs, sgN, List.getD, h]
theorem markedSigs_K {k : Int} {n i : Nat} (h : i < n) : sgK (markedSigs k n) i = k + 2 * (i : Int) + 1 := by simp [markedSigs, sgK, List.getD, h]

set_option maxRecDepth 100000 in
set_option maxHeartbeats 1000000 in
theorem markSignalS_at (v : Value) (n : Nat) (k : Int) (w : World) (lo hi : Nat) (hv : PairBox lo hi w v n) (hc : ∃ ao cap, v = .slice ao n cap ∧ n ≤ cap) (hn : n ≤ 1048576) (h0 : 1 ≤ k) (h1 : k ≤ 109951162777600) :
    Calls Try.prog 54 #[v, .int .i64 k] w (fun e w' => e = .returned (.int .i64 (k + 2 * (n : Int))) ∧ Stir lo hi w w' ∧ SigsAt lo w' v (markedSigs k n)) := by
  obtain ⟨ao, cap, rfl, hcap⟩ := hc
  have HB := Lib.hid hv; clear hv
  go_enter Try.func54, Try.ntmps54
  go_wp2_with fail
  go_loopw [1, 5] (fun kv i wr => ∃ j : Nat, j ≤ n ∧ i = .int .i64 j ∧ kv = .int .i64 (k + 2 * (j : Int)) ∧ Stir lo hi w wr ∧ Hid (PairBox lo hi wr (.slice ao n cap) n) ∧ Hid (∀ b off, ao = some ⟨b, off, none⟩ → ∀ q, q < j → wr.cell? ⟨b, off + q * 2, none⟩ = some (.string (sgN (markedSigs k n) q)) ∧ wr.cell? ⟨b, off + q * 2 + 1, none⟩ = some (.int .i64 (sgK (markedSigs k n) q)))) (fun _ i _ => n - (intOf i).toNat)
  case atStart => exact ⟨0, Nat.zero_le _, rfl, by simp, Stir.refl _ _ _, HB.out, fun _ _ _ q hq => absurd hq (Nat.not_lt_zero _)⟩
  case round =>
    obtain ⟨j, hj, rfl, rfl, hm, hbox, hex⟩ := hrel
    by_cases hlt : j < n
    · obtain ⟨a, c, e, hz⟩ := id hbox.out
      simp only [Value.slice.injEq, true_and] at e
      obtain ⟨rfl, rfl⟩ := e
      rcases hz with h | ⟨b, off, rfl, hlo, hhi, hcell⟩
      · omega
      obtain ⟨⟨u0, c0⟩, f0⟩ := hcell (j * 2) (by omega)
      obtain ⟨⟨u1, c1⟩, f1⟩ := hcell (j * 2 + 1) (by omega)
      rw [← Nat.add_assoc] at c1 f1
      clear hcell
      have hb00 : b < wr.heap.size := cell_old c0
      go_wp2_with fail
      refine (markText_val (k + 2 * (j : Int)) _ (by omega) (by omega)).mono ?_
      rintro e w1 ⟨rfl, hb⟩
      have c0 := cell_carry c0 (Carries.of 0 hb)
      have c1 := cell_carry c1 (Carries.of 0 hb)
      have f0 := (hb.frozen (p := ⟨b, off + j * 2, none⟩) hb00).trans f0
      have f1 := (hb.frozen (p := ⟨b, off + j * 2 + 1, none⟩) hb00).trans f1
      have hex1 : ∀ q, q < j → w1.cell? ⟨b, off + q * 2, none⟩ = some (.string (sgN (markedSigs k n) q)) ∧ w1.cell? ⟨b, off + q * 2 + 1, none⟩ = some (.int .i64 (sgK (markedSigs k n) q)) := fun q hq => ⟨cell_carry (hex.out b off rfl q hq).1 (Carries.of 0 hb), cell_carry (hex.out b off rfl q hq).2 (Carries.of 0 hb)⟩
      have hN := markedSigs_N (k := k) hlt
      have hK := markedSigs_K (k := k) hlt
      generalize mTx (k + 2 * (j : Int)) = tx at hN ⊢
      have HM3 := Lib.hid (((hm.trans (Stir.of lo hi hb)).set (p := ⟨b, off + j * 2, none⟩) hlo hhi (.string tx)).set (p := ⟨b, off + j * 2 + 1, none⟩) hlo hhi (.int .i64 (k + 2 * (j : Int) + 1)))
      have HB3 := Lib.hid (((hbox.out.after hb).set ⟨b, off + j * 2, none⟩ (.string tx)).set ⟨b, off + j * 2 + 1, none⟩ (.int .i64 (k + 2 * (j : Int) + 1)))
      have HE3 : Hid (∀ b' off', some (⟨b, off, none⟩ : Addr) = some ⟨b', off', none⟩ → ∀ q, q < j + 1 → ((w1.setCell ⟨b, off + j * 2, none⟩ (.string tx)).setCell ⟨b, off + j * 2 + 1, none⟩ (.int .i64 (k + 2 * (j : Int) + 1))).cell? ⟨b', off' + q * 2, none⟩ = some (.string (sgN (markedSigs k n) q)) ∧ ((w1.setCell ⟨b, off + j * 2, none⟩ (.string tx)).setCell ⟨b, off + j * 2 + 1, none⟩ (.int .i64 (k + 2 * (j : Int) + 1))).cell? ⟨b', off' + q * 2 + 1, none⟩ = some (.int .i64 (sgK (markedSigs k n) q))) := by
        intro b' off' he q hq
        obtain ⟨rfl, rfl⟩ : b = b' ∧ off = off' := by simpa using he
        have m1 : (w1.setCell ⟨b, off + j * 2, none⟩ (.string tx)).cell? ⟨b, off + j * 2 + 1, none⟩ = some u1 := (World.cell?_setCell_other _ _ _ _ (by intro h; injection h with h1 h2 h3; omega)).trans c1
        by_cases e : q = j
        · subst e
          rw [hN, hK]
          exact ⟨(World.cell?_setCell_other _ _ _ _ (by intro h; injection h with h1 h2 h3; omega)).trans (World.cell?_setCell_same _ _ _ c0), World.cell?_setCell_same _ _ _ m1⟩
        · obtain ⟨q0, q1⟩ := hex1 q (by omega)
          exact ⟨(World.cell?_setCell_other _ _ _ _ (by intro h; injection h with h1 h2 h3; omega)).trans ((World.cell?_setCell_other _ _ _ _ (by intro h; injection h with h1 h2 h3; omega)).trans q0),
            (World.cell?_setCell_other _ _ _ _ (by intro h; injection h with h1 h2 h3; omega)).trans ((World.cell?_setCell_other _ _ _ _ (by intro h; injection h with h1 h2 h3; omega)).trans q1)⟩
      clear hm hbox hb hex hex1 hN hK
      go_wp2_with fail
      go_roundw
      case rel => exact ⟨j + 1, by omega, by go_num, by simp; omega, HM3.out, HB3.out, HE3.out⟩
      case measure => simp [intOf]; omega
    · have hjj : j = n := by omega
      subst hjj
      have HX := Lib.hid hex.out; clear hex
      have HBB := Lib.hid hbox.out; clear hbox
      go_wp2_with fail
      go_ret
      refine ⟨rfl, hm, ao, cap, by rw [markedSigs_length], by rw [markedSigs_length]; exact hcap, ?_⟩
      rw [markedSigs_length]
      obtain ⟨a, c, e, hz⟩ := HBB.out
      simp only [Value.slice.injEq, true_and] at e
      obtain ⟨rfl, rfl⟩ := e
      rcases hz with h | ⟨b, off, rfl, hlo, hhi, _⟩
      · exact Or.inl h
      · exact Or.inr ⟨b, off, rfl, hlo, fun i hi => HX.out b off rfl i hi⟩

end Go.Proofs.Ytigkgfdnnfmmmaa
