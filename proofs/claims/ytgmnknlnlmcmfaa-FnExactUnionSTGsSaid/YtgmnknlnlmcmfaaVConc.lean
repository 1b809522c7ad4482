/- WALKS: slices.Grow of an empty slice, slices.Concat of two rows, of signals and of labels. -/
import Derived.Test.YtgmnknlnlmcmfaaVCln
import Derived.Lib.AppendZeros
import Derived.Lib.AppendZerosOnto
namespace Go.Proofs.Ytgmnknlnlmcmfaa
open Go.RowKit

/-- a call returns an empty row of its own -/
def RetEmptyRow (e : TypeId) (w : World) (en : Ending) (w' : World) : Prop := ∃ cap a, en = .returned (.slice a 0 cap) ∧ w'.ownsRow w.heap.size e 2 (.slice a 0 cap) 0 [] ∧ Below w.heap.size w w'
/-- a call returns a row of its own of these cells -/
def RetRow (e : TypeId) (n : Nat) (xs : List Value) (w : World) (en : Ending) (w' : World) : Prop := ∃ v, en = .returned v ∧ w'.ownsRow w.heap.size e 2 v n xs ∧ Below w.heap.size w w'

set_option maxRecDepth 100000 in
set_option maxHeartbeats 1000000 in
theorem growsigs_any (n : Nat) (w : World) (hn : n ≤ 4194304) :
    Calls Try.prog 147 #[.slice none 0 0, .int .i64 n] w (RetEmptyRow 118 w) := by
  have h1 : decide ((n : Int) < 0) = false := decide_eq_false (by omega)
  by_cases h0 : n = 0
  · subst h0
    go_enter Try.func147, Try.ntmps147
    go_wp2_with fail
    go_ret
    exact ⟨_, _, rfl, World.ownsRow_nil _ _ _ _, by (repeat' (first | (with_reducible exact Below.refl _ _) | (with_reducible assumption) | (with_reducible refine Below.alloc ?_ ?_ _) | (with_reducible refine Below.drew ?_) | (with_reducible refine below_drewN ?_ _) | (with_reducible refine Below.setCell ?_ ?_ _) | go_size))⟩
  · have h4 : decide ((n : Int) > 0) = true := decide_eq_true (by omega)
    obtain ⟨i, hi, hzz⟩ := Option.map_eq_some_iff.1 Try.infoSig
    simp only [Prod.mk.injEq] at hzz
    obtain ⟨hz, hs, hby⟩ := hzz
    have hrz : ∀ ty, (Builtin.append_ #[31, 3] ty #[.slice none 0 0, .int .i64 (n : Int)]).run Try.prog w = _ := fun ty =>
      Lib.run_append_nil_zeros w 31 3 ty 118 i _ .i64 .i64 Try.underlying31 Try.underlying3 hi hz n (by omega) (by rw [hs]; decide) (by omega) (by rw [hby]; omega)
    obtain ⟨cp, hcp⟩ : ∃ c, c = grownCap w n 0 118 := ⟨_, rfl⟩
    have hge : n ≤ cp := by rw [hcp]; exact grownCap_ge w _ _ _
    have hmx : cp ≤ maxLen := by rw [hcp]; exact grownCap_le_maxLen w n 0 118 (by unfold maxLen; omega)
    have hmx' : cp ≤ 9223372036854775807 := by unfold maxLen at hmx; omega
    rw [← hcp] at hrz
    clear hcp
    obtain ⟨z, hzz⟩ : ∃ z : Array Value, z = Value.cells (.agg #[.string ByteArray.empty, .int .i64 0]) := ⟨_, rfl⟩
    have hz2 : z.size = 2 := by rw [hzz]; rfl
    obtain ⟨cur, hcur⟩ : ∃ c : Array Value, c = Builtin.zeroCells z n ++ Builtin.zeroCells z (cp - n) := ⟨_, rfl⟩
    have hsz : cur.size = cp * 2 := by rw [hcur, Array.size_append, size_zeroCells, size_zeroCells, hz2]; omega
    rw [← hzz, ← hcur] at hrz
    clear hcur hzz hz2
    have hown : (w.drew.alloc (.cells cur 118)).ownsRow w.heap.size 118 2 (.slice (some ⟨w.heap.size, 0, none⟩) 0 cp) 0 [] :=
      ⟨rfl, Or.inr ⟨w.heap.size, cp, cur, rfl, Nat.le_refl _, heap_alloc_new w.drew _, Nat.zero_le _, hmx, hsz, rfl⟩⟩
    have hbel : Below w.heap.size w (w.drew.alloc (.cells cur 118)) := (Below.refl _ _).drew.alloc (Nat.le_refl _) _
    have HO := Lib.hid (And.intro hown hbel); clear hown hbel hsz
    go_enter Try.func147, Try.ntmps147
    go_wp2_with (at_builtin; refine Lib.wpList_append_run _ rfl _ _ _ _ rfl _ _ rfl rfl _ _ (hrz _) ?_)
    go_ret
    exact ⟨_, _, rfl, HO.out.1, HO.out.2⟩

theorem growsigs_int (z : Int) (w : World) (h0 : 0 ≤ z) (h1 : z ≤ 4194304) :
    Calls Try.prog 147 #[.slice none 0 0, .int .i64 z] w (RetEmptyRow 118 w) := by
  obtain ⟨n, rfl⟩ : ∃ n : Nat, z = n := ⟨z.toNat, by omega⟩
  exact growsigs_any n w (by omega)

set_option maxRecDepth 100000 in
set_option maxHeartbeats 2000000 in
theorem concatsigs_any (b cap : Nat) (va vb : Value) (ss us : List Sig) (w : World) (lo : Nat) (h0 : w.cell? ⟨b, 0, none⟩ = some va) (h1 : w.cell? ⟨b, 1, none⟩ = some vb) (ha : SigsAt lo w va ss) (hb : SigsAt lo w vb us) (hn : ss.length ≤ 1048576) (hm : us.length ≤ 1048576) :
    Calls Try.prog 86 #[.slice (some ⟨b, 0, none⟩) 2 cap] w (RetRow 118 (ss.length + us.length) (pairCells (fun i => .string (sgN ss i)) (fun i => .int .i64 (sgK ss i)) ss.length ++ pairCells (fun i => .string (sgN us i)) (fun i => .int .i64 (sgK us i)) us.length) w) := by
  obtain ⟨aa, ka, rfl, _⟩ := id ha
  obtain ⟨ab, kb, rfl, _⟩ := id hb
  have HA := Lib.hid ha; clear ha
  have HB := Lib.hid hb; clear hb
  obtain ⟨n, hnn⟩ : ∃ n, n = ss.length := ⟨_, rfl⟩
  obtain ⟨m, hmm⟩ : ∃ n, n = us.length := ⟨_, rfl⟩
  rw [← hnn] at h0 hn HA ⊢
  rw [← hmm] at h1 hm HB ⊢
  have HN := Lib.hid hnn; clear hnn
  have HM := Lib.hid hmm; clear hmm
  have d1 : decide ((n : Int) < 0) = false := decide_eq_false (by omega)
  have d2 : decide ((n : Int) + (m : Int) < 0) = false := decide_eq_false (by omega)
  go_enter Try.func86, Try.ntmps86
  go_wp2_with fail
  refine wp_loop_rounds 3 ?_
  rw [rounds_succ]
  go_wp2_with fail
  rw [rounds_succ]
  go_wp2_with fail
  rw [rounds_succ]
  go_wp2_with fail
  refine (growsigs_int _ _ (by omega) (by omega)).mono ?_
  rintro e w1 ⟨cp, a, rfl, hown, hbel⟩
  have HO1 := Lib.hid hown; clear hown
  have c0 := cell_carry h0 (Carries.of 0 hbel)
  have HA1 := Lib.hid (HA.out.keep (Carries.of lo hbel))
  have hz1 := hbel.size
  have hlen0 : 0 + ss.length ≤ 1073741824 := by rw [← HN.out]; omega
  have hlen1 : 0 + ss.length + us.length ≤ 1073741824 := by rw [← HN.out, ← HM.out]; omega
  go_wp2_with fail
  refine wp_loop_rounds 3 ?_
  rw [rounds_succ]
  go_wp2_with (refine wpList_append_sigs rfl (.tmp 31) (.tmp 32) rfl w.heap.size lo _ 0 [] rfl HO1.out _ ss rfl HA1.out hlen0 hz1 ?_; intro v2 w2 hown2 hgrow2; have hb2 : Below w.heap.size w w2 := hbel.grown hgrow2 hbel.size (fun k hk => (HO1.out.lt k hk).1); have c1 := cell_carry h1 (Carries.of 0 hb2); have HB2 := Lib.hid (HB.out.keep (Carries.of lo hb2)); have hz2 := hb2.size; have HO2 := Lib.hid hown2; clear hown2)
  rw [rounds_succ]
  go_wp2_with (refine wpList_append_sigs rfl (.tmp 31) (.tmp 32) rfl w.heap.size lo _ (0 + ss.length) _ rfl HO2.out _ us rfl HB2.out hlen1 hz2 ?_; intro v3 w3 hown3 hgrow3; have hb3 : Below w.heap.size w w3 := hb2.grown hgrow3 hb2.size (fun k hk => (HO2.out.lt k hk).1); have HO3 := Lib.hid hown3; clear hown3)
  rw [rounds_succ]
  go_wp2_with fail
  go_ret
  exact ⟨_, rfl, by have := HO3.out; simpa [HN.out, HM.out] using this, hb3⟩

set_option maxRecDepth 100000 in
set_option maxHeartbeats 1000000 in
theorem growlabs_any (n : Nat) (w : World) (hn : n ≤ 4194304) :
    Calls Try.prog 148 #[.slice none 0 0, .int .i64 n] w (RetEmptyRow 113 w) := by
  have h1 : decide ((n : Int) < 0) = false := decide_eq_false (by omega)
  by_cases h0 : n = 0
  · subst h0
    go_enter Try.func148, Try.ntmps148
    go_wp2_with fail
    go_ret
    exact ⟨_, _, rfl, World.ownsRow_nil _ _ _ _, by (repeat' (first | (with_reducible exact Below.refl _ _) | (with_reducible assumption) | (with_reducible refine Below.alloc ?_ ?_ _) | (with_reducible refine Below.drew ?_) | (with_reducible refine below_drewN ?_ _) | (with_reducible refine Below.setCell ?_ ?_ _) | go_size))⟩
  · have h4 : decide ((n : Int) > 0) = true := decide_eq_true (by omega)
    obtain ⟨i, hi, hzz⟩ := Option.map_eq_some_iff.1 Try.infoLab
    simp only [Prod.mk.injEq] at hzz
    obtain ⟨hz, hs, hby⟩ := hzz
    have hrz : ∀ ty, (Builtin.append_ #[61, 3] ty #[.slice none 0 0, .int .i64 (n : Int)]).run Try.prog w = _ := fun ty =>
      Lib.run_append_nil_zeros w 61 3 ty 113 i _ .i64 .i64 Try.underlying61 Try.underlying3 hi hz n (by omega) (by rw [hs]; decide) (by omega) (by rw [hby]; omega)
    obtain ⟨cp, hcp⟩ : ∃ c, c = grownCap w n 0 113 := ⟨_, rfl⟩
    have hge : n ≤ cp := by rw [hcp]; exact grownCap_ge w _ _ _
    have hmx : cp ≤ maxLen := by rw [hcp]; exact grownCap_le_maxLen w n 0 113 (by unfold maxLen; omega)
    have hmx' : cp ≤ 9223372036854775807 := by unfold maxLen at hmx; omega
    rw [← hcp] at hrz
    clear hcp
    obtain ⟨z, hzz⟩ : ∃ z : Array Value, z = Value.cells (.agg #[.int .i64 0, .bool false]) := ⟨_, rfl⟩
    have hz2 : z.size = 2 := by rw [hzz]; rfl
    obtain ⟨cur, hcur⟩ : ∃ c : Array Value, c = Builtin.zeroCells z n ++ Builtin.zeroCells z (cp - n) := ⟨_, rfl⟩
    have hsz : cur.size = cp * 2 := by rw [hcur, Array.size_append, size_zeroCells, size_zeroCells, hz2]; omega
    rw [← hzz, ← hcur] at hrz
    clear hcur hzz hz2
    have hown : (w.drew.alloc (.cells cur 113)).ownsRow w.heap.size 113 2 (.slice (some ⟨w.heap.size, 0, none⟩) 0 cp) 0 [] :=
      ⟨rfl, Or.inr ⟨w.heap.size, cp, cur, rfl, Nat.le_refl _, heap_alloc_new w.drew _, Nat.zero_le _, hmx, hsz, rfl⟩⟩
    have hbel : Below w.heap.size w (w.drew.alloc (.cells cur 113)) := (Below.refl _ _).drew.alloc (Nat.le_refl _) _
    have HO := Lib.hid (And.intro hown hbel); clear hown hbel hsz
    go_enter Try.func148, Try.ntmps148
    go_wp2_with (at_builtin; refine Lib.wpList_append_run _ rfl _ _ _ _ rfl _ _ rfl rfl _ _ (hrz _) ?_)
    go_ret
    exact ⟨_, _, rfl, HO.out.1, HO.out.2⟩

theorem growlabs_int (z : Int) (w : World) (h0 : 0 ≤ z) (h1 : z ≤ 4194304) :
    Calls Try.prog 148 #[.slice none 0 0, .int .i64 z] w (RetEmptyRow 113 w) := by
  obtain ⟨n, rfl⟩ : ∃ n : Nat, z = n := ⟨z.toNat, by omega⟩
  exact growlabs_any n w (by omega)

set_option maxRecDepth 100000 in
set_option maxHeartbeats 2000000 in
theorem concatlabs_any (b cap : Nat) (va vb : Value) (ss us : List Lab) (w : World) (lo : Nat) (h0 : w.cell? ⟨b, 0, none⟩ = some va) (h1 : w.cell? ⟨b, 1, none⟩ = some vb) (ha : LabsAt lo w va ss) (hb : LabsAt lo w vb us) (hn : ss.length ≤ 1048576) (hm : us.length ≤ 1048576) :
    Calls Try.prog 87 #[.slice (some ⟨b, 0, none⟩) 2 cap] w (RetRow 113 (ss.length + us.length) (pairCells (fun i => .int .i64 (lbS ss i)) (fun i => .bool (lbU ss i)) ss.length ++ pairCells (fun i => .int .i64 (lbS us i)) (fun i => .bool (lbU us i)) us.length) w) := by
  obtain ⟨aa, ka, rfl, _⟩ := id ha
  obtain ⟨ab, kb, rfl, _⟩ := id hb
  have HA := Lib.hid ha; clear ha
  have HB := Lib.hid hb; clear hb
  obtain ⟨n, hnn⟩ : ∃ n, n = ss.length := ⟨_, rfl⟩
  obtain ⟨m, hmm⟩ : ∃ n, n = us.length := ⟨_, rfl⟩
  rw [← hnn] at h0 hn HA ⊢
  rw [← hmm] at h1 hm HB ⊢
  have HN := Lib.hid hnn; clear hnn
  have HM := Lib.hid hmm; clear hmm
  have d1 : decide ((n : Int) < 0) = false := decide_eq_false (by omega)
  have d2 : decide ((n : Int) + (m : Int) < 0) = false := decide_eq_false (by omega)
  go_enter Try.func87, Try.ntmps87
  go_wp2_with fail
  refine wp_loop_rounds 3 ?_
  rw [rounds_succ]
  go_wp2_with fail
  rw [rounds_succ]
  go_wp2_with fail
  rw [rounds_succ]
  go_wp2_with fail
  refine (growlabs_int _ _ (by omega) (by omega)).mono ?_
  rintro e w1 ⟨cp, a, rfl, hown, hbel⟩
  have HO1 := Lib.hid hown; clear hown
  have c0 := cell_carry h0 (Carries.of 0 hbel)
  have HA1 := Lib.hid (HA.out.keep (Carries.of lo hbel))
  have hz1 := hbel.size
  have hlen0 : 0 + ss.length ≤ 1073741824 := by rw [← HN.out]; omega
  have hlen1 : 0 + ss.length + us.length ≤ 1073741824 := by rw [← HN.out, ← HM.out]; omega
  go_wp2_with fail
  refine wp_loop_rounds 3 ?_
  rw [rounds_succ]
  go_wp2_with (refine wpList_append_labs rfl (.tmp 31) (.tmp 32) rfl w.heap.size lo _ 0 [] rfl HO1.out _ ss rfl HA1.out hlen0 hz1 ?_; intro v2 w2 hown2 hgrow2; have hb2 : Below w.heap.size w w2 := hbel.grown hgrow2 hbel.size (fun k hk => (HO1.out.lt k hk).1); have c1 := cell_carry h1 (Carries.of 0 hb2); have HB2 := Lib.hid (HB.out.keep (Carries.of lo hb2)); have hz2 := hb2.size; have HO2 := Lib.hid hown2; clear hown2)
  rw [rounds_succ]
  go_wp2_with (refine wpList_append_labs rfl (.tmp 31) (.tmp 32) rfl w.heap.size lo _ (0 + ss.length) _ rfl HO2.out _ us rfl HB2.out hlen1 hz2 ?_; intro v3 w3 hown3 hgrow3; have hb3 : Below w.heap.size w w3 := hb2.grown hgrow3 hb2.size (fun k hk => (HO2.out.lt k hk).1); have HO3 := Lib.hid hown3; clear hown3)
  rw [rounds_succ]
  go_wp2_with fail
  go_ret
  exact ⟨_, rfl, by have := HO3.out; simpa [HN.out, HM.out] using this, hb3⟩

end Go.Proofs.Ytgmnknlnlmcmfaa
