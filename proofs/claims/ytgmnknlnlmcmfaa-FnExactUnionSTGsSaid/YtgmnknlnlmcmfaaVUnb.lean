/- WALK: movedTransitions of the program: a net's transitions, each list moved by so many, into a row of the call's own. -/
import Derived.Test.YtgmnknlnlmcmfaaVUna
import Derived.Test.YtgmnknlnlmcmfaaVRev
import Derived.Test.YtgmnknlnlmcmfaaVSteps
import Derived.Deep.RegionHeld3
namespace Go.Proofs.Ytgmnknlnlmcmfaa
open Go.RowKit

/-- transitions moved -/
def movT (d : Int) (t : Tr) : Tr := (movI t.1 d, movI t.2 d)
def movTs (ts : List Tr) (d : Int) : List Tr := ts.map (movT d)
theorem movTs_length (ts : List Tr) (d : Int) : (movTs ts d).length = ts.length := by simp [movTs]
theorem movTs_get {ts : List Tr} {d : Int} {i : Nat} (h : i < ts.length) : (movTs ts d).getD i ([], []) = movT d (ts.getD i ([], [])) := by simp [movTs, List.getD, h]
theorem movTs_small {ts : List Tr} {d : Int} (h : SmallTrs ts) : SmallTrs (movTs ts d) :=
  ⟨by rw [movTs_length]; exact h.1, fun i hi => by rw [movTs_length] at hi; rw [movTs_get hi]; unfold movT; dsimp only; rw [movI_length, movI_length]; exact h.2 i hi⟩
def LowTs (ts : List Tr) : Prop := ∀ i, i < ts.length → LowI (ts.getD i ([], [])).1 ∧ LowI (ts.getD i ([], [])).2

/-- a call returns a row of its own of these transitions, their lists apart -/
def RetRowT (w : World) (m : Nat) (ts : List Tr) (e : Ending) (w' : World) : Prop :=
  ∃ (R : Nat) (c : Nat → Nat), e = .returned (.slice (some ⟨R, 0, none⟩) m m) ∧ w.heap.size ≤ R ∧ R < c 0 ∧ (∀ i, c i ≤ w'.heap.size) ∧ SepRow c R w' m m ts ∧ Below w.heap.size w w'

set_option maxRecDepth 100000 in
set_option maxHeartbeats 2000000 in
theorem movedTransitions_any (p : Int) (q : Value) (ts : List Tr) (d : Int) (w : World) (lo : Nat) (ht : TrsAt lo w q ts) (hs : SmallTrs ts) (hlow : LowTs ts) (hd0 : 0 ≤ d) (hd1 : d ≤ 1000) :
    Calls Try.prog 146 #[.agg #[.int .i64 p, q], .int .i64 d] w (RetRowT w ts.length (movTs ts d)) := by
  obtain ⟨ao, cap, rfl, hc, hz⟩ := ht
  have hmm := hs.1
  have HS := Lib.hid hs.2; clear hs
  have HL := Lib.hid hlow; clear hlow
  have HF := Lib.hid hz; clear hz
  have hmk := run_make_trs ts.length hmm
  go_enter Try.func146, Try.ntmps146
  go_wp2_with fail
  go_loopw [15] (fun i wr => ∃ (k : Nat) (c : Nat → Nat), k ≤ ts.length ∧ i = .int .i64 k ∧ c 0 = w.heap.size + 2 ∧ (∀ i, c i ≤ wr.heap.size) ∧ Hid (SepRow c (w.heap.size + 1) wr ts.length k (movTs ts d)) ∧ Below w.heap.size w wr) (fun i _ => ts.length - (intOf i).toNat)
  case atStart =>
    obtain ⟨f, hf⟩ := rowIs_size (w := w.alloc (.cells #[.int .i64 p, .slice ao ts.length cap] 60)) (t := 176) (size_madeCells #[.slice none 0 0, .slice none 0 0] (ts.length * 2))
    have hsz : (w.alloc (.cells #[.int .i64 p, .slice ao ts.length cap] 60)).heap.size = w.heap.size + 1 := by simp
    rw [hsz] at hf
    exact ⟨0, fun _ => w.heap.size + 2, Nat.zero_le _, rfl, rfl, fun _ => by simp, ⟨fun _ => Nat.le_refl _, f, hf, fun i hi => absurd hi (Nat.not_lt_zero _)⟩, by (repeat' (first | (with_reducible exact Below.refl _ _) | (with_reducible assumption) | (with_reducible refine Below.alloc ?_ ?_ _) | (with_reducible refine Below.drew ?_) | (with_reducible refine below_drewN ?_ _) | (with_reducible refine Below.setCell ?_ ?_ _) | go_size))⟩
  case round =>
    obtain ⟨k, c, hk, rfl, hc0, hcs, hrow, hb1⟩ := hrel
    have zr : w.heap.size + 2 ≤ wr.heap.size := by rw [← hc0]; exact hcs 0
    by_cases hlt : k < ts.length
    · rcases HF.out with rfl | ⟨b, off, rfl, hlo, hcell⟩
      · simp at hlt
      obtain ⟨x0, x1, q0, q1, hx⟩ := hcell k hlt
      obtain ⟨X, hX⟩ : ∃ X, X = ts.getD k ([], []) := ⟨_, rfl⟩
      have sx := HS.out k hlt
      have lx := HL.out k hlt
      rw [← hX] at hx sx lx
      obtain ⟨s1, s2⟩ := sx
      have LX := Lib.hid lx; clear lx
      have HXT := Lib.hid hX
      obtain ⟨⟨xa0, xk0, rfl, _, _⟩, ⟨xa1, xk1, rfl, _, _⟩⟩ := id hx
      have q2 := Carries.of lo hb1 _ _ hlo q0
      have q3 := Carries.of lo hb1 _ _ hlo q1
      have HX := Lib.hid (hx.keep (Carries.of lo hb1)); clear hx q0 q1 hX hcell
      have hal : Below wr.heap.size wr (wr.alloc (.cells #[.slice xa0 X.1.length xk0, .slice xa1 X.2.length xk1] 176)) := (Below.refl _ _).alloc (Nat.le_refl _) _
      go_wp2_with fail
      have t0 : (wr.alloc (.cells #[.slice xa0 X.1.length xk0, .slice xa1 X.2.length xk1] 176)).cell? ⟨wr.heap.size, 0, none⟩ = some (.slice xa0 X.1.length xk0) := by simp
      have t1 : (wr.alloc (.cells #[.slice xa0 X.1.length xk0, .slice xa1 X.2.length xk1] 176)).cell? ⟨wr.heap.size, 1, none⟩ = some (.slice xa1 X.2.length xk1) := by simp
      generalize wr.alloc (.cells #[.slice xa0 X.1.length xk0, .slice xa1 X.2.length xk1] 176) = W at t0 t1 hal ⊢
      have za := hal.size
      have bW := hb1.trans (hal.mono hb1.size)
      have HXW := Lib.hid (HX.out.keep (Carries.of lo hal)); clear HX
      have HRW := Lib.hid (hrow.out.keep hal); clear hrow
      refine wp_region_held_drew (S := fun w' => w'.cell? ⟨wr.heap.size, 0, none⟩ = some (.slice xa0 X.1.length xk0) ∧ w'.cell? ⟨wr.heap.size, 1, none⟩ = some (.slice xa1 X.2.length xk1)) (by kernel_rfl) ⟨t0, t1⟩ (fun hHeld => ?_)
      have hd : Below W.heap.size W W.drew := (Below.refl _ _).drew
      generalize W.drew = W0 at hd hHeld ⊢
      have bel0 := bW.trans (hd.mono bW.size)
      have zd := hd.size
      have t0 := cell_carry t0 (Carries.of 0 hd)
      have t1 := cell_carry t1 (Carries.of 0 hd)
      have HXW0 := Lib.hid (HXW.out.keep (Carries.of lo hd)); clear HXW
      have HRW0 := Lib.hid (HRW.out.keep hd); clear HRW
      clear hd
      obtain ⟨Y, hY⟩ : ∃ Y, Y = movI X.1 d := ⟨_, rfl⟩
      obtain ⟨Z, hZ⟩ : ∃ Z, Z = movI X.2 d := ⟨_, rfl⟩
      have hrt : (movTs ts d).getD k ([], []) = (Y, Z) := by rw [movTs_get hlt, ← HXT.out, hY, hZ]; rfl
      have HRT := Lib.hid hrt; clear hrt
      have HY := Lib.hid hY; clear hY
      have HZ := Lib.hid hZ; clear hZ
      refine tk0 (v := ?_) (by kernel_rfl) (by kernel_rfl) (by kernel_rfl) (by first | exact fun _ _ _ h => h | exact fun _ _ _ h => absurd h.1 (by simp)) (Or.inl ⟨by rfl, ?_⟩) (by assumption) ?_
      rotate_left 1
      focus (intro wx hSw; (try dsimp only at hSw); go_simp; try (with_reducible rfl))
      try simp only [Act.put, List.setIfInBounds_toArray, List.set_cons_zero, List.set_cons_succ]
      refine tk1 (v := ?_) (by kernel_rfl) (by kernel_rfl) (by kernel_rfl) (by first | exact fun _ _ _ h => h | exact fun _ _ _ h => absurd h.1 (by simp)) (Or.inl ⟨by rfl, ?_⟩) (by assumption) ?_
      rotate_left 1
      focus (intro wx hSw; (try dsimp only at hSw); go_simp; try (with_reducible rfl))
      try simp only [Act.put, List.setIfInBounds_toArray, List.set_cons_zero, List.set_cons_succ]
      refine tk2 (v := ?_) (by kernel_rfl) (by kernel_rfl) (by kernel_rfl) (by first | exact fun _ _ _ h => h | exact fun _ _ _ h => absurd h.1 (by simp)) (Or.inl ⟨by rfl, ?_⟩) (by assumption) ?_
      rotate_left 1
      focus (intro wx hSw; (try dsimp only at hSw); go_simp; try (with_reducible rfl))
      try simp only [Act.put, List.setIfInBounds_toArray, List.set_cons_zero, List.set_cons_succ]
      refine tk3 (v := ?_) (by kernel_rfl) (by kernel_rfl) (by kernel_rfl) (by first | exact fun _ _ _ h => h | exact fun _ _ _ h => absurd h.1 (by simp)) (Or.inl ⟨by rfl, ?_⟩) (by assumption) ?_
      rotate_left 1
      focus (intro wx hSw; (try dsimp only at hSw); go_simp; try (with_reducible rfl))
      try simp only [Act.put, List.setIfInBounds_toArray, List.set_cons_zero, List.set_cons_succ]
      refine tk4 (v := ?_) (by kernel_rfl) (by kernel_rfl) (by kernel_rfl) (by first | exact fun _ _ _ h => h | exact fun _ _ _ h => absurd h.1 (by simp)) (Or.inl ⟨by rfl, ?_⟩) (by assumption) ?_
      rotate_left 1
      focus (intro wx hSw; (try dsimp only at hSw); go_simp; try (with_reducible rfl))
      try simp only [Act.put, List.setIfInBounds_toArray, List.set_cons_zero, List.set_cons_succ]
      refine tk6 (v := ?_) (by kernel_rfl) (by kernel_rfl) (by kernel_rfl) (by first | exact fun _ _ _ h => h | exact fun _ _ _ h => absurd h.1 (by simp)) (Or.inl ⟨by rfl, ?_⟩) (by assumption) ?_
      rotate_left 1
      focus (intro wx hSw; (try dsimp only at hSw); go_simp; try (with_reducible rfl))
      try simp only [Act.put, List.setIfInBounds_toArray, List.set_cons_zero, List.set_cons_succ]
      refine tk7 (v := ?_) (by kernel_rfl) (by kernel_rfl) (by kernel_rfl) (by first | exact fun _ _ _ h => h | exact fun _ _ _ h => absurd h.1 (by simp)) (Or.inl ⟨by rfl, ?_⟩) (by assumption) ?_
      rotate_left 1
      focus (intro wx hSw; (try dsimp only at hSw); go_simp; try (with_reducible rfl))
      try simp only [Act.put, List.setIfInBounds_toArray, List.set_cons_zero, List.set_cons_succ]
      refine tk8 (v := ?_) (by kernel_rfl) (by kernel_rfl) (by kernel_rfl) (by first | exact fun _ _ _ h => h | exact fun _ _ _ h => absurd h.1 (by simp)) (Or.inl ⟨by rfl, ?_⟩) (by assumption) ?_
      rotate_left 1
      focus (intro wx hSw; (try dsimp only at hSw); go_simp; try (with_reducible rfl))
      try simp only [Act.put, List.setIfInBounds_toArray, List.set_cons_zero, List.set_cons_succ]
      refine rd5 (by kernel_rfl) (fun K hK => ?_)
      go_simp
      refine (movedPlaces_any _ X.1 d W0 lo HXW0.out.1 s1 LX.out.1 hd0 hd1).mono ?_
      rintro e W1 ⟨y0, rfl, hi0, hbb⟩
      rw [← HY.out] at hi0
      obtain ⟨ya, yk, rfl, _, _⟩ := id hi0
      have bel1 := bel0.trans (hbb.mono bel0.size)
      have zd1 := hbb.size
      have t0 := cell_carry t0 (Carries.of 0 hbb)
      have t1 := cell_carry t1 (Carries.of 0 hbb)
      have HXW1 := Lib.hid (HXW0.out.keep (Carries.of lo hbb)); clear HXW0
      have HRW1 := Lib.hid (HRW0.out.keep hbb); clear HRW0
      have BD0 := Lib.hid hi0.at.bound
      have HI0 := Lib.hid hi0; clear hi0 hbb
      refine hK.out _ _ ⟨t0, t1⟩ (fun hHeld => ?_)
      clear hK K
      try simp only [Act.put, List.setIfInBounds_toArray, List.set_cons_zero, List.set_cons_succ]
      refine rd9 (by kernel_rfl) (fun K hK => ?_)
      go_simp
      refine (movedPlaces_any _ X.2 d W1 lo HXW1.out.2 s2 LX.out.2 hd0 hd1).mono ?_
      rintro e W2 ⟨y1, rfl, hi1, hbb⟩
      rw [← HZ.out] at hi1
      obtain ⟨za', zk, rfl, _, _⟩ := id hi1
      have bel2 := bel1.trans (hbb.mono bel1.size)
      have zd2 := hbb.size
      have t0 := cell_carry t0 (Carries.of 0 hbb)
      have t1 := cell_carry t1 (Carries.of 0 hbb)
      have HRW2 := Lib.hid (HRW1.out.keep hbb); clear HRW1
      have HI0' := Lib.hid (HI0.out.keep (Same.of _ hbb)); clear HI0
      have BD1 := Lib.hid hi1.at.bound
      have HI1 := Lib.hid hi1; clear hi1 hbb
      refine hK.out _ _ ⟨t0, t1⟩ (fun hHeld => ?_)
      clear hK K
      try simp only [Act.put, List.setIfInBounds_toArray, List.set_cons_zero, List.set_cons_succ]
      refine tk10 (v := ?_) (by kernel_rfl) (by kernel_rfl) (by kernel_rfl) (by first | exact fun _ _ _ h => h | exact fun _ _ _ h => absurd h.1 (by simp)) (Or.inl ⟨by rfl, ?_⟩) (by assumption) ?_
      rotate_left 1
      focus (intro wx hSw; (try dsimp only at hSw); go_simp; try (with_reducible rfl))
      try simp only [Act.put, List.setIfInBounds_toArray, List.set_cons_zero, List.set_cons_succ]
      refine tk11 (v := ?_) (by kernel_rfl) (by kernel_rfl) (by kernel_rfl) (by first | exact fun _ _ _ h => h | exact fun _ _ _ h => absurd h.1 (by simp)) (Or.inl ⟨by rfl, ?_⟩) (by assumption) ?_
      rotate_left 1
      focus (intro wx hSw; (try dsimp only at hSw); go_simp; try (with_reducible rfl))
      try simp only [Act.put, List.setIfInBounds_toArray, List.set_cons_zero, List.set_cons_succ]
      obtain ⟨o0, o1, oc0, oc1, of0, of1⟩ := HRW2.out.cells hlt
      have hRr : w.heap.size + 1 < wr.heap.size := by omega
      have hput := HRW2.out.put (s0 := W0.heap.size) (s1 := W1.heap.size) (s2 := W2.heap.size) (v0 := .slice ya Y.length yk) (v1 := .slice za' Z.length zk) hlt (by omega) (fun i => by have := hcs i; omega) zd1 zd2 (by rw [HRT.out]; exact HI0'.out) BD0.out (by rw [HRT.out]; exact HI1.out) BD1.out
      obtain ⟨c2, hc20, hc2s, hsep⟩ := hput
      have HSEP := Lib.hid hsep; clear hsep
      refine rd12 (by kernel_rfl) (fun K hK => ?_)
      go_simp
      have hs2 : Below w.heap.size w ((W2.setCell ⟨w.heap.size + 1, k * 2, none⟩ (.slice ya Y.length yk)).setCell ⟨w.heap.size + 1, k * 2 + 1, none⟩ (.slice za' Z.length zk)) := (bel2.setCell (Nat.le_succ _) _).setCell (Nat.le_succ _) _
      have p2 : ((W2.setCell ⟨w.heap.size + 1, k * 2, none⟩ (.slice ya Y.length yk)).setCell ⟨w.heap.size + 1, k * 2 + 1, none⟩ (.slice za' Z.length zk)).cell? ⟨wr.heap.size, 0, none⟩ = some (.slice xa0 X.1.length xk0) := (World.cell?_setCell_far _ _ _ _ (Nat.ne_of_lt hRr)).trans ((World.cell?_setCell_far _ _ _ _ (Nat.ne_of_lt hRr)).trans t0)
      have p3 : ((W2.setCell ⟨w.heap.size + 1, k * 2, none⟩ (.slice ya Y.length yk)).setCell ⟨w.heap.size + 1, k * 2 + 1, none⟩ (.slice za' Z.length zk)).cell? ⟨wr.heap.size, 1, none⟩ = some (.slice xa1 X.2.length xk1) := (World.cell?_setCell_far _ _ _ _ (Nat.ne_of_lt hRr)).trans ((World.cell?_setCell_far _ _ _ _ (Nat.ne_of_lt hRr)).trans t1)
      have p4 : ((W2.setCell ⟨w.heap.size + 1, k * 2, none⟩ (.slice ya Y.length yk)).setCell ⟨w.heap.size + 1, k * 2 + 1, none⟩ (.slice za' Z.length zk)).heap.size = W2.heap.size := by simp
      generalize (W2.setCell ⟨w.heap.size + 1, k * 2, none⟩ (.slice ya Y.length yk)).setCell ⟨w.heap.size + 1, k * 2 + 1, none⟩ (.slice za' Z.length zk) = W3 at hs2 p2 p3 p4 HSEP ⊢
      refine hK.out _ _ ⟨p2, p3⟩ (fun hHeld => ?_)
      clear hK K
      try simp only [Act.put, List.setIfInBounds_toArray, List.set_cons_zero, List.set_cons_succ]
      refine wpAnyH_done (by kernel_rfl) ?_ _
      clear t0 t1 p2 p3 oc0 oc1 of0 of1 q2 q3
      go_wp2_with fail
      go_roundw
      case rel => exact ⟨k + 1, c2, by omega, by go_num, by omega, fun i => by rw [p4]; exact hc2s i, HSEP.out, hs2⟩
      case measure => simp [intOf]; omega
    · have hkk : k = ts.length := by omega
      subst hkk
      have SR := Lib.hid hrow.out; clear hrow
      go_wp2_with fail
      go_ret
      exact ⟨_, c, rfl, by omega, by omega, hcs, SR.out, hb1⟩

end Go.Proofs.Ytgmnknlnlmcmfaa
