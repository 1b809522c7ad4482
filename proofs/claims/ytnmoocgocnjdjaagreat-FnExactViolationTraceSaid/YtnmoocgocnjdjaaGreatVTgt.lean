/- WALK: targets of the program. -/
import Derived.Test.YtnmoocgocnjdjaaGreatVNxt
import Derived.Test.YtnmoocgocnjdjaaGreatVNetb
import Derived.Test.YtnmoocgocnjdjaaGreatVSteps
import Derived.Deep.RegionHeld3
namespace Go.Proofs.YtnmoocgocnjdjaaGreat
open Go.RowKit

theorem grown_cell {w w' : World} {row : Option Nat} (hg : w.grownBy w' row) {a : Addr} {v : Value} (hr : some a.block ≠ row) (hc : w.cell? a = some v) : w'.cell? a = some v :=
  (World.cell?_of_block (hg.block a.block (cell_old hc) hr)).trans hc
theorem grown_frozen {w w' : World} {row : Option Nat} (hg : w.grownBy w' row) {a : Addr} {v : Value} (hr : some a.block ≠ row) (hc : w.cell? a = some v) (hf : w.frozen? a = false) : w'.frozen? a = false :=
  (World.frozen?_of_block (hg.block a.block (cell_old hc) hr)).trans hf
theorem ownsRow_ge {w : World} {B : Nat} {e : TypeId} {sz : Nat} {v : Value} {n : Nat} {xs : List Value} {b : Nat} (h : w.ownsRow B e sz v n xs) (hv : v.ownBlock = some b) : B ≤ b := by
  rcases h.2 with ⟨rfl, _⟩ | ⟨g, cap, cur, rfl, hB, _⟩
  · simp [Value.ownBlock] at hv
  · simp only [Value.ownBlock, Option.some.injEq] at hv
    omega
theorem frozen_carry {w w' : World} {a : Addr} {v : Value} (hf : w.frozen? a = false) (hc : w.cell? a = some v) (hb : Below w.heap.size w w') : w'.frozen? a = false := (hb.frozen (p := a) (cell_old hc)).trans hf

set_option maxRecDepth 100000 in
set_option maxHeartbeats 4000000 in
theorem targets_any (n : Nat) (v : Value) (ms : List Mv) (w : World) (lo : Nat) (hv : MovesAt lo w v ms) (hn : n ≤ 1048576) (hl : ms.length ≤ 1048576) (hin : ∀ i, i < ms.length → 0 ≤ mvF ms i ∧ mvF ms i < n) :
    Calls Tryz.prog 188 #[.int .i64 (n : Int), v] w (RetNexts w n (tgL ms)) := by
  obtain ⟨ao, cap, rfl, hc, hz⟩ := hv
  have HF := Lib.hid hz; clear hz
  have HIN := Lib.hid hin; clear hin
  have hmk := run_make_row' (P := Tryz.prog) 233 29 (.slice none 0 0) 24 Tryz.underlying233 Tryz.infoInts rfl .i64 .i64 n (by omega) (by omega)
  obtain ⟨i0, hi0, hz0, hz1, hz2⟩ := info_parts Tryz.infoInt
  go_enter Tryz.func188, Tryz.ntmps188
  go_wp2_with fail
  go_loopw [12] (fun i wr => ∃ (k : Nat) (f : Nat → Value), k ≤ ms.length ∧ i = .int .i64 k ∧ Hid (NextsOw w.heap.size w.heap.size wr n (tgTo ms k) f) ∧ Below w.heap.size w wr ∧ w.heap.size < wr.heap.size) (fun i _ => ms.length - (intOf i).toNat)
  case atStart => exact ⟨0, _, Nat.zero_le _, rfl, NextsOw.nil w n, (Below.refl _ _).alloc (Nat.le_refl _) _, by simp⟩
  case round =>
    obtain ⟨k, f, hk, rfl, how, hb1, zr⟩ := hrel
    by_cases hlt : k < ms.length
    · rcases HF.out with h0 | ⟨b, off, rfl, hlo, hcell⟩
      · omega
      obtain ⟨q0, q1, q2⟩ := hcell k hlt
      have d0 := Carries.of lo hb1 _ _ hlo q0
      have d1 := Carries.of lo hb1 _ _ hlo q1
      have d2 := Carries.of lo hb1 _ _ hlo q2
      clear hcell q0 q1 q2
      try dsimp only at d0 d1 d2
      have hfr := HIN.out k hlt
      have hnext : tgTo ms (k + 1) = updL (tgTo ms k) (mvF ms k).toNat (mvT ms k) := rfl
      obtain ⟨fr, hfr2⟩ := Int.eq_ofNat_of_zero_le hfr.1
      rw [hfr2] at d0 hfr hnext
      rw [Int.toNat_natCast] at hnext
      have HN := Lib.hid hnext; clear hnext hfr2
      have hi1 : (0 : Int) ≤ (fr : Int) := hfr.1
      have hi2 : (fr : Int) < (n : Int) := hfr.2
      have hi3 : fr < n := by omega
      clear hfr
      generalize mvB ms k = by_ at d1
      generalize mvT ms k = to_ at d2 HN
      have hln := tgTo_length ms k fr
      obtain ⟨l, hll⟩ : ∃ l, l = (tgTo ms k fr).length := ⟨_, rfl⟩
      rw [← hll] at hln
      have HLL := Lib.hid hll; clear hll
      have e0 : wr.cell? ⟨w.heap.size, fr, none⟩ = some (f fr) := how.out.1.cell hi3
      have g0 : wr.frozen? ⟨w.heap.size, fr, none⟩ = false := how.out.1.frozen fr
      have hwn : some w.heap.size ≠ (f fr).ownBlock := fun h => (how.out.2.2.1 fr hi3).2 h.symm
      have hown : wr.ownsRow w.heap.size 3 1 (f fr) l (intCells (tgTo ms k fr)) := by rw [HLL.out]; exact (how.out.2.2.1 fr hi3).1
      have HOWN := Lib.hid hown; clear hown
      obtain ⟨vf, hvf⟩ : ∃ x, x = f fr := ⟨_, rfl⟩
      rw [← hvf] at e0 hwn HOWN
      have HVF := Lib.hid hvf; clear hvf
      have hbx : some wr.heap.size ≠ vf.ownBlock := fun h => by have := ownsRow_lt HOWN.out h.symm; omega
      have hal : Below wr.heap.size wr (wr.alloc (.cells #[.int .i64 (fr : Int), .int .i64 by_, .int .i64 to_] 189)) := (Below.refl _ _).alloc (Nat.le_refl _) _
      have b0 : (wr.alloc (.cells #[.int .i64 (fr : Int), .int .i64 by_, .int .i64 to_] 189)).cell? ⟨wr.heap.size, 0, none⟩ = some (.int .i64 (fr : Int)) := by simp
      have b2 : (wr.alloc (.cells #[.int .i64 (fr : Int), .int .i64 by_, .int .i64 to_] 189)).cell? ⟨wr.heap.size, 2, none⟩ = some (.int .i64 to_) := by simp
      go_wp2_with fail
      have ho1 := Lib.hid (how.out.after hal)
      have e1 := cell_carry e0 (Carries.of 0 hal)
      have g1 : (wr.alloc (.cells #[.int .i64 (fr : Int), .int .i64 by_, .int .i64 to_] 189)).frozen? ⟨w.heap.size, fr, none⟩ = false := (hal.frozen (p := ⟨w.heap.size, fr, none⟩) zr).trans g0
      have hw1 : Below w.heap.size w (wr.alloc (.cells #[.int .i64 (fr : Int), .int .i64 by_, .int .i64 to_] 189)) := hb1.trans (hal.mono (Nat.le_of_lt zr))
      have zW : wr.heap.size < (wr.alloc (.cells #[.int .i64 (fr : Int), .int .i64 by_, .int .i64 to_] 189)).heap.size := by simp
      have HOWN1 := Lib.hid (ownsRow_keep HOWN.out (fun b _ hlt => hal.block b hlt))
      clear hal d0 d1 d2 e0 g0 how hb1 HOWN
      generalize wr.alloc (.cells #[.int .i64 (fr : Int), .int .i64 by_, .int .i64 to_] 189) = W at b0 b2 ho1 e1 g1 hw1 zW HOWN1 ⊢
      have zn : w.heap.size < W.heap.size := by omega
      have CX := Lib.hid (fun (w' : World) (h : Below W.heap.size W w') => And.intro (cell_carry b0 (Carries.of 0 h)) (cell_carry b2 (Carries.of 0 h)))
      have CE := Lib.hid (fun (w' : World) (h : Below W.heap.size W w') => And.intro (cell_carry e1 (Carries.of 0 h)) (frozen_carry g1 e1 h))
      have hq1 : Below W.heap.size W (W.alloc (.cells #[.int .i64 to_] 3)) := (Below.refl _ _).alloc (Nat.le_refl _) _
      have e2 := (CE.out _ hq1).1
      have hne : (⟨w.heap.size, fr, none⟩ : Addr) ≠ ⟨wr.heap.size, 0, none⟩ := fun h => by injection h; omega
      have hne2 : (⟨w.heap.size, fr, none⟩ : Addr) ≠ ⟨wr.heap.size, 2, none⟩ := fun h => by injection h; omega
      refine wp_region_held_drew (S := fun w' => w'.cell? ⟨wr.heap.size, 0, none⟩ = some (.int .i64 (fr : Int)) ∧ w'.cell? ⟨wr.heap.size, 2, none⟩ = some (.int .i64 to_)) (by kernel_rfl) ⟨b0, b2⟩ (fun hHeld => ?_)
      refine tk0 (v := ?_) (by kernel_rfl) (by kernel_rfl) (by kernel_rfl) (by first | exact fun _ _ _ h => h | exact fun _ _ _ h => absurd h.1 (by simp)) (Or.inl ⟨by rfl, ?_⟩) (by assumption) ?_
      rotate_left 1
      focus (intro wx hSw; (try dsimp only at hSw); go_simp; try (with_reducible rfl))
      try simp only [Act.put, List.setIfInBounds_toArray, List.set_cons_zero, List.set_cons_succ]
      refine tk1 (v := ?_) (by kernel_rfl) (by kernel_rfl) (by kernel_rfl) (by first | exact fun _ _ _ h => h | exact fun _ _ _ h => absurd h.1 (by simp)) (Or.inl ⟨by rfl, ?_⟩) (by assumption) ?_
      rotate_left 1
      focus (intro wx hSw; (try dsimp only at hSw); go_simp; try (with_reducible rfl))
      try simp only [Act.put, List.setIfInBounds_toArray, List.set_cons_zero, List.set_cons_succ]
      refine tk2 (v := ?_) (by kernel_rfl) (by kernel_rfl) (by kernel_rfl) (by first | exact fun _ _ _ h => h | exact fun _ _ _ h => absurd h.1 (by simp)) (Or.inl ⟨by rfl, ?_⟩) (by assumption) ?_
      rotate_left 1
      focus (intro wx hSw; (try dsimp only at hSw); go_simp; try (with_reducible rfl))
      try simp only [Act.put, List.setIfInBounds_toArray, List.set_cons_zero, List.set_cons_succ]
      refine tk3 (v := ?_) (by kernel_rfl) (by kernel_rfl) (by kernel_rfl) (by first | exact fun _ _ _ h => h | exact fun _ _ _ h => absurd h.1 (by simp)) (Or.inl ⟨by rfl, ?_⟩) (by assumption) ?_
      rotate_left 1
      focus (intro wx hSw; (try dsimp only at hSw); go_simp; try (with_reducible rfl))
      try simp only [Act.put, List.setIfInBounds_toArray, List.set_cons_zero, List.set_cons_succ]
      refine tk4 (v := ?_) (by kernel_rfl) (by kernel_rfl) (by kernel_rfl) (by first | exact fun _ _ _ h => h | exact fun _ _ _ h => absurd h.1 (by simp)) (Or.inl ⟨by rfl, ?_⟩) (by assumption) ?_
      rotate_left 1
      focus (intro wx hSw; (try dsimp only at hSw); go_simp; try (with_reducible rfl))
      try simp only [Act.put, List.setIfInBounds_toArray, List.set_cons_zero, List.set_cons_succ]
      refine tk5 (v := ?_) (by kernel_rfl) (by kernel_rfl) (by kernel_rfl) (by first | exact fun _ _ _ h => h | exact fun _ _ _ h => absurd h.1 (by simp)) (Or.inl ⟨by rfl, ?_⟩) (by assumption) ?_
      rotate_left 1
      focus (intro wx hSw; (try dsimp only at hSw); go_simp; try (with_reducible rfl))
      try simp only [Act.put, List.setIfInBounds_toArray, List.set_cons_zero, List.set_cons_succ]
      refine tk6 (v := ?_) (by kernel_rfl) (by kernel_rfl) (by kernel_rfl) (by first | exact fun _ _ _ h => h | exact fun _ _ _ h => absurd h.1 (by simp)) (Or.inl ⟨by rfl, ?_⟩) (by assumption) ?_
      rotate_left 1
      focus (intro wx hSw; (try dsimp only at hSw); go_simp; try (with_reducible rfl))
      try simp only [Act.put, List.setIfInBounds_toArray, List.set_cons_zero, List.set_cons_succ]
      refine tk8 (v := ?_) (by kernel_rfl) (by kernel_rfl) (by kernel_rfl) (by first | exact fun _ _ _ h => h | exact fun _ _ _ h => absurd h.1 (by simp)) (Or.inl ⟨by rfl, ?_⟩) (by assumption) ?_
      rotate_left 1
      focus (intro wx hSw; (try dsimp only at hSw); go_simp; try (with_reducible rfl))
      try simp only [Act.put, List.setIfInBounds_toArray, List.set_cons_zero, List.set_cons_succ]
      refine tk9 (v := ?_) (by kernel_rfl) (by kernel_rfl) (by kernel_rfl) (by first | exact fun _ _ _ h => h | exact fun _ _ _ h => absurd h.1 (by simp)) (Or.inl ⟨by rfl, ?_⟩) (by assumption) ?_
      rotate_left 1
      focus (intro wx hSw; (try dsimp only at hSw); go_simp; try (with_reducible rfl))
      try simp only [Act.put, List.setIfInBounds_toArray, List.set_cons_zero, List.set_cons_succ]
      refine wpAnyH_ready (rs := [7, 10]) (by kernel_rfl) (by simp) ?_
      refine ar7 (fun K hK => ?_) ?_
      · go_simp
        refine hK.out _ _ ⟨b0, b2⟩ (fun hHeld => ?_)
        clear hK K
        try simp only [Act.put, List.setIfInBounds_toArray, List.set_cons_zero, List.set_cons_succ]
        refine rd10 (by kernel_rfl) (fun K hK => ?_)
        go_simp
        refine hK.out _ _ ⟨(CX.out _ hq1.drew).1, (CX.out _ hq1.drew).2⟩ (fun hHeld => ?_)
        clear hK K
        try simp only [Act.put, List.setIfInBounds_toArray, List.set_cons_zero, List.set_cons_succ]
        refine rd11 (by kernel_rfl) (fun K hK => ?_)
        refine step_append_lies _ (by rfl) _ _ _ (by rfl) w.heap.size 3 i0 _ 1 8 Tryz.underlying29 hi0 hz0 hz1 hz2 rfl (by omega) vf l (intCells (tgTo ms k fr)) (by rfl) ((HOWN1.out.alloc _).drew) ⟨W.heap.size, 0, none⟩ 1 1 [.int .i64 to_] (by rfl) (by rfl) (World.news_of_block (cs := #[.int .i64 to_]) (t := 3) (fr := (0, 0)) (heap_alloc_new W _)) (by simp [Value.oneCell']) (by omega) (by unfold maxLen; omega) (by omega) (by simp; omega) (W.heap.size + 1) (by simp) ?_
        intro gg cap' w3 hown1 hgrow hat hlt3
        have X3 := Lib.hid (And.intro (grown_cell hgrow hbx (CX.out _ hq1.drew).1) (grown_cell hgrow hbx (CX.out _ hq1.drew).2))
        have e3 := grown_cell hgrow hwn (CE.out _ hq1.drew).1
        have g3 := grown_frozen hgrow hwn (CE.out _ hq1.drew).1 (CE.out _ hq1.drew).2
        refine hK.out _ _ ⟨X3.out.1, X3.out.2⟩ (fun hHeld => ?_)
        clear hK K
        try simp only [Act.put, List.setIfInBounds_toArray, List.set_cons_zero, List.set_cons_succ]
        refine tk12 (v := ?_) (by kernel_rfl) (by kernel_rfl) (by kernel_rfl) (by first | exact fun _ _ _ h => h | exact fun _ _ _ h => absurd h.1 (by simp)) (Or.inl ⟨by rfl, ?_⟩) (by assumption) ?_
        rotate_left 1
        focus (intro wx hSw; (try dsimp only at hSw); go_simp; try (with_reducible rfl))
        try simp only [Act.put, List.setIfInBounds_toArray, List.set_cons_zero, List.set_cons_succ]
        refine rd13 (by kernel_rfl) (fun K hK => ?_)
        go_simp
        refine hK.out _ _ ⟨(World.cell?_setCell_other _ _ _ _ hne).trans X3.out.1, (World.cell?_setCell_other _ _ _ _ hne2).trans X3.out.2⟩ (fun hHeld => ?_)
        clear hK K
        try simp only [Act.put, List.setIfInBounds_toArray, List.set_cons_zero, List.set_cons_succ]
        refine wpAnyH_done (by kernel_rfl) ?_ _
        have HO4 : Hid (NextsOw w.heap.size w.heap.size (w3.setCell ⟨w.heap.size, fr, none⟩ (.slice (some ⟨gg, 0, none⟩) (l + 1) cap')) n (tgTo ms (k + 1)) (fun q => if q = fr then .slice (some ⟨gg, 0, none⟩) (l + 1) cap' else f q)) := by
          unfold Hid
          rw [HN.out]
          refine (ho1.out.after hq1.drew).put hi3 (by rw [HLL.out]) hown1 ?_ ?_
          · rw [← HVF.out]; exact hgrow
          · rw [← HVF.out]; rcases hat with h | h
            · exact Or.inl h
            · right; rw [h]; simp
        have hw4 : Below w.heap.size w (w3.setCell ⟨w.heap.size, fr, none⟩ (.slice (some ⟨gg, 0, none⟩) (l + 1) cap')) := by
          refine Below.setCell (p := ⟨w.heap.size, fr, none⟩) ?_ (Nat.le_refl w.heap.size) _
          refine (hw1.trans (hq1.drew.mono hw1.size)).trans ⟨hgrow.os, hgrow.tape, hgrow.output, hgrow.size, fun b hb => hgrow.block b (by simp; omega) (fun h => ?_)⟩
          have := ownsRow_ge HOWN1.out h.symm
          omega
        have z4 : w.heap.size < (w3.setCell ⟨w.heap.size, fr, none⟩ (.slice (some ⟨gg, 0, none⟩) (l + 1) cap')).heap.size := by have := hgrow.size; simp at this ⊢; omega
        clear X3 e3 g3 hown1 hgrow hat CX CE HOWN1 ho1 hw1 e1 e2 g1 b0 b2
        go_wp2_with fail
        go_roundw
        case rel => exact ⟨k + 1, _, by omega, by go_num, HO4, hw4, z4⟩
        case measure => simp [intOf]; omega
      refine ar10 (fun K hK => ?_) AllReadyH.nil
      · go_simp
        refine hK.out _ _ ⟨(CX.out _ hq1.drew).1, (CX.out _ hq1.drew).2⟩ (fun hHeld => ?_)
        clear hK K
        try simp only [Act.put, List.setIfInBounds_toArray, List.set_cons_zero, List.set_cons_succ]
        refine rd7 (by kernel_rfl) (fun K hK => ?_)
        go_simp
        refine hK.out _ _ ⟨(CX.out _ hq1.drew).1, (CX.out _ hq1.drew).2⟩ (fun hHeld => ?_)
        clear hK K
        try simp only [Act.put, List.setIfInBounds_toArray, List.set_cons_zero, List.set_cons_succ]
        refine rd11 (by kernel_rfl) (fun K hK => ?_)
        refine step_append_lies _ (by rfl) _ _ _ (by rfl) w.heap.size 3 i0 _ 1 8 Tryz.underlying29 hi0 hz0 hz1 hz2 rfl (by omega) vf l (intCells (tgTo ms k fr)) (by rfl) ((HOWN1.out.alloc _).drew) ⟨W.heap.size, 0, none⟩ 1 1 [.int .i64 to_] (by rfl) (by rfl) (World.news_of_block (cs := #[.int .i64 to_]) (t := 3) (fr := (0, 0)) (heap_alloc_new W _)) (by simp [Value.oneCell']) (by omega) (by unfold maxLen; omega) (by omega) (by simp; omega) (W.heap.size + 1) (by simp) ?_
        intro gg cap' w3 hown1 hgrow hat hlt3
        have X3 := Lib.hid (And.intro (grown_cell hgrow hbx (CX.out _ hq1.drew).1) (grown_cell hgrow hbx (CX.out _ hq1.drew).2))
        have e3 := grown_cell hgrow hwn (CE.out _ hq1.drew).1
        have g3 := grown_frozen hgrow hwn (CE.out _ hq1.drew).1 (CE.out _ hq1.drew).2
        refine hK.out _ _ ⟨X3.out.1, X3.out.2⟩ (fun hHeld => ?_)
        clear hK K
        try simp only [Act.put, List.setIfInBounds_toArray, List.set_cons_zero, List.set_cons_succ]
        refine tk12 (v := ?_) (by kernel_rfl) (by kernel_rfl) (by kernel_rfl) (by first | exact fun _ _ _ h => h | exact fun _ _ _ h => absurd h.1 (by simp)) (Or.inl ⟨by rfl, ?_⟩) (by assumption) ?_
        rotate_left 1
        focus (intro wx hSw; (try dsimp only at hSw); go_simp; try (with_reducible rfl))
        try simp only [Act.put, List.setIfInBounds_toArray, List.set_cons_zero, List.set_cons_succ]
        refine rd13 (by kernel_rfl) (fun K hK => ?_)
        go_simp
        refine hK.out _ _ ⟨(World.cell?_setCell_other _ _ _ _ hne).trans X3.out.1, (World.cell?_setCell_other _ _ _ _ hne2).trans X3.out.2⟩ (fun hHeld => ?_)
        clear hK K
        try simp only [Act.put, List.setIfInBounds_toArray, List.set_cons_zero, List.set_cons_succ]
        refine wpAnyH_done (by kernel_rfl) ?_ _
        have HO4 : Hid (NextsOw w.heap.size w.heap.size (w3.setCell ⟨w.heap.size, fr, none⟩ (.slice (some ⟨gg, 0, none⟩) (l + 1) cap')) n (tgTo ms (k + 1)) (fun q => if q = fr then .slice (some ⟨gg, 0, none⟩) (l + 1) cap' else f q)) := by
          unfold Hid
          rw [HN.out]
          refine (ho1.out.after hq1.drew).put hi3 (by rw [HLL.out]) hown1 ?_ ?_
          · rw [← HVF.out]; exact hgrow
          · rw [← HVF.out]; rcases hat with h | h
            · exact Or.inl h
            · right; rw [h]; simp
        have hw4 : Below w.heap.size w (w3.setCell ⟨w.heap.size, fr, none⟩ (.slice (some ⟨gg, 0, none⟩) (l + 1) cap')) := by
          refine Below.setCell (p := ⟨w.heap.size, fr, none⟩) ?_ (Nat.le_refl w.heap.size) _
          refine (hw1.trans (hq1.drew.mono hw1.size)).trans ⟨hgrow.os, hgrow.tape, hgrow.output, hgrow.size, fun b hb => hgrow.block b (by simp; omega) (fun h => ?_)⟩
          have := ownsRow_ge HOWN1.out h.symm
          omega
        have z4 : w.heap.size < (w3.setCell ⟨w.heap.size, fr, none⟩ (.slice (some ⟨gg, 0, none⟩) (l + 1) cap')).heap.size := by have := hgrow.size; simp at this ⊢; omega
        clear X3 e3 g3 hown1 hgrow hat CX CE HOWN1 ho1 hw1 e1 e2 g1 b0 b2
        go_wp2_with fail
        go_roundw
        case rel => exact ⟨k + 1, _, by omega, by go_num, HO4, hw4, z4⟩
        case measure => simp [intOf]; omega
    · have hkk : k = ms.length := by omega
      subst hkk
      go_wp2_with fail
      go_ret
      exact ⟨_, rfl, how.out.read, hb1⟩

end Go.Proofs.YtnmoocgocnjdjaaGreat
