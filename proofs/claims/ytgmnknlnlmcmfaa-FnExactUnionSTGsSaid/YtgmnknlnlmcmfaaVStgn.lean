/- WALKS: toSTG (what may be written in its answer), markSTG. -/
import Derived.Test.YtgmnknlnlmcmfaaVStgm
namespace Go.Proofs.Ytgmnknlnlmcmfaa
open Go.RowKit

set_option maxHeartbeats 2000000 in
theorem toSTG_ow (v : Value) (s : StgD) (w : World) (lo : Nat) (hv : StgAt lo w v s) (hs : SmallStg s) :
    Calls Try.prog 37 #[v] w (fun e w' => ∃ u, e = .returned u ∧ StgOw w.heap.size w' u s ∧ Below w.heap.size w w') := by
  obtain ⟨a0, c0, a1, c1, a2, c2, rfl, hn, hsg, hl⟩ := hv.form
  clear hv
  obtain ⟨n, ss, ls, st⟩ := s
  obtain ⟨k1, k2, k3, k4⟩ := hs
  simp only at hn hsg hl k1 k2 k3 k4 ⊢
  have HN := Lib.hid hn; clear hn
  have HG := Lib.hid hsg; clear hsg
  have HL := Lib.hid hl; clear hl
  have K1 := Lib.hid k1; clear k1
  have K2 := Lib.hid k2; clear k2
  go_enter Try.func37, Try.ntmps37
  go_wp2_with fail
  refine (toNet_ow _ n _ lo (HN.out.keep ?_) K1.out).mono ?_
  · (repeat' (first | (with_reducible exact Carries.refl _ _) | (with_reducible assumption) | (with_reducible refine Carries.alloc ?_ _) | (with_reducible refine Carries.drew ?_) | (with_reducible refine Carries.drewN ?_ _) | (with_reducible refine Carries.set ?_ ?_ _) | go_size))
  rintro e w1 ⟨r0, rfl, hi0, hb0⟩
  obtain ⟨hc, hf⟩ := bcell hb0
  have hw1 : Below w.heap.size w w1 := by
    refine Below.trans ?_ (hb0.mono ?_)
    · go_grown
    · simp; omega
  obtain ⟨b0, m0, rfl⟩ := hi0.at.form
  have I0 := Lib.hid (hi0.low (lo' := w.heap.size + 3) (by simp)); clear hi0
  have hz1 : w.heap.size + 1 + 1 < w1.heap.size := by have := hb0.size; simp at this; omega
  have hz1a : w.heap.size + 1 < w1.heap.size := by omega
  have hz1b : w.heap.size < w1.heap.size := by omega
  go_wp2_with fail
  refine (toSignalS_row _ ss _ lo (HG.out.keep (Carries.of lo ?_)) K2.out.1).mono ?_
  · go_grown
  rintro e w2 ⟨bs, rfl, hbs0, hbs1, hrow1, hb1⟩
  obtain ⟨hc2, hf2⟩ := bcell hb1
  have hw2 : Below w.heap.size w w2 := by
    refine Below.trans ?_ (hb1.mono ?_)
    · go_grown
    · simp; omega
  have hbs2 : w1.heap.size ≤ bs := by simpa using hbs0
  have hz2 : w1.heap.size ≤ w2.heap.size := by have := hb1.size; simpa using this
  have hz2a : w.heap.size + 1 + 1 < w2.heap.size := by omega
  have hz2b : w.heap.size + 1 < w2.heap.size := by omega
  have hz2c : w.heap.size < w2.heap.size := by omega
  have S12 := Lib.hid (show Same (w.heap.size + 3) w1 w2 from Same.trans (by (repeat' (first | (with_reducible exact Same.refl _ _) | (with_reducible assumption) | (with_reducible refine Same.alloc ?_ _) | (with_reducible refine Same.drew ?_) | (with_reducible refine Same.drewN ?_ _) | (with_reducible refine Same.set ?_ ?_ _) | go_size))) (Same.of _ hb1))
  have J1 := Lib.hid hrow1; clear hrow1
  go_wp2_with fail
  refine (toLabelS_row _ ls _ lo (HL.out.keep (Carries.of lo ?_)) k3).mono ?_
  · go_grown
  rintro e w3 ⟨bl, rfl, hbl0, hbl1, hrow2, hb2⟩
  obtain ⟨hc3, hf3⟩ := bcell hb2
  have hw3 : Below w.heap.size w w3 := by
    refine Below.trans ?_ (hb2.mono ?_)
    · go_grown
    · simp; omega
  have hbl2 : w2.heap.size ≤ bl := by simpa using hbl0
  have hz3 : w2.heap.size ≤ w3.heap.size := by have := hb2.size; simpa using this
  have S23 := Lib.hid (show Same (w.heap.size + 3) w2 w3 from Same.trans (by (repeat' (first | (with_reducible exact Same.refl _ _) | (with_reducible assumption) | (with_reducible refine Same.alloc ?_ _) | (with_reducible refine Same.drew ?_) | (with_reducible refine Same.drewN ?_ _) | (with_reducible refine Same.set ?_ ?_ _) | go_size))) (Same.of _ hb2))
  have J2 := Lib.hid hrow2; clear hrow2
  go_wp2_with fail
  refine bodyPost_ret (v := .agg #[.int .i64 n.places, .slice b0 n.ts.length m0, .slice (some ⟨bs, 0, none⟩) ss.length ss.length, .slice (some ⟨bl, 0, none⟩) ls.length ls.length, .string st]) (by simp [results, Try.results37, go_sem, hc, hc2, hc3, hz1a, hz2b]) rfl ?_
  have fin : ∀ (X : World), Same (w.heap.size + 3) w3 X → Below w.heap.size w X → ∃ u, Ending.returned (.agg #[.int .i64 n.places, .slice b0 n.ts.length m0, .slice (some ⟨bs, 0, none⟩) ss.length ss.length, .slice (some ⟨bl, 0, none⟩) ls.length ls.length, .string st]) = .returned u ∧ StgOw w.heap.size X u ⟨n, ss, ls, st⟩ ∧ Below w.heap.size w X := by
    intro X hX hB
    have x1 := S12.out.trans (S23.out.trans hX)
    have x2 := S23.out.trans hX
    have row1 := J1.out.keep (w' := X) (x2.2 bs (by omega) hbs1)
    have row2 := J2.out.keep (w' := X) (hX.2 bl (by omega) hbl1)
    have zX := hX.1
    refine ⟨_, rfl, ⟨w1, w.heap.size + 3, w2.heap.size, _, _, _, rfl, by omega, by omega, hz2, by omega, I0.out, x1, row1.box.wide hbs2 (by omega), row2.box.wide hbl2 (by omega), ?_⟩, hB⟩
    exact ⟨_, _, _, rfl, ((I0.out.keep x1).at).low (by omega), (PairsAt.low row1.read (by omega) : SigsAt _ _ _ _), (PairsAt.low row2.read (by omega) : LabsAt _ _ _ _)⟩
  refine fin _ ?_ ?_
  · (repeat' (first | (with_reducible exact Same.refl _ _) | (with_reducible assumption) | (with_reducible refine Same.alloc ?_ _) | (with_reducible refine Same.drew ?_) | (with_reducible refine Same.drewN ?_ _) | (with_reducible refine Same.set ?_ ?_ _) | go_size))
  · (repeat' (first | (with_reducible exact Below.refl _ _) | (with_reducible assumption) | (with_reducible refine Below.alloc ?_ ?_ _) | (with_reducible refine Below.drew ?_) | (with_reducible refine below_drewN ?_ _) | (with_reducible refine Below.setCell ?_ ?_ _) | go_size))

set_option maxRecDepth 100000 in
set_option maxHeartbeats 1000000 in
theorem markSTG_le (v : Value) (s : StgD) (w0 w : World) (B : Nat) (hv : StgOw B w0 v s) (hsm : Same B w0 w) (hs : SmallStg s) :
    Calls Try.prog 40 #[v, .int .i64 1] w (fun e w' => ∃ r : Int, e = .returned (.int .i64 r) ∧ 0 ≤ r ∧ r ≤ 2200000000000 ∧ Stir B w0.heap.size w w') := by
  obtain ⟨wN, l, m, vt, vs, vl, rfl, hBl, hlN, hNm, hm0, hno, hsN, hbs, hbl, hat⟩ := hv
  obtain ⟨n, ss, ls, st⟩ := s
  obtain ⟨k1, k2, k3, k4⟩ := hs
  simp only at hno hbs hbl hat k1 k2 k3 k4 ⊢
  obtain ⟨a0, c0, e0⟩ := hno.at.form
  obtain rfl : vt = .slice a0 n.ts.length c0 := by
    injection e0 with e; injection e with e; injection e with e1 e2; injection e2 with e2
  obtain ⟨a1, c1, rfl⟩ := hbs.form
  obtain ⟨a2, c2, rfl⟩ := hbl.form
  have z0 := hsm.1
  have hsl : Same l wN w := ⟨Nat.le_trans hsN.1 hsm.1, fun b h1 h2 => (hsm.2 b (by omega) (Nat.lt_of_lt_of_le h2 hsN.1)).trans (hsN.2 b h1 h2)⟩
  have hst : Stir 0 B w0 w ∨ True := Or.inr trivial
  have hbs' : PairBox wN.heap.size m w (.slice a1 ss.length c1) ss.length := by
    obtain ⟨ao, cap, hv, hz⟩ := hbs
    refine ⟨ao, cap, hv, ?_⟩
    rcases hz with hz | ⟨b, off, ha, q1, q2, hcell⟩
    · exact Or.inl hz
    · refine Or.inr ⟨b, off, ha, q1, q2, fun i hi => ?_⟩
      obtain ⟨⟨u, hu⟩, hf⟩ := hcell i hi
      have he := hsm.2 b (by omega) (by have := cell_old hu; simpa using this)
      exact ⟨⟨u, (World.cell?_of_block (w := w0) (w' := w) (a := ⟨b, off + i, none⟩) he).trans hu⟩, (World.frozen?_of_block (w := w0) (w' := w) (a := ⟨b, off + i, none⟩) he).trans hf⟩
  have hbl' : PairBox m w0.heap.size w (.slice a2 ls.length c2) ls.length := by
    obtain ⟨ao, cap, hv, hz⟩ := hbl
    refine ⟨ao, cap, hv, ?_⟩
    rcases hz with hz | ⟨b, off, ha, q1, q2, hcell⟩
    · exact Or.inl hz
    · refine Or.inr ⟨b, off, ha, q1, q2, fun i hi => ?_⟩
      obtain ⟨⟨u, hu⟩, hf⟩ := hcell i hi
      have he := hsm.2 b (by omega) (by have := cell_old hu; simpa using this)
      exact ⟨⟨u, (World.cell?_of_block (w := w0) (w' := w) (a := ⟨b, off + i, none⟩) he).trans hu⟩, (World.frozen?_of_block (w := w0) (w' := w) (a := ⟨b, off + i, none⟩) he).trans hf⟩
  have HN := Lib.hid hno; clear hno e0
  have HSL := Lib.hid hsl; clear hsl hsN
  have HBS := Lib.hid hbs'; clear hbs hbs'
  have HBL := Lib.hid hbl'; clear hbl hbl' hat hst
  have K1 := Lib.hid k1; clear k1
  have K2 := k2.1; clear k2
  have hTr := totTo_le K1.out n.ts.length (Nat.le_refl _)
  have hl1 : n.ts.length ≤ 1048576 := K1.out.1
  have hT2 : totTo n.ts n.ts.length ≤ 2199023255552 := by omega
  go_enter Try.func40, Try.ntmps40
  have hal : Below w.heap.size w (w.alloc (.cells #[.int .i64 n.places, .slice a0 n.ts.length c0, .slice a1 ss.length c1, .slice a2 ls.length c2, .string st] 63)) := (Below.refl _ _).alloc (Nat.le_refl _) _
  go_wp2_with fail
  have x2 : (w.alloc (.cells #[.int .i64 n.places, .slice a0 n.ts.length c0, .slice a1 ss.length c1, .slice a2 ls.length c2, .string st] 63)).cell? ⟨w.heap.size, 2, none⟩ = some (.slice a1 ss.length c1) := by simp
  have x3 : (w.alloc (.cells #[.int .i64 n.places, .slice a0 n.ts.length c0, .slice a1 ss.length c1, .slice a2 ls.length c2, .string st] 63)).cell? ⟨w.heap.size, 3, none⟩ = some (.slice a2 ls.length c2) := by simp
  generalize w.alloc (.cells #[.int .i64 n.places, .slice a0 n.ts.length c0, .slice a1 ss.length c1, .slice a2 ls.length c2, .string st] 63) = W at hal x2 x3 ⊢
  have zW := hal.size
  refine (markNet_any _ n 1 wN W l HN.out (HSL.out.trans (Same.of _ hal)) K1.out (by omega) (by omega)).mono ?_
  rintro e w1 ⟨wa, rfl, hba, hmk⟩
  have ST1 : Stir B w0.heap.size w w1 := (Stir.of _ _ hal).trans ((Stir.of _ _ hba).trans (hmk.stir.wide (by omega) (by omega)))
  have y2 := hmk.cell (Or.inr (by simp; omega)) (cell_carry x2 (Carries.of 0 hba))
  have y3 := hmk.cell (Or.inr (by simp; omega)) (cell_carry x3 (Carries.of 0 hba))
  have B1 := Lib.hid (((HBS.out.after hal).after hba).stir hmk.stir (Or.inr (Nat.le_refl _)))
  have B2 := Lib.hid (((HBL.out.after hal).after hba).stir hmk.stir (Or.inr (by omega)))
  clear hmk hba x2 x3 hal HBS HBL
  generalize totTo n.ts n.ts.length = T at hT2
  go_wp2_with fail
  refine (markSignalS_any _ ss.length _ _ _ _ B1.out K2 (by omega) (by omega)).mono ?_
  rintro e w2 ⟨rfl, hst⟩
  have ST2 := ST1.trans (hst.wide (by omega) (by omega))
  have y3 := hst.cell (Or.inr (by simp; omega)) y3
  have B3 := Lib.hid (B2.out.stir hst (Or.inr (Nat.le_refl _)))
  clear hst y2 B1 B2
  go_wp2_with fail
  refine (markLabelS_any _ ls.length _ _ _ _ B3.out k3 (by omega) (by omega)).mono ?_
  rintro e w3 ⟨rfl, hst⟩
  have ST3 := ST2.trans (hst.wide (by omega) (by omega))
  go_wp2_with fail
  go_ret
  exact ⟨_, rfl, by omega, by omega, ST3⟩

theorem markSTG_any (v : Value) (s : StgD) (w0 w : World) (B : Nat) (hv : StgOw B w0 v s) (hsm : Same B w0 w) (hs : SmallStg s) :
    Calls Try.prog 40 #[v, .int .i64 1] w (fun e w' => ∃ r : Int, e = .returned (.int .i64 r) ∧ 0 ≤ r ∧ Stir B w0.heap.size w w') := by
  refine (markSTG_le v s w0 w B hv hsm hs).mono ?_
  rintro e w1 ⟨r, h1, h2, _, h3⟩
  exact ⟨r, h1, h2, h3⟩

end Go.Proofs.Ytgmnknlnlmcmfaa
